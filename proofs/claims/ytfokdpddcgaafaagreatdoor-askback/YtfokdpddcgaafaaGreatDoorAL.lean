/- What a reader's name does, said of every call. -/
import Derived.Test.YtfokdpddcgaafaaGreatDoorAK
namespace Go.Proofs.YtfokdpddcgaafaaGreatDoor
open Go.RowKit Go.Proofs Go.Lib Go.Proofs.YtfokdpddcgaafaaGreatDoor.Ask

def nmL (l : List UInt8) : Bool := mayN (bA l) && nameB (bA l)
def NmPost (B : Nat) (ts : List Tok) (w : World) (e : Ending) (w' : World) : Prop :=
  Past B w w' ∧ (((hdTok ts).kind = 1 ∧ nmL (hdTok ts).text = true ∧ e = .returned (.string (bA (hdTok ts).text)) ∧ Rd w' B (ts.drop 1)) ∨ (¬ ((hdTok ts).kind = 1 ∧ nmL (hdTok ts).text = true) ∧ Thrown e))
set_option maxHeartbeats 4000000 in
set_option maxRecDepth 100000 in
theorem rname_any (B : Nat) (ts : List Tok) (w : World) (hr : Rd w B ts) (hn : ts.length ≤ 1000) (hl : (hdTok ts).text.length ≤ 1000000) (hw : NnB w) :
    Calls Tryz.prog 85 #[.pointer (some ⟨B, 0, none⟩)] w (NmPost B ts w) := by
  have HT := mkH (token_rd B ts w hr)
  have HU : Hid (∀ V o, Below w.heap.size w V → Rd (V.alloc o) B ts ∧ Below w.heap.size w (V.alloc o)) := fun V o hb =>
    have hb' := hb.alloc hb.size o
    ⟨hr.up hb', hb'⟩
  have HP : Hid (∀ V, Rd V B ts → Calls Tryz.prog 53 #[.pointer (some ⟨B, 0, none⟩)] V fun e w' => e = .returned (.tuple #[]) ∧ Rd w' B (ts.drop 1) ∧ Past B V w') := fun V h => pass_past B ts V h hn
  have HB : Hid (B < w.heap.size) := hr.lt
  have HW := mkH throw_any
  have HM : Hid (∀ V, Below w.heap.size w V → Calls Tryz.prog 98 #[.string (bA (hdTok ts).text)] V fun e w' => e = .returned (.bool (mayN (bA (hdTok ts).text))) ∧ w' = V) := fun V hb => mayName_any _ V (hw.below hb)
  have HN : Hid (∀ V, Calls Tryz.prog 99 #[.string (bA (hdTok ts).text)] V fun e w' => e = .returned (.bool (nameB (bA (hdTok ts).text))) ∧ Below V.heap.size V w') := fun V => name_any _ V (by rw [bA_size]; unfold maxLen; omega)
  clear hr hn hl hw
  unfold NmPost nmL
  generalize (hdTok ts).kind = tk at *
  generalize bA (hdTok ts).text = tt at *
  generalize (hdTok ts).code = tc at *
  generalize mayN tt = b1 at *
  generalize nameB tt = b2 at *
  by_cases h1 : tk = 1
  · subst h1
    cases b1 with
    | false =>
      go_enter Tryz.func85, Tryz.ntmps85
      go_wp2_with fail
      refine HT.out.mono ?_
      rintro e w1 ⟨⟨p, rfl⟩, hb1⟩
      unfold tokV
      go_wp2_with (first
        | (go_at_call 98; refine (HM.out _ (HU.out _ _ hb1).2).mono ?_; rintro e w2 ⟨rfl, rfl⟩))
      refine (HW.out _ _ _).mono ?_
      rintro e w3 ⟨⟨a, rfl⟩, hb3⟩
      exact ⟨rfl, (Past.of (Nat.le_of_lt HB.out) (HU.out _ _ hb1).2).up (Nat.le_trans (Nat.le_of_lt HB.out) (HU.out _ _ hb1).2.size) hb3, .inr ⟨by simp, _, rfl⟩⟩
    | true =>
      cases b2 with
      | false =>
        go_enter Tryz.func85, Tryz.ntmps85
        go_wp2_with fail
        refine HT.out.mono ?_
        rintro e w1 ⟨⟨p, rfl⟩, hb1⟩
        unfold tokV
        go_wp2_with (first
          | (go_at_call 98; refine (HM.out _ (HU.out _ _ hb1).2).mono ?_; rintro e w2 ⟨rfl, rfl⟩))
        refine (HN.out _).mono ?_
        rintro e w2 ⟨rfl, hb2⟩
        have hk := (hb2.block w1.heap.size (by simp)).trans (heap_alloc_new _ _)
        have hc := cell_of_heap hk 2
        simp at hc
        go_wp2_with fail
        refine (HW.out _ _ _).mono ?_
        rintro e w3 ⟨⟨a, rfl⟩, hb3⟩
        have hB0 := Nat.le_of_lt HB.out
        have hB1 : ∀ o, B ≤ (w1.alloc o).heap.size := fun o => Nat.le_trans hB0 (HU.out w1 o hb1).2.size
        exact ⟨rfl, ((Past.of hB0 (HU.out _ _ hb1).2).up (hB1 _) hb2).up (Nat.le_trans (hB1 _) hb2.size) hb3, .inr ⟨by simp, _, rfl⟩⟩
      | true =>
        go_enter Tryz.func85, Tryz.ntmps85
        go_wp2_with fail
        refine HT.out.mono ?_
        rintro e w1 ⟨⟨p, rfl⟩, hb1⟩
        unfold tokV
        go_wp2_with (first
          | (go_at_call 98; refine (HM.out _ (HU.out _ _ hb1).2).mono ?_; rintro e w2 ⟨rfl, rfl⟩))
        refine (HN.out _).mono ?_
        rintro e w2 ⟨rfl, hb2⟩
        have hk := (hb2.block w1.heap.size (by simp)).trans (heap_alloc_new _ _)
        go_wp2_with fail
        refine (HP.out _ ((HU.out _ _ hb1).1.up hb2)).mono ?_
        rintro e w3 ⟨rfl, hr3, hp3⟩
        have hs1 := hb1.size
        have hs2 := hb2.size
        simp at hs2
        have hk3 := (hp3.keep w1.heap.size (by omega) (by have := HB.out; omega)).trans hk
        have hc := cell_of_heap hk3 1
        simp at hc
        go_wp2
        go_ret
        have hB0 := Nat.le_of_lt HB.out
        have hB1 : ∀ o, B ≤ (w1.alloc o).heap.size := fun o => Nat.le_trans hB0 (HU.out w1 o hb1).2.size
        exact ⟨((Past.of hB0 (HU.out _ _ hb1).2).up (hB1 _) hb2).trans hp3, .inl ⟨by simp, by simp, rfl, hr3⟩⟩
  · have h2 : ¬ ((tk : Int) = 1) := by omega
    have h3 : ((tk : Int) == 1) = false := by simpa using h2
    go_enter Tryz.func85, Tryz.ntmps85
    go_wp2_with fail
    refine HT.out.mono ?_
    rintro e w1 ⟨⟨p, rfl⟩, hb1⟩
    unfold tokV
    go_wp2_with fail
    refine (HW.out _ _ _).mono ?_
    rintro e w3 ⟨⟨a, rfl⟩, hb3⟩
    exact ⟨rfl, (Past.of (Nat.le_of_lt HB.out) (HU.out _ _ hb1).2).up (Nat.le_trans (Nat.le_of_lt HB.out) (HU.out _ _ hb1).2.size) hb3, .inr ⟨fun h => h1 h.1, _, rfl⟩⟩
end Go.Proofs.YtfokdpddcgaafaaGreatDoor
