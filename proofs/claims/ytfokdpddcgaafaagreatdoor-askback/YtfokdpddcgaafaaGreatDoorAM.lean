/- What a reader's number does, said of every call. -/
import Derived.Test.YtfokdpddcgaafaaGreatDoorAL
namespace Go.Proofs.YtfokdpddcgaafaaGreatDoor
open Go.RowKit Go.Proofs Go.Lib Go.Proofs.YtfokdpddcgaafaaGreatDoor.Ask

def NbPost (B : Nat) (ts : List Tok) (w : World) (e : Ending) (w' : World) : Prop :=
  Past B w w' ∧ ((∃ n, (hdTok ts).kind = 2 ∧ numT (hdTok ts).text = some n ∧ e = .returned (.int .i64 n) ∧ Rd w' B (ts.drop 1)) ∨ (¬ ((hdTok ts).kind = 2 ∧ (numT (hdTok ts).text).isSome = true) ∧ Thrown e))
set_option maxHeartbeats 4000000 in
set_option maxRecDepth 100000 in
theorem rnumber_any (B : Nat) (ts : List Tok) (w : World) (hr : Rd w B ts) (hn : ts.length ≤ 1000) (hl : (hdTok ts).text.length ≤ 1000000) (hw : ErrB w) :
    Calls Tryz.prog 100 #[.pointer (some ⟨B, 0, none⟩)] w (NbPost B ts w) := by
  have HT := mkH (token_rd B ts w hr)
  have HU : Hid (∀ V o, Below w.heap.size w V → Rd (V.alloc o) B ts ∧ Below w.heap.size w (V.alloc o)) := fun V o hb =>
    have hb' := hb.alloc hb.size o
    ⟨hr.up hb', hb'⟩
  have HP : Hid (∀ V, Rd V B ts → Calls Tryz.prog 53 #[.pointer (some ⟨B, 0, none⟩)] V fun e w' => e = .returned (.tuple #[]) ∧ Rd w' B (ts.drop 1) ∧ Past B V w') := fun V h => pass_past B ts V h hn
  have HB : Hid (B < w.heap.size) := hr.lt
  have HW := mkH throw_any
  have HM : Hid (∀ V, Below w.heap.size w V → Calls Tryz.prog 111 #[.string (bA (hdTok ts).text), .int .i64 10, .int .i64 64] V (NumPost (hdTok ts).text V)) := fun V hb => by
    have := parse_any (bA (hdTok ts).text) V (by rw [bA_size]; omega) (hw.below hb)
    rw [bA_toList] at this
    exact this
  clear hr hn hl hw
  unfold NbPost
  unfold NumPost at HM
  generalize (hdTok ts).kind = tk at *
  generalize numT (hdTok ts).text = nt at *
  generalize bA (hdTok ts).text = tt at *
  generalize (hdTok ts).code = tc at *
  by_cases h1 : tk = 2
  · subst h1
    go_enter Tryz.func100, Tryz.ntmps100
    go_wp2_with fail
    refine HT.out.mono ?_
    rintro e w1 ⟨⟨p, rfl⟩, hb1⟩
    unfold tokV
    go_wp2_with fail
    refine (HM.out _ (HU.out _ _ hb1).2).mono ?_
    rintro e w2 ⟨n, er, rfl, hb2, h⟩
    have hk := (hb2.block w1.heap.size (by simp)).trans (heap_alloc_new _ _)
    have hB0 := Nat.le_of_lt HB.out
    have hB1 : ∀ o, B ≤ (w1.alloc o).heap.size := fun o => Nat.le_trans hB0 (HU.out w1 o hb1).2.size
    rcases h with ⟨hnt, rfl⟩ | ⟨hnt, t, v, rfl⟩
    · go_wp2_with fail
      refine (HP.out _ ((HU.out _ _ hb1).1.up hb2)).mono ?_
      rintro e w3 ⟨rfl, hr3, hp3⟩
      go_wp2
      go_ret
      exact ⟨((Past.of hB0 (HU.out _ _ hb1).2).up (hB1 _) hb2).trans hp3, .inl ⟨n, by simp, hnt, rfl, hr3⟩⟩
    · have hc := cell_of_heap hk 2
      simp at hc
      go_wp2_with fail
      refine (HW.out _ _ _).mono ?_
      rintro e w3 ⟨⟨a, rfl⟩, hb3⟩
      exact ⟨rfl, ((Past.of hB0 (HU.out _ _ hb1).2).up (hB1 _) hb2).up (Nat.le_trans (hB1 _) hb2.size) hb3, .inr ⟨by rw [hnt]; simp, _, rfl⟩⟩
  · have h2 : ¬ ((tk : Int) = 2) := by omega
    have h3 : ((tk : Int) == 2) = false := by simpa using h2
    go_enter Tryz.func100, Tryz.ntmps100
    go_wp2_with fail
    refine HT.out.mono ?_
    rintro e w1 ⟨⟨p, rfl⟩, hb1⟩
    unfold tokV
    go_wp2_with fail
    refine (HW.out _ _ _).mono ?_
    rintro e w3 ⟨⟨a, rfl⟩, hb3⟩
    exact ⟨rfl, (Past.of (Nat.le_of_lt HB.out) (HU.out _ _ hb1).2).up (Nat.le_trans (Nat.le_of_lt HB.out) (HU.out _ _ hb1).2.size) hb3, .inr ⟨fun h => h1 h.1, _, rfl⟩⟩
end Go.Proofs.YtfokdpddcgaafaaGreatDoor
