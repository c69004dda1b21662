/- What a reader's code does, said of every call. -/
import Derived.Test.YtfokdpddcgaafaaGreatDoorAJ
namespace Go.Proofs.YtfokdpddcgaafaaGreatDoor
open Go.RowKit Go.Proofs Go.Lib Go.Proofs.YtfokdpddcgaafaaGreatDoor.Ask

def CdPost (B : Nat) (ts : List Tok) (w : World) (e : Ending) (w' : World) : Prop :=
  Past B w w' ∧ (((hdTok ts).code ≠ 0 ∧ e = .returned (.int .i64 ((hdTok ts).code : Int)) ∧ Rd w' B (ts.drop 1)) ∨ ((hdTok ts).code = 0 ∧ Thrown e))
set_option maxHeartbeats 4000000 in
set_option maxRecDepth 100000 in
theorem code_any (B : Nat) (ts : List Tok) (w : World) (hr : Rd w B ts) (hn : ts.length ≤ 1000) :
    Calls Tryz.prog 86 #[.pointer (some ⟨B, 0, none⟩)] w (CdPost B ts w) := by
  have HT := mkH (token_rd B ts w hr)
  have HU : Hid (∀ V o, Below w.heap.size w V → Rd (V.alloc o) B ts ∧ Below w.heap.size w (V.alloc o)) := fun V o hb =>
    have hb' := hb.alloc hb.size o
    ⟨hr.up hb', hb'⟩
  have HP : Hid (∀ V, Rd V B ts → Calls Tryz.prog 53 #[.pointer (some ⟨B, 0, none⟩)] V fun e w' => e = .returned (.tuple #[]) ∧ Rd w' B (ts.drop 1) ∧ Past B V w') := fun V h => pass_past B ts V h hn
  have HB : Hid (B < w.heap.size) := hr.lt
  have HW := mkH throw_any
  clear hr hn
  unfold CdPost
  generalize (hdTok ts).kind = tk at *
  generalize (hdTok ts).text = tt at *
  generalize (hdTok ts).code = tc at *
  by_cases h1 : tc = 0
  · subst h1
    go_enter Tryz.func86, Tryz.ntmps86
    go_wp2_with fail
    refine HT.out.mono ?_
    rintro e w1 ⟨⟨p, rfl⟩, hb1⟩
    unfold tokV
    go_wp2_with fail
    refine (HW.out _ _ _).mono ?_
    rintro e w3 ⟨⟨a, rfl⟩, hb3⟩
    exact ⟨rfl, (Past.of (Nat.le_of_lt HB.out) (HU.out _ _ hb1).2).up (Nat.le_trans (Nat.le_of_lt HB.out) (HU.out _ _ hb1).2.size) hb3, .inr ⟨trivial, _, rfl⟩⟩
  · have h2 : ¬ ((tc : Int) = 0) := by omega
    have h3 : ((tc : Int) == 0) = false := by simpa using h2
    go_enter Tryz.func86, Tryz.ntmps86
    go_wp2_with fail
    refine HT.out.mono ?_
    rintro e w1 ⟨⟨p, rfl⟩, hb1⟩
    unfold tokV
    go_wp2_with fail
    refine (HP.out _ (HU.out _ _ hb1).1).mono ?_
    rintro e w2 ⟨rfl, hr2, hp2⟩
    have hs1 := hb1.size
    have hk := hp2.keep w1.heap.size (by simp) (by have := HB.out; omega)
    rw [heap_alloc_new] at hk
    have hc := cell_of_heap hk 3
    simp at hc
    go_wp2
    go_ret
    exact ⟨(Past.of (Nat.le_of_lt HB.out) (HU.out _ _ hb1).2).trans hp2, .inl ⟨h1, rfl, hr2⟩⟩
end Go.Proofs.YtfokdpddcgaafaaGreatDoor
