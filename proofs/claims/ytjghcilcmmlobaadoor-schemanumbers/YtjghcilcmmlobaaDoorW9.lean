/- What schema.Rename does, said of every call. -/
import Derived.Test.YtjghcilcmmlobaaDoorW8
namespace Go.Proofs.YtjghcilcmmlobaaDoor
open Go.RowKit Go.Proofs Go.Lib Go.Joins
open Go.Sort (grow)

theorem cellsC_set (to : ByteArray) : ∀ (l : List Col) (k : Nat), k < l.length → (cellsC l).set (k * 7 + 1) (.string to) = cellsC (l.set k (renC l[k]! to))
  | [], k, h => absurd h (Nat.not_lt_zero _)
  | c :: l, 0, _ => rfl
  | c :: l, k + 1, h => by
    have ih := cellsC_set to l k (by simpa using h)
    have e : cellsC (c :: l) = encC c ++ cellsC l := rfl
    have e2 : (c :: l)[k + 1]! = l[k]! := by simp
    rw [e, e2, List.set_cons_succ, show cellsC (c :: l.set k (renC l[k]! to)) = encC c ++ cellsC (l.set k (renC l[k]! to)) from rfl, ← ih]
    rw [List.set_append_right _ _ (by rw [encC_len]; omega), encC_len, show (k + 1) * 7 + 1 - 7 = k * 7 + 1 by omega]

set_option maxHeartbeats 4000000 in
set_option maxRecDepth 100000 in
theorem rename_yes (g cp : Nat) (l : List Col) (nm to : ByteArray) (k : Nat) (w : World) (h : SlC w g 0 l) (hf : findC l nm = k) (hk : k < l.length) (hto : colB to = true) (hft : findC l to = -1) (h8 : l.length ≤ 8) (hw : NcB w) :
    Calls Tryd.prog 30 #[.slice (some ⟨g, 0, none⟩) l.length cp, .string nm, .string to] w fun e w' => ∃ g' c', e = .returned (.tuple #[.slice (some ⟨g', 0, none⟩) l.length c', .nilIface]) ∧ w'.ownsRow w.heap.size 54 7 (.slice (some ⟨g', 0, none⟩) l.length c') l.length (cellsC (l.set k (renC l[k]! to))) ∧ Below w.heap.size w w' := by
  have HF : Hid (∀ W, Below w.heap.size w W → Calls Tryd.prog 33 #[.slice (some ⟨g, 0, none⟩) l.length cp, .string nm] W fun e w' => e = .returned (.int .i64 k) ∧ Below W.heap.size W w') := fun W hb => by
    have := find_any g 0 cp l nm W (h.below hb) h8
    rwa [hf] at this
  have HT : Hid (∀ W, Below w.heap.size w W → Calls Tryd.prog 33 #[.slice (some ⟨g, 0, none⟩) l.length cp, .string to] W fun e w' => e = .returned (.int .i64 (-1)) ∧ Below W.heap.size W w') := fun W hb => by
    have := find_any g 0 cp l to W (h.below hb) h8
    rwa [hft] at this
  have HN : Hid (∀ W, Below w.heap.size w W → Calls Tryd.prog 53 #[.string to] W fun e w' => e = .returned (.bool true) ∧ Below W.heap.size W w') := fun W hb => by
    have := columnName_any to W (col_small hto) (hw.below hb)
    rwa [hto] at this
  have HC : Hid (∀ W, Below w.heap.size w W → Calls Tryd.prog 27 #[.slice (some ⟨g, 0, none⟩) l.length cp] W fun e w' => ∃ g' c', e = .returned (.slice (some ⟨g', 0, none⟩) l.length c') ∧ w'.ownsRow w.heap.size 54 7 (.slice (some ⟨g', 0, none⟩) l.length c') l.length (cellsC l) ∧ (∃ u, w'.cell? ⟨g', k * 7 + 1, none⟩ = some u) ∧ w'.frozen? ⟨g', k * 7 + 1, none⟩ = false ∧ Below w.heap.size w w') := fun W hb => (clone_any g 0 cp l W (h.below hb) h8).mono fun e w' ⟨g', c', he, ho, hb'⟩ => ⟨g', c', he, ownsRow_le ho hb.size, by
      rw [ho.cellAt (k * 7 + 1) (by omega)]
      exact ⟨_, List.getElem?_eq_getElem (by rw [cellsC_len]; omega)⟩, ho.frozenAt _, Below.ups hb hb'⟩
  have HS := mkH (cellsC_set to l k hk)
  have hk0 : ¬ (k : Int) < 0 := by omega
  have hk1 : (k : Int) < (l.length : Int) := by omega
  have hk2 : (0 : Int) ≤ (k : Int) := by omega
  clear h hf hto hft hw
  go_enter Tryd.func30, Tryd.ntmps30
  go_wp2_with (first
    | (go_at_call_of 33 (#[.slice (some ⟨g, 0, none⟩) l.length cp, .string nm] : Array Value); refine (HF.out _ (Below.refl _ _)).mono ?_; rintro e w1 ⟨rfl, hb1⟩)
    | (go_at_call 53; refine (HN.out _ hb1).mono ?_; rintro e w2 ⟨rfl, hb2⟩; have hb2' := Below.ups hb1 hb2)
    | (go_at_call 33; refine (HT.out _ hb2').mono ?_; rintro e w3 ⟨rfl, hb3⟩; have hb3' := Below.ups hb2' hb3)
    | (go_at_call 27; refine (HC.out _ hb3').mono ?_; rintro e w4 ⟨g4, c4, rfl, ho4, ⟨u4, hu4⟩, hf4, hb4⟩))
  go_ret2
  refine ⟨g4, c4, rfl, ?_, Below.setCell (p := ⟨g4, k * 7 + 1, none⟩) hb4 (ho4.lt g4 rfl).1 _⟩
  rw [← HS.out]
  exact (ho4.stored _ _).1

set_option maxHeartbeats 4000000 in
theorem rename_no (g cp : Nat) (l : List Col) (nm to : ByteArray) (w : World) (h : SlC w g 0 l) (hno : findC l nm = -1 ∨ colB to = false ∨ 0 ≤ findC l to) (hsz : to.size ≤ maxLen) (h8 : l.length ≤ 8) (hw : NcB w) :
    Calls Tryd.prog 30 #[.slice (some ⟨g, 0, none⟩) l.length cp, .string nm, .string to] w fun e w' => ∃ x, e = .returned (.tuple #[.slice none 0 0, .iface 87 (.int .i64 x)]) ∧ Below w.heap.size w w' := by
  have HF : Hid (∀ W, Below w.heap.size w W → Calls Tryd.prog 33 #[.slice (some ⟨g, 0, none⟩) l.length cp, .string nm] W fun e w' => e = .returned (.int .i64 (findC l nm)) ∧ Below W.heap.size W w') := fun W hb => find_any g 0 cp l nm W (h.below hb) h8
  have HT : Hid (∀ W, Below w.heap.size w W → Calls Tryd.prog 33 #[.slice (some ⟨g, 0, none⟩) l.length cp, .string to] W fun e w' => e = .returned (.int .i64 (findC l to)) ∧ Below W.heap.size W w') := fun W hb => find_any g 0 cp l to W (h.below hb) h8
  have HN : Hid (∀ W, Below w.heap.size w W → Calls Tryd.prog 53 #[.string to] W fun e w' => e = .returned (.bool (colB to)) ∧ Below W.heap.size W w') := fun W hb => columnName_any to W hsz (hw.below hb)
  clear h hw hsz h8
  by_cases hf : findC l nm < 0
  · generalize findC l nm = f at *
    clear hno HT HN
    go_enter Tryd.func30, Tryd.ntmps30
    go_wp2_with (first
      | (go_at_call 33; refine (HF.out _ (Below.refl _ _)).mono ?_; rintro e w1 ⟨rfl, hb1⟩))
    go_ret2
    exact ⟨_, rfl, hb1⟩
  · have hf0 : ¬ findC l nm = -1 := by omega
    cases hc : colB to with
    | false =>
      rw [hc] at HN
      generalize findC l nm = f at *
      clear hno HT hf0
      go_enter Tryd.func30, Tryd.ntmps30
      go_wp2_with (first
        | (go_at_call 33; refine (HF.out _ (Below.refl _ _)).mono ?_; rintro e w1 ⟨rfl, hb1⟩)
        | (go_at_call 53; refine (HN.out _ hb1).mono ?_; rintro e w2 ⟨rfl, hb2⟩; have hb2' := Below.ups hb1 hb2))
      go_ret2
      exact ⟨_, rfl, hb2'⟩
    | true =>
      rw [hc] at HN
      have ht : 0 ≤ findC l to := by
        rcases hno with h | h | h
        · exact (hf0 h).elim
        · rw [hc] at h; cases h
        · exact h
      clear hno hf0
      by_cases hnt : nm = to
      · subst hnt
        generalize findC l nm = f at *
        clear HF
        go_enter Tryd.func30, Tryd.ntmps30
        go_wp2_with fail
        refine (HT.out _ (Below.refl _ _)).mono ?_
        rintro e w1 ⟨rfl, hb1⟩
        go_wp2_with (first
          | (go_at_call 53; refine (HN.out _ hb1).mono ?_; rintro e w2 ⟨rfl, hb2⟩; have hb2' := Below.ups hb1 hb2)
          | (go_at_call 33; refine (HT.out _ hb2').mono ?_; rintro e w3 ⟨rfl, hb3⟩; have hb3' := Below.ups hb2' hb3))
        go_ret2
        exact ⟨_, rfl, hb3'⟩
      · generalize findC l nm = f at *
        generalize findC l to = f2 at *
        clear hnt
        go_enter Tryd.func30, Tryd.ntmps30
        go_wp2_with (first
          | (go_at_call_of 33 (#[.slice (some ⟨g, 0, none⟩) l.length cp, .string nm] : Array Value); refine (HF.out _ (Below.refl _ _)).mono ?_; rintro e w1 ⟨rfl, hb1⟩)
          | (go_at_call 53; refine (HN.out _ hb1).mono ?_; rintro e w2 ⟨rfl, hb2⟩; have hb2' := Below.ups hb1 hb2)
          | (go_at_call 33; refine (HT.out _ hb2').mono ?_; rintro e w3 ⟨rfl, hb3⟩; have hb3' := Below.ups hb2' hb3))
        go_ret2
        exact ⟨_, rfl, hb3'⟩
end Go.Proofs.YtjghcilcmmlobaaDoor
