/- What ask.Print does with a condition that was read, said of every call. -/
import Derived.Test.YtfokdpddcgaafaaGreatDoorBB
namespace Go.Proofs.YtfokdpddcgaafaaGreatDoor
open Go.RowKit Go.Proofs Go.Lib Go.Proofs.YtfokdpddcgaafaaGreatDoor.Ask

theorem nm_len {l : List UInt8} (h : nmL l = true) : l.length ≤ 16 := by
  unfold nmL nameB at h
  simp only [Bool.and_eq_true, decide_eq_true_eq] at h
  have := h.2.2.1
  rw [bA_size] at this
  exact this
theorem rt_len {l : List UInt8} (h : rtL l = true) : l.length ≤ 40 := by
  unfold rtL rtB at h
  simp only [Bool.and_eq_true, decide_eq_true_eq] at h
  have := h.1
  rw [bA_size] at this
  exact this
theorem vx_len {v : Vl} (h : VV rtL I64 v) : (vx dcL v).length ≤ 42 := by
  cases v with
  | null => simp [vx, wNull]
  | num n => have := itoa_length_le n h.1 h.2; simp only [vx, dcL]; omega
  | text l => have := rt_len h; simp [vx]; omega
theorem mk_len (c : Nat) : (mk c).length ≤ 2 := by unfold mk; split <;> simp
theorem par_len {k : Nat} {T : Tr} {l : List UInt8} {w : List Tok} (h : l.length ≤ 64 * w.length) : (parX k T l).length ≤ 64 * (par k T w).length := by
  unfold parX par
  split
  · simp; omega
  · exact h
theorem par_ge (k : Nat) (T : Tr) (w : List Tok) : w.length ≤ (par k T w).length := by
  unfold par; split <;> simp; omega
theorem dpar_ge (k : Nat) (T : Tr) (n : Nat) : n ≤ dpar k T n := by
  unfold dpar; split <;> omega
theorem tx_len (T : Tr) : VT nmL rtL I64 T → (tx dcL T).length ≤ 64 * (wt dcL T).length := by
  induction T with
  | cmp c col v =>
    intro h
    have h1 := nm_len h.2.1
    have h2 := vx_len h.2.2
    have h3 := mk_len c
    simp only [tx, wt, List.length_append, List.length_cons, List.length_nil]; omega
  | isn b col =>
    intro h
    have h1 := nm_len h
    cases b <;> simp [tx, wt, wIs, wNot, wNull] <;> omega
  | no x ih =>
    intro h
    have h1 := par_len (k := 2) (T := x) (ih h)
    simp only [tx, wt, wNot, List.length_append, List.length_cons, List.length_nil]; omega
  | bi b x y ihx ihy =>
    intro h
    cases b with
    | true =>
      have h1 := par_len (k := 0) (T := x) (ihx h.1)
      have h2 := par_len (k := 1) (T := y) (ihy h.2)
      simp only [tx, wt, wOr, List.length_append, List.length_cons, List.length_nil]; omega
    | false =>
      have h1 := par_len (k := 1) (T := x) (ihx h.1)
      have h2 := par_len (k := 2) (T := y) (ihy h.2)
      simp only [tx, wt, wAnd, List.length_append, List.length_cons, List.length_nil]; omega
theorem parX_len (k : Nat) (T : Tr) (l : List UInt8) : (parX k T l).length ≤ l.length + 2 := by
  unfold parX; split <;> simp
theorem written_all (T : Tr) : VT nmL rtL I64 T → (wt dcL T).length ≤ 80 → WrOk T := by
  induction T with
  | cmp c col v =>
    intro h _
    refine written_cmp c col v h.1.1 h.1.2 (by have := nm_len h.2.1; omega) h.2.2 ?_
    cases v with
    | null => simp [vtx, ByteArray.size]
    | num n => simp [vtx, ByteArray.size]
    | text l => have := rt_len h.2.2; simp only [vtx, bA_size]; omega
  | isn b col =>
    intro h _
    exact written_isn b col (by have := nm_len h; omega)
  | no x ih =>
    intro h hl
    have hg := par_ge 2 x (wt dcL x)
    have hx : (wt dcL x).length ≤ 80 := by simp only [wt, List.length_cons] at hl; omega
    have ht := tx_len x h
    have hp := parX_len 2 x (tx dcL x)
    exact written_no x (by omega) (within_of 2 x h (by omega) (ih h hx))
  | bi b x y ihx ihy =>
    intro h hl
    cases b with
    | true =>
      have g1 := par_ge 0 x (wt dcL x)
      have g2 := par_ge 1 y (wt dcL y)
      simp only [wt, List.length_append, List.length_cons] at hl
      have t1 := tx_len x h.1
      have t2 := tx_len y h.2
      have p1 := parX_len 0 x (tx dcL x)
      have p2 := parX_len 1 y (tx dcL y)
      exact written_or x y (by omega) (by omega) (within_of 0 x h.1 (by omega) (ihx h.1 (by omega))) (within_of 1 y h.2 (by omega) (ihy h.2 (by omega)))
    | false =>
      have g1 := par_ge 1 x (wt dcL x)
      have g2 := par_ge 2 y (wt dcL y)
      simp only [wt, List.length_append, List.length_cons] at hl
      have t1 := tx_len x h.1
      have t2 := tx_len y h.2
      have p1 := parX_len 1 x (tx dcL x)
      have p2 := parX_len 2 y (tx dcL y)
      exact written_and x y (by omega) (by omega) (within_of 1 x h.1 (by omega) (ihx h.1 (by omega))) (within_of 2 y h.2 (by omega) (ihy h.2 (by omega)))
def dpT : Tr → Nat
  | .cmp _ _ _ => 1
  | .isn _ _ => 1
  | .no x => 1 + dpT x
  | .bi _ x y => 1 + max (dpT x) (dpT y)
theorem wt_three (T : Tr) : 3 ≤ (wt dcL T).length := by
  induction T with
  | cmp c col v => simp [wt]
  | isn b col => cases b <;> simp [wt]
  | no x ih => have := par_ge 2 x (wt dcL x); simp only [wt, List.length_cons]; omega
  | bi b x y ihx ihy =>
    cases b with
    | true => have := par_ge 0 x (wt dcL x); simp only [wt, List.length_append, List.length_cons]; omega
    | false => have := par_ge 1 x (wt dcL x); simp only [wt, List.length_append, List.length_cons]; omega
theorem dp_le (T : Tr) : 4 * dpT T ≤ (wt dcL T).length + 3 * dw T + 1 := by
  induction T with
  | cmp c col v => simp [wt, dpT, dw]
  | isn b col => cases b <;> simp [wt, dpT, dw]
  | no x ih =>
    have h1 := par_ge 2 x (wt dcL x)
    have h2 := dpar_ge 2 x (dw x)
    simp only [wt, dpT, dw, List.length_cons]; omega
  | bi b x y ihx ihy =>
    have hx := wt_three x
    have hy := wt_three y
    cases b with
    | true =>
      have g1 := par_ge 0 x (wt dcL x)
      have g2 := par_ge 1 y (wt dcL y)
      have d1 := dpar_ge 0 x (dw x)
      have d2 := dpar_ge 1 y (dw y)
      simp only [wt, dpT, dw, List.length_append, List.length_cons]; omega
    | false =>
      have g1 := par_ge 1 x (wt dcL x)
      have g2 := par_ge 2 y (wt dcL y)
      have d1 := dpar_ge 1 x (dw x)
      have d2 := dpar_ge 2 y (dw y)
      simp only [wt, dpT, dw, List.length_append, List.length_cons]; omega
theorem nil_in (o : Int) : S.withinT .nil o = true := rfl
theorem dp_pos (T : Tr) : 1 ≤ dpT T := by cases T <;> simp [dpT]
theorem within_ct (T : Tr) : ∀ o : Nat, dpT T ≤ o + 1 → S.withinT (ctOf T) (o : Int) = true := by
  have hz : ∀ (o : Nat) (x : Tr), 1 + dpT x ≤ o + 1 → (∀ o : Nat, dpT x ≤ o + 1 → S.withinT (ctOf x) (o : Int) = true) → S.withinT (ctOf x) ((o : Int) - 1) = true := by
    intro o x h ih
    have := dp_pos x
    cases o with
    | zero => omega
    | succ o => rw [show ((o + 1 : Nat) : Int) - 1 = (o : Int) by omega]; exact ih o (by omega)
  induction T with
  | cmp c col v => intro o _; simp [ctOf, ndV, S.withinT]
  | isn b col => intro o _; simp [ctOf, ndV, S.withinT]
  | no x ih =>
    intro o h
    simp [ctOf, ndV, S.withinT, hz o x (by simpa [dpT] using h) ih]
  | bi b x y ihx ihy =>
    intro o h
    simp only [dpT] at h
    simp [ctOf, ndV, S.withinT, hz o x (by omega) ihx, hz o y (by omega) ihy]
set_option maxHeartbeats 1000000 in
theorem Print_any (T : Tr) (v : Value) (w : World) (h : S.InC w (ctOf T) v) (hV : VT nmL rtL I64 T) (hl : (wt dcL T).length ≤ 80) (hd : dw T ≤ 6) (hm : MkB w) (ht : TabB w) :
    Calls Tryz.prog 7 #[v] w fun e w' => e = .returned (.string (bA (tx dcL T))) ∧ Below w.heap.size w w' := by
  have hdp := dp_le T
  have H1 : Hid (Calls Tryz.prog 16 #[v] w fun e w' => e = .returned (.bool true) ∧ w' = w) := by
    have := S.ends_any (ctOf T) v w h
    rw [show (24 : Int) = ((24 : Nat) : Int) from rfl, within_ct T 24 (by omega)] at this
    exact this
  have H2 := mkH (written_all T hV hl v w h hm ht)
  clear h hV hl hd hm ht hdp
  generalize bA (tx dcL T) = q at *
  go_enter Tryz.func7, Tryz.ntmps7
  go_wp2_with fail
  refine H1.out.mono ?_; rintro e w1 ⟨rfl, rfl⟩
  go_wp2_with fail
  refine H2.out.mono ?_; rintro e w2 ⟨rfl, hb2⟩
  go_wp2
  go_ret
  exact ⟨rfl, hb2⟩
set_option maxHeartbeats 1000000 in
theorem written_nil (w : World) : Calls Tryz.prog 17 #[.pointer none] w fun e w' => e = .returned (.string ⟨#[]⟩) ∧ w' = w := by
  go_enter Tryz.func17, Tryz.ntmps17
  go_wp2
  go_ret
  exact ⟨rfl, rfl⟩
set_option maxHeartbeats 1000000 in
theorem Print_nil (w : World) : Calls Tryz.prog 7 #[.pointer none] w fun e w' => e = .returned (.string ⟨#[]⟩) ∧ w' = w := by
  have H1 := mkH (S.ends_any .nil (.pointer none) w rfl)
  rw [nil_in] at H1
  have H2 := mkH (written_nil w)
  go_enter Tryz.func7, Tryz.ntmps7
  go_wp2_with fail
  refine H1.out.mono ?_; rintro e w1 ⟨rfl, rfl⟩
  go_wp2_with fail
  refine H2.out.mono ?_; rintro e w2 ⟨rfl, rfl⟩
  go_wp2
  go_ret
  exact ⟨rfl, rfl⟩
end Go.Proofs.YtfokdpddcgaafaaGreatDoor
