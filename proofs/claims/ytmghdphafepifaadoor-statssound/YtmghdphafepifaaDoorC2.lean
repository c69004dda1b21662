/- What stats.may, stats.mayNot and stats.May do at every condition that lies in memory as a tree, said of every call. -/
import Derived.Test.YtmghdphafepifaaDoorC1
namespace Go.Proofs.YtmghdphafepifaaDoor
open Go.RowKit Go.Proofs
open Go.Sort (grow)

/-- What a function value tells is known of a column by way of guard.Told, in every later world. -/
def ToldS (fv : Value) (gs : ByteArray → St) (w : World) : Prop :=
  ∀ (W : World) (s : ByteArray), Below w.heap.size w W → Calls Tryd.prog 53 #[fv, .string s] W fun e w' => e = .returned (.agg (cellsS (gs s))) ∧ Below W.heap.size W w'
theorem ToldS.up {fv : Value} {gs : ByteArray → St} {w W : World} (h : ToldS fv gs w) (hb : Below w.heap.size w W) : ToldS fv gs W :=
  fun W' s hb' => h W' s (Below.up hb hb')

/-- Whether a condition (or, at true, its Not) may hold of what is known. -/
def mayT (gs : ByteArray → St) : Bool → CT → Bool
  | b, .nil => !b
  | b, .node _ _ ⟨c, col, k, n, t⟩ l r => if c = 9 then (if b then mayT gs b l || mayT gs b r else mayT gs b l && mayT gs b r) else if c = 10 then (if b then mayT gs b l && mayT gs b r else mayT gs b l || mayT gs b r) else if c = 11 then mayT gs (!b) l else mayCol (if b then opp c else c) (gs col) (k, n, t)
theorem m9f {gs : ByteArray → St} {a0 o0 : Nat} {c : Int} {col : ByteArray} {k n : Int} {t : ByteArray} {l r : CT} (h : c = 9) : (mayT gs false l && mayT gs false r) = mayT gs false (.node a0 o0 ⟨c, col, k, n, t⟩ l r) := by rw [mayT, if_pos h]; rfl
theorem m9t {gs : ByteArray → St} {a0 o0 : Nat} {c : Int} {col : ByteArray} {k n : Int} {t : ByteArray} {l r : CT} (h : c = 9) : (mayT gs true l || mayT gs true r) = mayT gs true (.node a0 o0 ⟨c, col, k, n, t⟩ l r) := by rw [mayT, if_pos h]; rfl
theorem m10f {gs : ByteArray → St} {a0 o0 : Nat} {c : Int} {col : ByteArray} {k n : Int} {t : ByteArray} {l r : CT} (h : c = 10) : (mayT gs false l || mayT gs false r) = mayT gs false (.node a0 o0 ⟨c, col, k, n, t⟩ l r) := by rw [mayT, if_neg (by omega), if_pos h]; rfl
theorem m10t {gs : ByteArray → St} {a0 o0 : Nat} {c : Int} {col : ByteArray} {k n : Int} {t : ByteArray} {l r : CT} (h : c = 10) : (mayT gs true l && mayT gs true r) = mayT gs true (.node a0 o0 ⟨c, col, k, n, t⟩ l r) := by rw [mayT, if_neg (by omega), if_pos h]; rfl
theorem m11f {gs : ByteArray → St} {a0 o0 : Nat} {c : Int} {col : ByteArray} {k n : Int} {t : ByteArray} {l r : CT} (h : c = 11) : mayT gs true l = mayT gs false (.node a0 o0 ⟨c, col, k, n, t⟩ l r) := by rw [mayT, if_neg (by omega), if_neg (by omega), if_pos h]; rfl
theorem m11t {gs : ByteArray → St} {a0 o0 : Nat} {c : Int} {col : ByteArray} {k n : Int} {t : ByteArray} {l r : CT} (h : c = 11) : mayT gs false l = mayT gs true (.node a0 o0 ⟨c, col, k, n, t⟩ l r) := by rw [mayT, if_neg (by omega), if_neg (by omega), if_pos h]; rfl
theorem m0f {gs : ByteArray → St} {a0 o0 : Nat} {c : Int} {col : ByteArray} {k n : Int} {t : ByteArray} {l r : CT} (h : ¬ c = 9 ∧ ¬ c = 10 ∧ ¬ c = 11) : mayCol c (gs col) (k, n, t) = mayT gs false (.node a0 o0 ⟨c, col, k, n, t⟩ l r) := by rw [mayT, if_neg h.1, if_neg h.2.1, if_neg h.2.2]; rfl
theorem m0t {gs : ByteArray → St} {a0 o0 : Nat} {c : Int} {col : ByteArray} {k n : Int} {t : ByteArray} {l r : CT} (h : ¬ c = 9 ∧ ¬ c = 10 ∧ ¬ c = 11) : mayCol (opp c) (gs col) (k, n, t) = mayT gs true (.node a0 o0 ⟨c, col, k, n, t⟩ l r) := by rw [mayT, if_neg h.1, if_neg h.2.1, if_neg h.2.2]; rfl

set_option maxHeartbeats 8000000 in
theorem may38_node (fv : Value) (gs : ByteArray → St) (a0 o0 : Nat) (c : Int) (col : ByteArray) (k n : Int) (t : ByteArray) (l r : CT) (b : Nat) (pl pr : Value) (w : World)
    (hh : w.heap[b]? = some (.cells #[.int .i64 c, .string col, .int .i64 k, .int .i64 n, .string t, pl, pr] 39)) (hg : ToldS fv gs w) (ho : OppB w)
    (hl : ∀ W, Below w.heap.size w W → Calls Tryd.prog 38 #[pl, fv] W fun e w' => e = .returned (.bool (mayT gs false l)) ∧ Below W.heap.size W w')
    (hr : ∀ W, Below w.heap.size w W → Calls Tryd.prog 38 #[pr, fv] W fun e w' => e = .returned (.bool (mayT gs false r)) ∧ Below W.heap.size W w')
    (hn : ∀ W, Below w.heap.size w W → Calls Tryd.prog 51 #[pl, fv] W fun e w' => e = .returned (.bool (mayT gs true l)) ∧ Below W.heap.size W w') :
    Calls Tryd.prog 38 #[.pointer (some ⟨b, 0, none⟩), fv] w fun e w' => e = .returned (.bool (mayT gs false (.node a0 o0 ⟨c, col, k, n, t⟩ l r))) ∧ Below w.heap.size w w' := by
  have c0 : w.cell? ⟨b, 0, none⟩ = some (.int .i64 c) := cell_of_heap hh 0
  have c1 : w.cell? ⟨b, 1, none⟩ = some (.string col) := cell_of_heap hh 1
  have c2 : w.cell? ⟨b, 2, none⟩ = some (.int .i64 k) := cell_of_heap hh 2
  have c3 : w.cell? ⟨b, 3, none⟩ = some (.int .i64 n) := cell_of_heap hh 3
  have c4 : w.cell? ⟨b, 4, none⟩ = some (.string t) := cell_of_heap hh 4
  have c5 : w.cell? ⟨b, 5, none⟩ = some pl := cell_of_heap hh 5
  have c6 : w.cell? ⟨b, 6, none⟩ = some pr := cell_of_heap hh 6
  have hlt : b < w.heap.size := block_lt_of_cell c0
  have IT : Hid (∀ W, Below w.heap.size w W → Calls Tryd.prog 53 #[fv, .string col] W fun e w' => e = .returned (.agg (cellsS (gs col))) ∧ Below W.heap.size W w') := fun W hb => hg W col hb
  have HO := mkHid ho
  have IL := mkHid hl
  have IR := mkHid hr
  have IN := mkHid hn
  clear hh hg ho hl hr hn
  by_cases h9 : c = 9
  · have HQ : Hid ((mayT gs false l && mayT gs false r) = mayT gs false (.node a0 o0 ⟨c, col, k, n, t⟩ l r)) := m9f h9
    subst h9
    clear IT HO IN
    generalize mayT gs false (.node a0 o0 ⟨9, col, k, n, t⟩ l r) = ee at *
    generalize mayT gs false l = el at *
    generalize mayT gs false r = er at *
    cases hel : el
    · subst hel
      go_enter Tryd.func38, Tryd.ntmps38
      go_wp2_with fail
      refine (IL.out _ (Below.refl _ _)).mono ?_
      rintro e w1 ⟨rfl, hb1⟩
      go_wp2
      go_ret
      exact ⟨ret_bool HQ.out, hb1⟩
    · subst hel
      go_enter Tryd.func38, Tryd.ntmps38
      go_wp2_with fail
      refine (IL.out _ (Below.refl _ _)).mono ?_
      rintro e w1 ⟨rfl, hb1⟩
      replace c6 : w1.cell? ⟨b, 6, none⟩ = some pr := (hb1.cell (p := ⟨b, 6, none⟩) hlt).trans c6
      go_wp2_with fail
      refine (IR.out _ hb1).mono ?_
      rintro e w2 ⟨rfl, hb2⟩
      go_wp2
      go_ret
      exact ⟨ret_bool HQ.out, Below.up hb1 hb2⟩
  by_cases h10 : c = 10
  · have HQ : Hid ((mayT gs false l || mayT gs false r) = mayT gs false (.node a0 o0 ⟨c, col, k, n, t⟩ l r)) := m10f h10
    subst h10
    clear IT HO IN
    generalize mayT gs false (.node a0 o0 ⟨10, col, k, n, t⟩ l r) = ee at *
    generalize mayT gs false l = el at *
    generalize mayT gs false r = er at *
    cases hel : el
    · subst hel
      go_enter Tryd.func38, Tryd.ntmps38
      go_wp2_with fail
      refine (IL.out _ (Below.refl _ _)).mono ?_
      rintro e w1 ⟨rfl, hb1⟩
      replace c6 : w1.cell? ⟨b, 6, none⟩ = some pr := (hb1.cell (p := ⟨b, 6, none⟩) hlt).trans c6
      go_wp2_with fail
      refine (IR.out _ hb1).mono ?_
      rintro e w2 ⟨rfl, hb2⟩
      go_wp2
      go_ret
      exact ⟨ret_bool HQ.out, Below.up hb1 hb2⟩
    · subst hel
      go_enter Tryd.func38, Tryd.ntmps38
      go_wp2_with fail
      refine (IL.out _ (Below.refl _ _)).mono ?_
      rintro e w1 ⟨rfl, hb1⟩
      go_wp2
      go_ret
      exact ⟨ret_bool HQ.out, hb1⟩
  by_cases h11 : c = 11
  · have HQ : Hid (mayT gs true l = mayT gs false (.node a0 o0 ⟨c, col, k, n, t⟩ l r)) := m11f h11
    subst h11
    clear IT HO IL IR
    generalize mayT gs false (.node a0 o0 ⟨11, col, k, n, t⟩ l r) = ee at *
    generalize mayT gs true l = el at *
    go_enter Tryd.func38, Tryd.ntmps38
    go_wp2_with fail
    refine (IN.out _ (Below.refl _ _)).mono ?_
    rintro e w1 ⟨rfl, hb1⟩
    go_wp2
    go_ret
    exact ⟨ret_bool HQ.out, hb1⟩
  · have HQ : Hid (mayCol c (gs col) (k, n, t) = mayT gs false (.node a0 o0 ⟨c, col, k, n, t⟩ l r)) := m0f ⟨h9, h10, h11⟩
    have b9 : (c == 9) = false := by simpa using h9
    have b10 : (c == 10) = false := by simpa using h10
    have b11 : (c == 11) = false := by simpa using h11
    clear IL IR IN h9 h10 h11
    generalize mayT gs false (.node a0 o0 ⟨c, col, k, n, t⟩ l r) = ee at *
    generalize gs col = st at *
    obtain ⟨sc, sm, ⟨sk, sn, stx⟩, ⟨sk', sn', stx'⟩⟩ := st
    unfold cellsS at IT
    simp only at IT
    have HA1 : Hid (∀ d os, Calls Tryd.prog 53 #[fv, .string col] (grow (redrawn w d) os) fun e w'' => e = .returned (.agg #[.int .i64 sc, .int .i64 sm, .int .i64 sk, .int .i64 sn, .string stx, .int .i64 sk', .int .i64 sn', .string stx']) ∧ ∃ p : Regrown, w'' = grow (redrawn w p.d) p.os) := fun d os => Calls.regrown_of (IT.out _ (below_regrown w d os))
    have HA2 : Hid (∀ d os, Calls Tryd.prog 52 #[.int .i64 c, .agg #[.int .i64 sc, .int .i64 sm, .int .i64 sk, .int .i64 sn, .string stx, .int .i64 sk', .int .i64 sn', .string stx'], .agg #[.int .i64 k, .int .i64 n, .string t]] (grow (redrawn w d) os) fun e w'' => e = .returned (.bool (mayCol c (sc, sm, (sk, sn, stx), (sk', sn', stx')) (k, n, t))) ∧ ∃ p : Regrown, w'' = grow (redrawn w p.d) p.os) := fun d os => Calls.regrown_of (mayColumn_any c sc sm sk sn stx sk' sn' stx' k n t _)
    generalize mayCol c (sc, sm, (sk, sn, stx), (sk', sn', stx')) (k, n, t) = mc at *
    go_enter Tryd.func38, Tryd.ntmps38
    go_wp2_with fail
    replace c0 := cell_regrown c0; replace c1 := cell_regrown c1; replace c2 := cell_regrown c2; replace c3 := cell_regrown c3; replace c4 := cell_regrown c4
    clear c5 c6
    refine wp_region_quiet_below (by kernel_rfl) (by kernel_rfl) ?_
    repeat (go_big_quiet_step (first
      | (go_at_call_of 53 (#[fv, .string col] : Array Value); exact HA1.out _ _)
      | (go_at_call_of 52 (#[.int .i64 c, .agg #[.int .i64 sc, .int .i64 sm, .int .i64 sk, .int .i64 sn, .string stx, .int .i64 sk', .int .i64 sn', .string stx'], .agg #[.int .i64 k, .int .i64 n, .string t]] : Array Value); exact HA2.out _ _)))
    refine wpQuiet_nil ?_
    intro _ hw'
    obtain ⟨⟨dq, osq⟩, hw''⟩ := hw'
    subst hw''
    go_wp2
    go_ret
    exact ⟨ret_bool HQ.out, below_regrown w dq osq⟩

set_option maxHeartbeats 1000000 in
theorem may38_nil (fv : Value) (gs : ByteArray → St) (w : World) :
    Calls Tryd.prog 38 #[.pointer none, fv] w fun e w' => e = .returned (.bool (mayT gs false .nil)) ∧ Below w.heap.size w w' := by
  have HQ : Hid (true = mayT gs false .nil) := rfl
  go_enter Tryd.func38, Tryd.ntmps38
  go_wp2
  go_ret
  exact ⟨ret_bool HQ.out, Below.refl _ _⟩

set_option maxHeartbeats 8000000 in
theorem may51_node (fv : Value) (gs : ByteArray → St) (a0 o0 : Nat) (c : Int) (col : ByteArray) (k n : Int) (t : ByteArray) (l r : CT) (b : Nat) (pl pr : Value) (w : World)
    (hh : w.heap[b]? = some (.cells #[.int .i64 c, .string col, .int .i64 k, .int .i64 n, .string t, pl, pr] 39)) (hg : ToldS fv gs w) (ho : OppB w)
    (hl : ∀ W, Below w.heap.size w W → Calls Tryd.prog 51 #[pl, fv] W fun e w' => e = .returned (.bool (mayT gs true l)) ∧ Below W.heap.size W w')
    (hr : ∀ W, Below w.heap.size w W → Calls Tryd.prog 51 #[pr, fv] W fun e w' => e = .returned (.bool (mayT gs true r)) ∧ Below W.heap.size W w')
    (hn : ∀ W, Below w.heap.size w W → Calls Tryd.prog 38 #[pl, fv] W fun e w' => e = .returned (.bool (mayT gs false l)) ∧ Below W.heap.size W w') :
    Calls Tryd.prog 51 #[.pointer (some ⟨b, 0, none⟩), fv] w fun e w' => e = .returned (.bool (mayT gs true (.node a0 o0 ⟨c, col, k, n, t⟩ l r))) ∧ Below w.heap.size w w' := by
  have c0 : w.cell? ⟨b, 0, none⟩ = some (.int .i64 c) := cell_of_heap hh 0
  have c1 : w.cell? ⟨b, 1, none⟩ = some (.string col) := cell_of_heap hh 1
  have c2 : w.cell? ⟨b, 2, none⟩ = some (.int .i64 k) := cell_of_heap hh 2
  have c3 : w.cell? ⟨b, 3, none⟩ = some (.int .i64 n) := cell_of_heap hh 3
  have c4 : w.cell? ⟨b, 4, none⟩ = some (.string t) := cell_of_heap hh 4
  have c5 : w.cell? ⟨b, 5, none⟩ = some pl := cell_of_heap hh 5
  have c6 : w.cell? ⟨b, 6, none⟩ = some pr := cell_of_heap hh 6
  have hlt : b < w.heap.size := block_lt_of_cell c0
  have IT : Hid (∀ W, Below w.heap.size w W → Calls Tryd.prog 53 #[fv, .string col] W fun e w' => e = .returned (.agg (cellsS (gs col))) ∧ Below W.heap.size W w') := fun W hb => hg W col hb
  have HO := mkHid ho
  have IL := mkHid hl
  have IR := mkHid hr
  have IN := mkHid hn
  clear hh hg ho hl hr hn
  by_cases h9 : c = 9
  · have HQ : Hid ((mayT gs true l || mayT gs true r) = mayT gs true (.node a0 o0 ⟨c, col, k, n, t⟩ l r)) := m9t h9
    subst h9
    clear IT HO IN
    generalize mayT gs true (.node a0 o0 ⟨9, col, k, n, t⟩ l r) = ee at *
    generalize mayT gs true l = el at *
    generalize mayT gs true r = er at *
    cases hel : el
    · subst hel
      go_enter Tryd.func51, Tryd.ntmps51
      go_wp2_with fail
      refine (IL.out _ (Below.refl _ _)).mono ?_
      rintro e w1 ⟨rfl, hb1⟩
      replace c6 : w1.cell? ⟨b, 6, none⟩ = some pr := (hb1.cell (p := ⟨b, 6, none⟩) hlt).trans c6
      go_wp2_with fail
      refine (IR.out _ hb1).mono ?_
      rintro e w2 ⟨rfl, hb2⟩
      go_wp2
      go_ret
      exact ⟨ret_bool HQ.out, Below.up hb1 hb2⟩
    · subst hel
      go_enter Tryd.func51, Tryd.ntmps51
      go_wp2_with fail
      refine (IL.out _ (Below.refl _ _)).mono ?_
      rintro e w1 ⟨rfl, hb1⟩
      go_wp2
      go_ret
      exact ⟨ret_bool HQ.out, hb1⟩
  by_cases h10 : c = 10
  · have HQ : Hid ((mayT gs true l && mayT gs true r) = mayT gs true (.node a0 o0 ⟨c, col, k, n, t⟩ l r)) := m10t h10
    subst h10
    clear IT HO IN
    generalize mayT gs true (.node a0 o0 ⟨10, col, k, n, t⟩ l r) = ee at *
    generalize mayT gs true l = el at *
    generalize mayT gs true r = er at *
    cases hel : el
    · subst hel
      go_enter Tryd.func51, Tryd.ntmps51
      go_wp2_with fail
      refine (IL.out _ (Below.refl _ _)).mono ?_
      rintro e w1 ⟨rfl, hb1⟩
      go_wp2
      go_ret
      exact ⟨ret_bool HQ.out, hb1⟩
    · subst hel
      go_enter Tryd.func51, Tryd.ntmps51
      go_wp2_with fail
      refine (IL.out _ (Below.refl _ _)).mono ?_
      rintro e w1 ⟨rfl, hb1⟩
      replace c6 : w1.cell? ⟨b, 6, none⟩ = some pr := (hb1.cell (p := ⟨b, 6, none⟩) hlt).trans c6
      go_wp2_with fail
      refine (IR.out _ hb1).mono ?_
      rintro e w2 ⟨rfl, hb2⟩
      go_wp2
      go_ret
      exact ⟨ret_bool HQ.out, Below.up hb1 hb2⟩
  by_cases h11 : c = 11
  · have HQ : Hid (mayT gs false l = mayT gs true (.node a0 o0 ⟨c, col, k, n, t⟩ l r)) := m11t h11
    subst h11
    clear IT HO IL IR
    generalize mayT gs true (.node a0 o0 ⟨11, col, k, n, t⟩ l r) = ee at *
    generalize mayT gs false l = el at *
    go_enter Tryd.func51, Tryd.ntmps51
    go_wp2_with fail
    refine (IN.out _ (Below.refl _ _)).mono ?_
    rintro e w1 ⟨rfl, hb1⟩
    go_wp2
    go_ret
    exact ⟨ret_bool HQ.out, hb1⟩
  · have HQ : Hid (mayCol (opp c) (gs col) (k, n, t) = mayT gs true (.node a0 o0 ⟨c, col, k, n, t⟩ l r)) := m0t ⟨h9, h10, h11⟩
    have b9 : (c == 9) = false := by simpa using h9
    have b10 : (c == 10) = false := by simpa using h10
    have b11 : (c == 11) = false := by simpa using h11
    clear IL IR IN h9 h10 h11
    generalize mayT gs true (.node a0 o0 ⟨c, col, k, n, t⟩ l r) = ee at *
    generalize gs col = st at *
    obtain ⟨sc, sm, ⟨sk, sn, stx⟩, ⟨sk', sn', stx'⟩⟩ := st
    unfold cellsS at IT
    simp only at IT
    have HA0 : Hid (∀ d os, Calls Tryd.prog 61 #[.int .i64 c] (grow (redrawn w d) os) fun e w'' => e = .returned (.int .i64 (opp c)) ∧ ∃ p : Regrown, w'' = grow (redrawn w p.d) p.os) := fun d os => (opposite_any c _ (HO.out.below (below_regrown w d os))).mono fun _ _ ⟨he, hw⟩ => ⟨he, ⟨⟨d, os⟩, hw⟩⟩
    have HA1 : Hid (∀ d os, Calls Tryd.prog 53 #[fv, .string col] (grow (redrawn w d) os) fun e w'' => e = .returned (.agg #[.int .i64 sc, .int .i64 sm, .int .i64 sk, .int .i64 sn, .string stx, .int .i64 sk', .int .i64 sn', .string stx']) ∧ ∃ p : Regrown, w'' = grow (redrawn w p.d) p.os) := fun d os => Calls.regrown_of (IT.out _ (below_regrown w d os))
    have HA2 : Hid (∀ d os, Calls Tryd.prog 52 #[.int .i64 (opp c), .agg #[.int .i64 sc, .int .i64 sm, .int .i64 sk, .int .i64 sn, .string stx, .int .i64 sk', .int .i64 sn', .string stx'], .agg #[.int .i64 k, .int .i64 n, .string t]] (grow (redrawn w d) os) fun e w'' => e = .returned (.bool (mayCol (opp c) (sc, sm, (sk, sn, stx), (sk', sn', stx')) (k, n, t))) ∧ ∃ p : Regrown, w'' = grow (redrawn w p.d) p.os) := fun d os => Calls.regrown_of (mayColumn_any (opp c) sc sm sk sn stx sk' sn' stx' k n t _)
    generalize opp c = oc at *
    generalize mayCol oc (sc, sm, (sk, sn, stx), (sk', sn', stx')) (k, n, t) = mc at *
    go_enter Tryd.func51, Tryd.ntmps51
    go_wp2_with fail
    replace c0 := cell_regrown c0; replace c1 := cell_regrown c1; replace c2 := cell_regrown c2; replace c3 := cell_regrown c3; replace c4 := cell_regrown c4
    clear c5 c6
    refine wp_region_quiet_below (by kernel_rfl) (by kernel_rfl) ?_
    repeat (go_big_quiet_step (first
      | (go_at_call_of 61 (#[.int .i64 c] : Array Value); exact HA0.out _ _)
      | (go_at_call_of 53 (#[fv, .string col] : Array Value); exact HA1.out _ _)
      | (go_at_call_of 52 (#[.int .i64 oc, .agg #[.int .i64 sc, .int .i64 sm, .int .i64 sk, .int .i64 sn, .string stx, .int .i64 sk', .int .i64 sn', .string stx'], .agg #[.int .i64 k, .int .i64 n, .string t]] : Array Value); exact HA2.out _ _)))
    refine wpQuiet_nil ?_
    intro _ hw'
    obtain ⟨⟨dq, osq⟩, hw''⟩ := hw'
    subst hw''
    go_wp2
    go_ret
    exact ⟨ret_bool HQ.out, below_regrown w dq osq⟩

set_option maxHeartbeats 1000000 in
theorem may51_nil (fv : Value) (gs : ByteArray → St) (w : World) :
    Calls Tryd.prog 51 #[.pointer none, fv] w fun e w' => e = .returned (.bool (mayT gs true .nil)) ∧ Below w.heap.size w w' := by
  have HQ : Hid (false = mayT gs true .nil) := rfl
  go_enter Tryd.func51, Tryd.ntmps51
  go_wp2
  go_ret
  exact ⟨ret_bool HQ.out, Below.refl _ _⟩

theorem may_both (fv : Value) (gs : ByteArray → St) : ∀ (T : CT) (v : Value) (w : World), InC w T v → ToldS fv gs w → OppB w →
    (Calls Tryd.prog 38 #[v, fv] w fun e w' => e = .returned (.bool (mayT gs false T)) ∧ Below w.heap.size w w') ∧ (Calls Tryd.prog 51 #[v, fv] w fun e w' => e = .returned (.bool (mayT gs true T)) ∧ Below w.heap.size w w')
  | .nil, v, w, h, _, _ => by
    obtain rfl : v = .pointer none := h
    exact ⟨may38_nil fv gs w, may51_nil fv gs w⟩
  | .node a0 o0 ⟨c, col, k, n, t⟩ l r, v, w, h, hg, ho => by
    obtain ⟨b, pl, pr, rfl, hh, _, hl, hr⟩ := h
    have IL := fun W hb => may_both fv gs l pl W (hl.up hb) (hg.up hb) (ho.below hb)
    have IR := fun W hb => may_both fv gs r pr W (hr.up hb) (hg.up hb) (ho.below hb)
    exact ⟨may38_node fv gs a0 o0 c col k n t l r b pl pr w hh hg ho (fun W hb => (IL W hb).1) (fun W hb => (IR W hb).1) (fun W hb => (IL W hb).2),
      may51_node fv gs a0 o0 c col k n t l r b pl pr w hh hg ho (fun W hb => (IL W hb).2) (fun W hb => (IR W hb).2) (fun W hb => (IL W hb).1)⟩

set_option maxHeartbeats 1000000 in
theorem May_any (fv : Value) (gs : ByteArray → St) (T : CT) (v : Value) (w : World) (h : InC w T v) (hg : ToldS fv gs w) (ho : OppB w) (hd : withinT T 24 = true) :
    Calls Tryd.prog 20 #[v, fv] w fun e w' => e = .returned (.bool (mayT gs false T)) ∧ Below w.heap.size w w' := by
  have H1 : Hid (Calls Tryd.prog 34 #[v] w fun e w' => e = .returned (.bool true) ∧ w' = w) := by
    have := ends_any T v w h
    rw [hd] at this
    exact this
  have H2 := mkHid (may_both fv gs T v w h hg ho).1
  generalize mayT gs false T = ee at *
  clear h hg ho hd
  go_enter Tryd.func20, Tryd.ntmps20
  go_wp2_with fail
  refine H1.out.mono ?_; rintro e w1 ⟨rfl, rfl⟩
  go_wp2_with fail
  refine H2.out.mono ?_; rintro e w2 ⟨rfl, hb2⟩
  go_wp2
  go_ret
  exact ⟨rfl, hb2⟩
end Go.Proofs.YtmghdphafepifaaDoor
