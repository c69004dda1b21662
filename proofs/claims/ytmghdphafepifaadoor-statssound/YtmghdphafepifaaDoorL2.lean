/- What value.holds and value.Holds do at every condition that lies in memory as a tree, said of every call. -/
import Derived.Test.YtmghdphafepifaaDoorL1
namespace Go.Proofs.YtmghdphafepifaaDoor
open Go.RowKit Go.Proofs
open Go.Sort (grow)

/-- What a condition comes to. -/
def evT (gk gn : ByteArray → Int) (gt : ByteArray → ByteArray) : CT → Int
  | .nil => 1
  | .node _ _ ⟨c, col, k, n, t⟩ l r => if c = 7 then b2i (gk col == 0) else if c = 8 then b2i (gk col != 0) else if c = 11 then notI (evT gk gn gt l) else if c = 9 then andI (evT gk gn gt l) (evT gk gn gt r) else if c = 10 then orJ (evT gk gn gt l) (evT gk gn gt r) else isV c (gk col) (gn col) (gt col) k n t
theorem b2i_range (b : Bool) : -1 ≤ b2i b ∧ b2i b ≤ 1 := by cases b <;> simp [b2i]
theorem isV_range (c k1 n1 : Int) (t1 : ByteArray) (k2 n2 : Int) (t2 : ByteArray) : -1 ≤ isV c k1 n1 t1 k2 n2 t2 ∧ isV c k1 n1 t1 k2 n2 t2 ≤ 1 := by
  unfold isV; split
  · omega
  · exact b2i_range _
theorem evT_range (gk gn : ByteArray → Int) (gt : ByteArray → ByteArray) : ∀ T : CT, -1 ≤ evT gk gn gt T ∧ evT gk gn gt T ≤ 1
  | .nil => by simp [evT]
  | .node a0 o0 ⟨c, col, k, n, t⟩ l r => by
    have hl := evT_range gk gn gt l
    have hr := evT_range gk gn gt r
    unfold evT
    split
    · exact b2i_range _
    split
    · exact b2i_range _
    split
    · unfold notI; split <;> omega
    split
    · unfold andI; split <;> omega
    split
    · unfold orJ; split <;> omega
    · exact isV_range _ _ _ _ _ _ _

theorem e7 {gk gn : ByteArray → Int} {gt : ByteArray → ByteArray} {c : Int} {col : ByteArray} {k n : Int} {t : ByteArray} {l r : CT} {a0 o0 : Nat} (h : c = 7) : b2i (gk col == 0) = evT gk gn gt (.node a0 o0 ⟨c, col, k, n, t⟩ l r) := by rw [evT, if_pos h]
theorem e8 {gk gn : ByteArray → Int} {gt : ByteArray → ByteArray} {c : Int} {col : ByteArray} {k n : Int} {t : ByteArray} {l r : CT} {a0 o0 : Nat} (h : c = 8) : b2i (gk col != 0) = evT gk gn gt (.node a0 o0 ⟨c, col, k, n, t⟩ l r) := by rw [evT, if_neg (by omega), if_pos h]
theorem e11 {gk gn : ByteArray → Int} {gt : ByteArray → ByteArray} {c : Int} {col : ByteArray} {k n : Int} {t : ByteArray} {l r : CT} {a0 o0 : Nat} (h : c = 11) : notI (evT gk gn gt l) = evT gk gn gt (.node a0 o0 ⟨c, col, k, n, t⟩ l r) := by rw [evT, if_neg (by omega), if_neg (by omega), if_pos h]
theorem e9 {gk gn : ByteArray → Int} {gt : ByteArray → ByteArray} {c : Int} {col : ByteArray} {k n : Int} {t : ByteArray} {l r : CT} {a0 o0 : Nat} (h : c = 9) : andI (evT gk gn gt l) (evT gk gn gt r) = evT gk gn gt (.node a0 o0 ⟨c, col, k, n, t⟩ l r) := by rw [evT, if_neg (by omega), if_neg (by omega), if_neg (by omega), if_pos h]
theorem e10 {gk gn : ByteArray → Int} {gt : ByteArray → ByteArray} {c : Int} {col : ByteArray} {k n : Int} {t : ByteArray} {l r : CT} {a0 o0 : Nat} (h : c = 10) : orJ (evT gk gn gt l) (evT gk gn gt r) = evT gk gn gt (.node a0 o0 ⟨c, col, k, n, t⟩ l r) := by rw [evT, if_neg (by omega), if_neg (by omega), if_neg (by omega), if_neg (by omega), if_pos h]
theorem e0 {gk gn : ByteArray → Int} {gt : ByteArray → ByteArray} {c : Int} {col : ByteArray} {k n : Int} {t : ByteArray} {l r : CT} {a0 o0 : Nat} (h : ¬ c = 7 ∧ ¬ c = 8 ∧ ¬ c = 11 ∧ ¬ c = 9 ∧ ¬ c = 10) : isV c (gk col) (gn col) (gt col) k n t = evT gk gn gt (.node a0 o0 ⟨c, col, k, n, t⟩ l r) := by
  rw [evT, if_neg (by omega), if_neg (by omega), if_neg (by omega), if_neg (by omega), if_neg (by omega)]

theorem fld (k n : Int) (t : ByteArray) (W : World) : (Instr.field 23 (.agg #[.int .i64 k, .int .i64 n, .string t]) 0).run Tryd.prog W = .ok (.int .i64 k) W := by kernel_rfl

set_option maxHeartbeats 4000000 in
theorem holds_any (pa pb : Value) (gk gn : ByteArray → Int) (gt : ByteArray → ByteArray) : ∀ (T : CT) (v : Value) (w : World), InC w T v → GetOk pa pb gk gn gt w →
    Calls Tryd.prog 35 #[v, .func (.func 13) #[] #[pa, pb]] w fun e w' => e = .returned (.int .i64 (evT gk gn gt T)) ∧ Below w.heap.size w w'
  | .nil, v, w, h, _ => by
    obtain rfl : v = .pointer none := h
    have HQ : Hid (1 = evT gk gn gt .nil) := rfl
    go_enter Tryd.func35, Tryd.ntmps35
    go_wp2
    go_ret
    exact ⟨ret_int HQ.out, Below.refl _ _⟩
  | .node a0 o0 ⟨c, col, k, n, t⟩ l r, v, w, h, hg => by
    obtain ⟨b, pl, pr, rfl, hh, _, hl, hr⟩ := h
    have c0 : w.cell? ⟨b, 0, none⟩ = some (.int .i64 c) := cell_of_heap hh 0
    have c1 : w.cell? ⟨b, 1, none⟩ = some (.string col) := cell_of_heap hh 1
    have c2 : w.cell? ⟨b, 2, none⟩ = some (.int .i64 k) := cell_of_heap hh 2
    have c3 : w.cell? ⟨b, 3, none⟩ = some (.int .i64 n) := cell_of_heap hh 3
    have c4 : w.cell? ⟨b, 4, none⟩ = some (.string t) := cell_of_heap hh 4
    have c5 : w.cell? ⟨b, 5, none⟩ = some pl := cell_of_heap hh 5
    have c6 : w.cell? ⟨b, 6, none⟩ = some pr := cell_of_heap hh 6
    clear hh
    have IT : Hid (∀ W, Below w.heap.size w W → Calls Tryd.prog 47 #[.func (.func 13) #[] #[pa, pb], .string col] W fun e w' => e = .returned (.agg #[.int .i64 (gk col), .int .i64 (gn col), .string (gt col)]) ∧ Below W.heap.size W w') := fun W hb => told_any pa pb gk gn gt col W (hg.up hb)
    have IL : Hid (∀ W, Below w.heap.size w W → Calls Tryd.prog 35 #[pl, .func (.func 13) #[] #[pa, pb]] W fun e w' => e = .returned (.int .i64 (evT gk gn gt l)) ∧ Below W.heap.size W w') := fun W hb => holds_any pa pb gk gn gt l pl W (hl.up hb) (hg.up hb)
    have IR : Hid (∀ W, Below w.heap.size w W → Calls Tryd.prog 35 #[pr, .func (.func 13) #[] #[pa, pb]] W fun e w' => e = .returned (.int .i64 (evT gk gn gt r)) ∧ Below W.heap.size W w') := fun W hb => holds_any pa pb gk gn gt r pr W (hr.up hb) (hg.up hb)
    have rl := evT_range gk gn gt l
    have rr := evT_range gk gn gt r
    clear hl hr hg
    by_cases h7 : c = 7
    · have HQ : Hid (b2i (gk col == 0) = evT gk gn gt (.node a0 o0 ⟨c, col, k, n, t⟩ l r)) := e7 h7
      subst h7
      clear IL IR
      generalize evT gk gn gt (.node a0 o0 ⟨7, col, k, n, t⟩ l r) = ee at *
      generalize gk col = kk, gn col = nn, gt col = tt at *
      clear rl rr
      have hfl := fld kk nn tt
      go_enter Tryd.func35, Tryd.ntmps35
      go_wp2_with fail
      refine (IT.out _ (Below.refl _ _)).mono ?_
      rintro e w1 ⟨rfl, hb1⟩
      go_wp2_with (go_at_call 32; refine (number_any _ _).mono ?_; rintro e w2 ⟨rfl, rfl⟩)
      go_ret
      exact ⟨ret_int HQ.out, hb1⟩
    by_cases h8 : c = 8
    · have HQ : Hid (b2i (gk col != 0) = evT gk gn gt (.node a0 o0 ⟨c, col, k, n, t⟩ l r)) := e8 h8
      subst h8
      clear IL IR h7
      generalize evT gk gn gt (.node a0 o0 ⟨8, col, k, n, t⟩ l r) = ee at *
      generalize gk col = kk, gn col = nn, gt col = tt at *
      clear rl rr
      have hfl := fld kk nn tt
      go_enter Tryd.func35, Tryd.ntmps35
      go_wp2_with fail
      refine (IT.out _ (Below.refl _ _)).mono ?_
      rintro e w1 ⟨rfl, hb1⟩
      go_wp2_with (go_at_call 32; refine (number_any _ _).mono ?_; rintro e w2 ⟨rfl, rfl⟩)
      go_ret
      exact ⟨ret_int HQ.out, hb1⟩
    by_cases h11 : c = 11
    · have HQ : Hid (notI (evT gk gn gt l) = evT gk gn gt (.node a0 o0 ⟨c, col, k, n, t⟩ l r)) := e11 h11
      subst h11
      clear IT IR h7 h8 rr
      generalize evT gk gn gt (.node a0 o0 ⟨11, col, k, n, t⟩ l r) = ee at *
      generalize evT gk gn gt l = el at *
      go_enter Tryd.func35, Tryd.ntmps35
      go_wp2_with fail
      refine (IL.out _ (Below.refl _ _)).mono ?_
      rintro e w1 ⟨rfl, hb1⟩
      go_wp2_with (go_at_call 48; refine (not_any _ rl.1 rl.2 _).mono ?_; rintro e w2 ⟨rfl, rfl⟩)
      go_ret
      exact ⟨ret_int HQ.out, hb1⟩
    by_cases h9 : c = 9
    · have HQ : Hid (andI (evT gk gn gt l) (evT gk gn gt r) = evT gk gn gt (.node a0 o0 ⟨c, col, k, n, t⟩ l r)) := e9 h9
      subst h9
      clear IT h7 h8 h11 rl rr
      generalize evT gk gn gt (.node a0 o0 ⟨9, col, k, n, t⟩ l r) = ee at *
      generalize evT gk gn gt l = el, evT gk gn gt r = er at *
      go_enter Tryd.func35, Tryd.ntmps35
      go_wp2_with fail
      replace c0 := cell_regrown c0; replace c5 := cell_regrown c5; replace c6 := cell_regrown c6
      clear c1 c2 c3 c4
      have HA1 : Hid (∀ d os, Calls Tryd.prog 35 #[pl, .func (.func 13) #[] #[pa, pb]] (grow (redrawn w d) os) fun e w'' => e = .returned (.int .i64 el) ∧ ∃ p : Regrown, w'' = grow (redrawn w p.d) p.os) := fun d os => Calls.regrown_of (IL.out _ (below_regrown w d os))
      have HA2 : Hid (∀ d os, Calls Tryd.prog 35 #[pr, .func (.func 13) #[] #[pa, pb]] (grow (redrawn w d) os) fun e w'' => e = .returned (.int .i64 er) ∧ ∃ p : Regrown, w'' = grow (redrawn w p.d) p.os) := fun d os => Calls.regrown_of (IR.out _ (below_regrown w d os))
      have HA3 : Hid (∀ d os, Calls Tryd.prog 49 #[.int .i64 el, .int .i64 er] (grow (redrawn w d) os) fun e w'' => e = .returned (.int .i64 (andI el er)) ∧ ∃ p : Regrown, w'' = grow (redrawn w p.d) p.os) := fun d os => (and_any el er _).mono fun _ _ ⟨he, hw⟩ => ⟨he, ⟨⟨d, os⟩, hw⟩⟩
      refine wp_region_quiet_below (by kernel_rfl) (by kernel_rfl) ?_
      repeat (go_big_quiet_step (first
        | (go_at_call_of 35 (#[pl, .func (.func 13) #[] #[pa, pb]] : Array Value); exact HA1.out _ _)
        | (go_at_call_of 35 (#[pr, .func (.func 13) #[] #[pa, pb]] : Array Value); exact HA2.out _ _)
        | (go_at_call_of 49 (#[.int .i64 el, .int .i64 er] : Array Value); exact HA3.out _ _)))
      refine wpQuiet_nil ?_
      intro _ hw'
      obtain ⟨⟨dq, osq⟩, hw''⟩ := hw'
      subst hw''
      go_wp2
      go_ret
      exact ⟨ret_int HQ.out, below_regrown w dq osq⟩
    by_cases h10 : c = 10
    · have HQ : Hid (orJ (evT gk gn gt l) (evT gk gn gt r) = evT gk gn gt (.node a0 o0 ⟨c, col, k, n, t⟩ l r)) := e10 h10
      subst h10
      clear IT h7 h8 h11 h9 rl rr
      generalize evT gk gn gt (.node a0 o0 ⟨10, col, k, n, t⟩ l r) = ee at *
      generalize evT gk gn gt l = el, evT gk gn gt r = er at *
      go_enter Tryd.func35, Tryd.ntmps35
      go_wp2_with fail
      replace c0 := cell_regrown c0; replace c5 := cell_regrown c5; replace c6 := cell_regrown c6
      clear c1 c2 c3 c4
      have HA1 : Hid (∀ d os, Calls Tryd.prog 35 #[pl, .func (.func 13) #[] #[pa, pb]] (grow (redrawn w d) os) fun e w'' => e = .returned (.int .i64 el) ∧ ∃ p : Regrown, w'' = grow (redrawn w p.d) p.os) := fun d os => Calls.regrown_of (IL.out _ (below_regrown w d os))
      have HA2 : Hid (∀ d os, Calls Tryd.prog 35 #[pr, .func (.func 13) #[] #[pa, pb]] (grow (redrawn w d) os) fun e w'' => e = .returned (.int .i64 er) ∧ ∃ p : Regrown, w'' = grow (redrawn w p.d) p.os) := fun d os => Calls.regrown_of (IR.out _ (below_regrown w d os))
      have HA3 : Hid (∀ d os, Calls Tryd.prog 50 #[.int .i64 el, .int .i64 er] (grow (redrawn w d) os) fun e w'' => e = .returned (.int .i64 (orJ el er)) ∧ ∃ p : Regrown, w'' = grow (redrawn w p.d) p.os) := fun d os => (or_any2 el er _).mono fun _ _ ⟨he, hw⟩ => ⟨he, ⟨⟨d, os⟩, hw⟩⟩
      refine wp_region_quiet_below (by kernel_rfl) (by kernel_rfl) ?_
      repeat (go_big_quiet_step (first
        | (go_at_call_of 35 (#[pl, .func (.func 13) #[] #[pa, pb]] : Array Value); exact HA1.out _ _)
        | (go_at_call_of 35 (#[pr, .func (.func 13) #[] #[pa, pb]] : Array Value); exact HA2.out _ _)
        | (go_at_call_of 50 (#[.int .i64 el, .int .i64 er] : Array Value); exact HA3.out _ _)))
      refine wpQuiet_nil ?_
      intro _ hw'
      obtain ⟨⟨dq, osq⟩, hw''⟩ := hw'
      subst hw''
      go_wp2
      go_ret
      exact ⟨ret_int HQ.out, below_regrown w dq osq⟩
    · have HQ : Hid (isV c (gk col) (gn col) (gt col) k n t = evT gk gn gt (.node a0 o0 ⟨c, col, k, n, t⟩ l r)) := e0 ⟨h7, h8, h11, h9, h10⟩
      have b7 : (c == 7) = false := by simpa using h7
      have b8 : (c == 8) = false := by simpa using h8
      have b11 : (c == 11) = false := by simpa using h11
      have b9 : (c == 9) = false := by simpa using h9
      have b10 : (c == 10) = false := by simpa using h10
      clear IL IR h7 h8 h11 h9 h10 rl rr
      generalize evT gk gn gt (.node a0 o0 ⟨c, col, k, n, t⟩ l r) = ee at *
      generalize gk col = kk, gn col = nn, gt col = tt at *
      go_enter Tryd.func35, Tryd.ntmps35
      go_wp2_with fail
      replace c0 := cell_regrown c0; replace c1 := cell_regrown c1; replace c2 := cell_regrown c2; replace c3 := cell_regrown c3; replace c4 := cell_regrown c4
      clear c5 c6
      have HA1 : Hid (∀ d os, Calls Tryd.prog 47 #[.func (.func 13) #[] #[pa, pb], .string col] (grow (redrawn w d) os) fun e w'' => e = .returned (.agg #[.int .i64 kk, .int .i64 nn, .string tt]) ∧ ∃ p : Regrown, w'' = grow (redrawn w p.d) p.os) := fun d os => Calls.regrown_of (IT.out _ (below_regrown w d os))
      have HA2 : Hid (∀ d os, Calls Tryd.prog 11 #[.int .i64 c, .agg #[.int .i64 kk, .int .i64 nn, .string tt], .agg #[.int .i64 k, .int .i64 n, .string t]] (grow (redrawn w d) os) fun e w'' => e = .returned (.int .i64 (isV c kk nn tt k n t)) ∧ ∃ p : Regrown, w'' = grow (redrawn w p.d) p.os) := fun d os => Calls.regrown_of (is_any c kk nn k n tt t _)
      refine wp_region_quiet_below (by kernel_rfl) (by kernel_rfl) ?_
      repeat (go_big_quiet_step (first
        | (go_at_call_of 47 (#[.func (.func 13) #[] #[pa, pb], .string col] : Array Value); exact HA1.out _ _)
        | (go_at_call_of 11 (#[.int .i64 c, .agg #[.int .i64 kk, .int .i64 nn, .string tt], .agg #[.int .i64 k, .int .i64 n, .string t]] : Array Value); exact HA2.out _ _)))
      refine wpQuiet_nil ?_
      intro _ hw'
      obtain ⟨⟨dq, osq⟩, hw''⟩ := hw'
      subst hw''
      go_wp2
      go_ret
      exact ⟨ret_int HQ.out, below_regrown w dq osq⟩

set_option maxHeartbeats 1000000 in
theorem ends_any (T : CT) (v : Value) (w : World) (h : InC w T v) :
    Calls Tryd.prog 34 #[v] w fun e w' => e = .returned (.bool (withinT T 24)) ∧ w' = w := by
  have H1 := mkHid (within_any T v 24 w h (by omega) (by omega))
  clear h
  generalize withinT T 24 = b at *
  go_enter Tryd.func34, Tryd.ntmps34
  go_wp2_with fail
  refine H1.out.mono ?_; rintro e w1 ⟨rfl, rfl⟩
  go_wp2
  go_ret
  exact ⟨rfl, rfl⟩

set_option maxHeartbeats 1000000 in
theorem Holds_any (pa pb : Value) (gk gn : ByteArray → Int) (gt : ByteArray → ByteArray) (T : CT) (v : Value) (w : World) (h : InC w T v) (hg : GetOk pa pb gk gn gt w) (hd : withinT T 24 = true) :
    Calls Tryd.prog 15 #[v, .func (.func 13) #[] #[pa, pb]] w fun e w' => e = .returned (.int .i64 (evT gk gn gt T)) ∧ Below w.heap.size w w' := by
  have H1 : Hid (Calls Tryd.prog 34 #[v] w fun e w' => e = .returned (.bool true) ∧ w' = w) := by
    have := ends_any T v w h
    rw [hd] at this
    exact this
  have H2 := mkHid (holds_any pa pb gk gn gt T v w h hg)
  generalize evT gk gn gt T = ee at *
  clear h hg hd
  go_enter Tryd.func15, Tryd.ntmps15
  go_wp2_with fail
  refine H1.out.mono ?_; rintro e w1 ⟨rfl, rfl⟩
  go_wp2_with fail
  refine H2.out.mono ?_; rintro e w2 ⟨rfl, hb2⟩
  go_wp2
  go_ret
  exact ⟨rfl, hb2⟩
end Go.Proofs.YtmghdphafepifaaDoor
