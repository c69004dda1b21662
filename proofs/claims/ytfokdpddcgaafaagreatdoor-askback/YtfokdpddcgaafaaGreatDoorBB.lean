/- What ask.written and ask.Print do, said of every call. -/
import Derived.Test.YtfokdpddcgaafaaGreatDoorBA
namespace Go.Proofs.YtfokdpddcgaafaaGreatDoor
open Go.RowKit Go.Proofs Go.Lib Go.Proofs.YtfokdpddcgaafaaGreatDoor.Ask
open Go.Sort (grow)

set_option maxHeartbeats 2000000 in
theorem written_isn (b : Bool) (col : List UInt8) (hl : col.length ≤ 1000) : WrOk (.isn b col) := by
  intro v W h hm ht
  obtain ⟨a, pl, pr, rfl, hh, _⟩ := h
  have c0 := cellsAt hh 0
  have c1 := cellsAt hh 1
  simp at c0 c1
  clear hh hm ht
  have hsz : (bA col).size ≤ 1000 := by rw [bA_size]; exact hl
  cases b with
  | false =>
    have HQ : Hid (bA col ++ ⟨#[32, 105, 115, 32, 110, 117, 108, 108]⟩ = bA (tx dcL (.isn false col))) := by
      show _ = _
      exact bA_app col [32, 105, 115, 32, 110, 117, 108, 108]
    generalize bA (tx dcL (.isn false col)) = q at *
    generalize bA col = u at *
    go_enter Tryz.func17, Tryz.ntmps17
    go_wp2
    go_ret
    exact ⟨ret_str HQ.out, Below.refl _ _⟩
  | true =>
    have HQ : Hid (bA col ++ ⟨#[32, 105, 115, 32, 110, 111, 116, 32, 110, 117, 108, 108]⟩ = bA (tx dcL (.isn true col))) := by
      show _ = _
      exact bA_app col [32, 105, 115, 32, 110, 111, 116, 32, 110, 117, 108, 108]
    generalize bA (tx dcL (.isn true col)) = q at *
    generalize bA col = u at *
    go_enter Tryz.func17, Tryz.ntmps17
    go_wp2
    go_ret
    exact ⟨ret_str HQ.out, Below.refl _ _⟩
set_option maxHeartbeats 2000000 in
theorem written_no (x : Tr) (hl : (parX 2 x (tx dcL x)).length ≤ 100000) (ih : WiOk 2 x) : WrOk (.no x) := by
  intro v W h hm ht
  obtain ⟨a, pl, pr, rfl, hh, _, hx, _⟩ := h
  have c0 := cellsAt hh 0
  have c5 := cellsAt hh 5
  simp at c0 c5
  have HI : Hid (Calls Tryz.prog 33 #[pl, .int .i64 2] W fun e w' => e = .returned (.string (bA (parX 2 x (tx dcL x)))) ∧ Below W.heap.size W w') := mkH (ih pl W hx hm ht)
  clear hh hm ht hx ih
  have hsz : (bA (parX 2 x (tx dcL x))).size ≤ 100000 := by rw [bA_size]; exact hl
  have HQ : Hid ((⟨#[110, 111, 116, 32]⟩ : ByteArray) ++ bA (parX 2 x (tx dcL x)) = bA (tx dcL (.no x))) := by
    show _ = _
    exact bA_app [110, 111, 116, 32] (parX 2 x (tx dcL x))
  clear hl
  generalize bA (tx dcL (.no x)) = q at *
  generalize bA (parX 2 x (tx dcL x)) = u at *
  go_enter Tryz.func17, Tryz.ntmps17
  go_wp2_with fail
  refine HI.out.mono ?_
  rintro e w2 ⟨rfl, hb2⟩
  go_wp2
  go_ret
  exact ⟨ret_str HQ.out, hb2⟩
set_option maxHeartbeats 4000000 in
theorem written_or (x y : Tr) (hx : (parX 0 x (tx dcL x)).length ≤ 100000) (hy : (parX 1 y (tx dcL y)).length ≤ 100000) (ihx : WiOk 0 x) (ihy : WiOk 1 y) : WrOk (.bi true x y) := by
  intro v w h hm ht
  obtain ⟨a, pl, pr, rfl, hh, _, hix, hiy⟩ := h
  have c0 := cellsAt hh 0
  have c5 := cellsAt hh 5
  have c6 := cellsAt hh 6
  simp at c0 c5 c6
  have IL : Hid (∀ W, Below w.heap.size w W → Calls Tryz.prog 33 #[pl, .int .i64 0] W fun e w' => e = .returned (.string (bA (parX 0 x (tx dcL x)))) ∧ Below W.heap.size W w') := mkH (fun W hb => ihx pl W (hix.up hb) (hm.below hb) (ht.below hb))
  have IR : Hid (∀ W, Below w.heap.size w W → Calls Tryz.prog 33 #[pr, .int .i64 1] W fun e w' => e = .returned (.string (bA (parX 1 y (tx dcL y)))) ∧ Below W.heap.size W w') := mkH (fun W hb => ihy pr W (hiy.up hb) (hm.below hb) (ht.below hb))
  clear hh hm ht hix hiy ihx ihy
  have hsx : (bA (parX 0 x (tx dcL x))).size ≤ 100000 := by rw [bA_size]; exact hx
  have hsy : (bA (parX 1 y (tx dcL y))).size ≤ 100000 := by rw [bA_size]; exact hy
  have HQ : Hid (bA (parX 0 x (tx dcL x)) ++ ⟨#[32, 111, 114, 32]⟩ ++ bA (parX 1 y (tx dcL y)) = bA (tx dcL (.bi true x y))) := by
    show _ = _
    have e : (⟨#[32, 111, 114, 32]⟩ : ByteArray) = bA [32, 111, 114, 32] := rfl
    rw [e, bA_app, bA_app]
    congr 1
    simp [tx, wOr]
  clear hx hy
  generalize bA (tx dcL (.bi true x y)) = q at *
  generalize bA (parX 0 x (tx dcL x)) = u1 at *
  generalize bA (parX 1 y (tx dcL y)) = u2 at *
  go_enter Tryz.func17, Tryz.ntmps17
  go_wp2_with fail
  replace c0 := cell_regrown c0; replace c5 := cell_regrown c5; replace c6 := cell_regrown c6
  have HA1 : Hid (∀ d os, Calls Tryz.prog 33 #[pl, .int .i64 0] (grow (redrawn w d) os) fun e w'' => e = .returned (.string u1) ∧ ∃ p : Regrown, w'' = grow (redrawn w p.d) p.os) := fun d os => Calls.regrown_of (IL.out _ (below_regrown w d os))
  have HA2 : Hid (∀ d os, Calls Tryz.prog 33 #[pr, .int .i64 1] (grow (redrawn w d) os) fun e w'' => e = .returned (.string u2) ∧ ∃ p : Regrown, w'' = grow (redrawn w p.d) p.os) := fun d os => Calls.regrown_of (IR.out _ (below_regrown w d os))
  refine wp_region_quiet_below (by kernel_rfl) (by kernel_rfl) ?_
  repeat (go_big_quiet_step (first
    | (go_at_call_of 33 (#[pl, .int .i64 0] : Array Value); exact HA1.out _ _)
    | (go_at_call_of 33 (#[pr, .int .i64 1] : Array Value); exact HA2.out _ _)))
  refine wpQuiet_nil ?_
  intro _ hw'
  obtain ⟨⟨dq, osq⟩, hw''⟩ := hw'
  subst hw''
  go_wp2
  go_ret
  exact ⟨ret_str HQ.out, below_regrown w dq osq⟩
set_option maxHeartbeats 4000000 in
theorem written_and (x y : Tr) (hx : (parX 1 x (tx dcL x)).length ≤ 100000) (hy : (parX 2 y (tx dcL y)).length ≤ 100000) (ihx : WiOk 1 x) (ihy : WiOk 2 y) : WrOk (.bi false x y) := by
  intro v w h hm ht
  obtain ⟨a, pl, pr, rfl, hh, _, hix, hiy⟩ := h
  have c0 := cellsAt hh 0
  have c5 := cellsAt hh 5
  have c6 := cellsAt hh 6
  simp at c0 c5 c6
  have IL : Hid (∀ W, Below w.heap.size w W → Calls Tryz.prog 33 #[pl, .int .i64 1] W fun e w' => e = .returned (.string (bA (parX 1 x (tx dcL x)))) ∧ Below W.heap.size W w') := mkH (fun W hb => ihx pl W (hix.up hb) (hm.below hb) (ht.below hb))
  have IR : Hid (∀ W, Below w.heap.size w W → Calls Tryz.prog 33 #[pr, .int .i64 2] W fun e w' => e = .returned (.string (bA (parX 2 y (tx dcL y)))) ∧ Below W.heap.size W w') := mkH (fun W hb => ihy pr W (hiy.up hb) (hm.below hb) (ht.below hb))
  clear hh hm ht hix hiy ihx ihy
  have hsx : (bA (parX 1 x (tx dcL x))).size ≤ 100000 := by rw [bA_size]; exact hx
  have hsy : (bA (parX 2 y (tx dcL y))).size ≤ 100000 := by rw [bA_size]; exact hy
  have HQ : Hid (bA (parX 1 x (tx dcL x)) ++ ⟨#[32, 97, 110, 100, 32]⟩ ++ bA (parX 2 y (tx dcL y)) = bA (tx dcL (.bi false x y))) := by
    show _ = _
    have e : (⟨#[32, 97, 110, 100, 32]⟩ : ByteArray) = bA [32, 97, 110, 100, 32] := rfl
    rw [e, bA_app, bA_app]
    congr 1
    simp [tx, wAnd]
  clear hx hy
  generalize bA (tx dcL (.bi false x y)) = q at *
  generalize bA (parX 1 x (tx dcL x)) = u1 at *
  generalize bA (parX 2 y (tx dcL y)) = u2 at *
  go_enter Tryz.func17, Tryz.ntmps17
  go_wp2_with fail
  replace c0 := cell_regrown c0; replace c5 := cell_regrown c5; replace c6 := cell_regrown c6
  have HA1 : Hid (∀ d os, Calls Tryz.prog 33 #[pl, .int .i64 1] (grow (redrawn w d) os) fun e w'' => e = .returned (.string u1) ∧ ∃ p : Regrown, w'' = grow (redrawn w p.d) p.os) := fun d os => Calls.regrown_of (IL.out _ (below_regrown w d os))
  have HA2 : Hid (∀ d os, Calls Tryz.prog 33 #[pr, .int .i64 2] (grow (redrawn w d) os) fun e w'' => e = .returned (.string u2) ∧ ∃ p : Regrown, w'' = grow (redrawn w p.d) p.os) := fun d os => Calls.regrown_of (IR.out _ (below_regrown w d os))
  refine wp_region_quiet_below (by kernel_rfl) (by kernel_rfl) ?_
  repeat (go_big_quiet_step (first
    | (go_at_call_of 33 (#[pl, .int .i64 1] : Array Value); exact HA1.out _ _)
    | (go_at_call_of 33 (#[pr, .int .i64 2] : Array Value); exact HA2.out _ _)))
  refine wpQuiet_nil ?_
  intro _ hw'
  obtain ⟨⟨dq, osq⟩, hw''⟩ := hw'
  subst hw''
  go_wp2
  go_ret
  exact ⟨ret_str HQ.out, below_regrown w dq osq⟩
set_option maxHeartbeats 4000000 in
theorem written_cmp (cc : Nat) (col : List UInt8) (vl : Vl) (h1 : 1 ≤ cc) (h6 : cc ≤ 6) (hl : col.length ≤ 1000) (hv : VV rtL I64 vl) (ht0 : (vtx vl).size ≤ 1000) : WrOk (.cmp cc col vl) := by
  intro v w h hm ht
  obtain ⟨a, pl, pr, rfl, hh, _⟩ := h
  have c0 := cellsAt hh 0
  have c1 := cellsAt hh 1
  have c2 := cellsAt hh 2
  have c3 := cellsAt hh 3
  have c4 := cellsAt hh 4
  simp at c0 c1 c2 c3 c4
  have hi : I64 (vn vl) := by
    cases vl with
    | num n => exact hv
    | null => exact ⟨by simp [vn], by simp [vn]⟩
    | text l => exact ⟨by simp [vn], by simp [vn]⟩
  have IL : Hid (∀ W, Below w.heap.size w W → Calls Tryz.prog 34 #[.int .i64 (cc : Int)] W fun e w' => e = .returned (.string (bA (mk cc))) ∧ Below W.heap.size W w') := mkH (fun W hb => markOf_any cc W h1 h6 (hm.below hb))
  have IR : Hid (∀ W, Below w.heap.size w W → Calls Tryz.prog 35 #[.agg #[.int .i64 (vk vl), .int .i64 (vn vl), .string (vtx vl)]] W fun e w' => e = .returned (.string (bA (vx dcL vl))) ∧ Below W.heap.size W w') := mkH (fun W hb => by
    rw [← printV_vl]
    exact printV_any _ _ _ W ht0 hi (ht.below hb))
  clear hh hm ht
  have hsc : (bA col).size ≤ 1000 := by rw [bA_size]; exact hl
  have hsm : (bA (mk cc)).size ≤ 1000 := by
    rw [bA_size]
    have : cc = 1 ∨ cc = 2 ∨ cc = 3 ∨ cc = 4 ∨ cc = 5 ∨ cc = 6 := by omega
    rcases this with e | e | e | e | e | e <;> subst e <;> simp [mk]
  have hsv : (bA (vx dcL vl)).size ≤ 2000 := by
    rw [bA_size]
    cases vl with
    | null => simp [vx, wNull]
    | num n => have := itoa_length_le n hi.1 hi.2; simp only [vx, dcL]; omega
    | text l => simp only [vtx, bA_size] at ht0; simp [vx]; omega
  have HQ : Hid (bA col ++ ⟨#[32]⟩ ++ bA (mk cc) ++ ⟨#[32]⟩ ++ bA (vx dcL vl) = bA (tx dcL (.cmp cc col vl))) := by
    show _ = _
    have e : (⟨#[32]⟩ : ByteArray) = bA [32] := rfl
    rw [e, bA_app, bA_app, bA_app, bA_app]
    congr 1
    simp [tx]
  have c5 : 1 ≤ (cc : Int) ∧ (cc : Int) ≤ 6 := by omega
  clear h1 h6 hl hv ht0 hi
  generalize bA (tx dcL (.cmp cc col vl)) = q at *
  generalize bA (mk cc) = u1 at *
  generalize bA (vx dcL vl) = u2 at *
  generalize bA col = u0 at *
  generalize vk vl = xk at *
  generalize vn vl = xn at *
  generalize vtx vl = xt at *
  generalize (cc : Int) = ci at *
  have n7 : (ci == 7) = false := by simp; omega
  have n8 : (ci == 8) = false := by simp; omega
  have n9 : (ci == 9) = false := by simp; omega
  have n10 : (ci == 10) = false := by simp; omega
  have n11 : (ci == 11) = false := by simp; omega
  go_enter Tryz.func17, Tryz.ntmps17
  go_wp2_with fail
  replace c0 := cell_regrown c0; replace c1 := cell_regrown c1; replace c2 := cell_regrown c2; replace c3 := cell_regrown c3; replace c4 := cell_regrown c4
  have HA1 : Hid (∀ d os, Calls Tryz.prog 34 #[.int .i64 ci] (grow (redrawn w d) os) fun e w'' => e = .returned (.string u1) ∧ ∃ p : Regrown, w'' = grow (redrawn w p.d) p.os) := fun d os => Calls.regrown_of (IL.out _ (below_regrown w d os))
  have HA2 : Hid (∀ d os, Calls Tryz.prog 35 #[.agg #[.int .i64 xk, .int .i64 xn, .string xt]] (grow (redrawn w d) os) fun e w'' => e = .returned (.string u2) ∧ ∃ p : Regrown, w'' = grow (redrawn w p.d) p.os) := fun d os => Calls.regrown_of (IR.out _ (below_regrown w d os))
  refine wp_region_quiet_below (by kernel_rfl) (by kernel_rfl) ?_
  repeat (go_big_quiet_step (first
    | (go_at_call_of 34 (#[.int .i64 ci] : Array Value); exact HA1.out _ _)
    | (go_at_call_of 35 (#[.agg #[.int .i64 xk, .int .i64 xn, .string xt]] : Array Value); exact HA2.out _ _)))
  refine wpQuiet_nil ?_
  intro _ hw'
  obtain ⟨⟨dq, osq⟩, hw''⟩ := hw'
  subst hw''
  go_wp2
  go_ret
  exact ⟨ret_str HQ.out, below_regrown w dq osq⟩
end Go.Proofs.YtfokdpddcgaafaaGreatDoor
