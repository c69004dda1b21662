/- What value.Holds does with whatever function value that tells of columns; and what guard.Told does with the closures of millpondkeep.StatsSound and millpondkeep.known, said of every call. -/
import Derived.Test.YtmghdphafepifaaDoorL2
import Derived.Test.YtmghdphafepifaaDoorB4
namespace Go.Proofs.YtmghdphafepifaaDoor
open Go.RowKit Go.Proofs
open Go.Sort (grow)

/-- What a function value tells of a column by way of guard.Told, in every later world. -/
def ToldOk (fv : Value) (gk gn : ByteArray → Int) (gt : ByteArray → ByteArray) (w : World) : Prop :=
  ∀ (W : World) (s : ByteArray), Below w.heap.size w W → Calls Tryd.prog 47 #[fv, .string s] W fun e w' => e = .returned (.agg #[.int .i64 (gk s), .int .i64 (gn s), .string (gt s)]) ∧ Below W.heap.size W w'
theorem ToldOk.up {fv : Value} {gk gn : ByteArray → Int} {gt : ByteArray → ByteArray} {w W : World} (h : ToldOk fv gk gn gt w) (hb : Below w.heap.size w W) : ToldOk fv gk gn gt W :=
  fun W' s hb' => h W' s (Below.up hb hb')

set_option maxHeartbeats 4000000 in
theorem holdsG_any (fv : Value) (gk gn : ByteArray → Int) (gt : ByteArray → ByteArray) : ∀ (T : CT) (v : Value) (w : World), InC w T v → ToldOk fv gk gn gt w →
    Calls Tryd.prog 35 #[v, fv] w fun e w' => e = .returned (.int .i64 (evT gk gn gt T)) ∧ Below w.heap.size w w'
  | .nil, v, w, h, _ => by
    obtain rfl : v = .pointer none := h
    have HQ : Hid (1 = evT gk gn gt .nil) := rfl
    go_enter Tryd.func35, Tryd.ntmps35
    go_wp2
    go_ret
    exact ⟨ret_int HQ.out, Below.refl _ _⟩
  | .node a0 o0 ⟨c, col, k, n, t⟩ l r, v, w, h, hg => by
    obtain ⟨b, pl, pr, rfl, hh, _, hl, hr⟩ := h
    have c0 : w.cell? ⟨b, 0, none⟩ = some (.int .i64 c) := cell_of_heap hh 0
    have c1 : w.cell? ⟨b, 1, none⟩ = some (.string col) := cell_of_heap hh 1
    have c2 : w.cell? ⟨b, 2, none⟩ = some (.int .i64 k) := cell_of_heap hh 2
    have c3 : w.cell? ⟨b, 3, none⟩ = some (.int .i64 n) := cell_of_heap hh 3
    have c4 : w.cell? ⟨b, 4, none⟩ = some (.string t) := cell_of_heap hh 4
    have c5 : w.cell? ⟨b, 5, none⟩ = some pl := cell_of_heap hh 5
    have c6 : w.cell? ⟨b, 6, none⟩ = some pr := cell_of_heap hh 6
    clear hh
    have IT : Hid (∀ W, Below w.heap.size w W → Calls Tryd.prog 47 #[fv, .string col] W fun e w' => e = .returned (.agg #[.int .i64 (gk col), .int .i64 (gn col), .string (gt col)]) ∧ Below W.heap.size W w') := fun W hb => hg W col hb
    have IL : Hid (∀ W, Below w.heap.size w W → Calls Tryd.prog 35 #[pl, fv] W fun e w' => e = .returned (.int .i64 (evT gk gn gt l)) ∧ Below W.heap.size W w') := fun W hb => holdsG_any fv gk gn gt l pl W (hl.up hb) (hg.up hb)
    have IR : Hid (∀ W, Below w.heap.size w W → Calls Tryd.prog 35 #[pr, fv] W fun e w' => e = .returned (.int .i64 (evT gk gn gt r)) ∧ Below W.heap.size W w') := fun W hb => holdsG_any fv gk gn gt r pr W (hr.up hb) (hg.up hb)
    have rl := evT_range gk gn gt l
    have rr := evT_range gk gn gt r
    clear hl hr hg
    by_cases h7 : c = 7
    · have HQ : Hid (b2i (gk col == 0) = evT gk gn gt (.node a0 o0 ⟨c, col, k, n, t⟩ l r)) := e7 h7
      subst h7
      clear IL IR
      generalize evT gk gn gt (.node a0 o0 ⟨7, col, k, n, t⟩ l r) = ee at *
      generalize gk col = kk, gn col = nn, gt col = tt at *
      clear rl rr
      have hfl := fld kk nn tt
      go_enter Tryd.func35, Tryd.ntmps35
      go_wp2_with fail
      refine (IT.out _ (Below.refl _ _)).mono ?_
      rintro e w1 ⟨rfl, hb1⟩
      go_wp2_with (go_at_call 32; refine (number_any _ _).mono ?_; rintro e w2 ⟨rfl, rfl⟩)
      go_ret
      exact ⟨ret_int HQ.out, hb1⟩
    by_cases h8 : c = 8
    · have HQ : Hid (b2i (gk col != 0) = evT gk gn gt (.node a0 o0 ⟨c, col, k, n, t⟩ l r)) := e8 h8
      subst h8
      clear IL IR h7
      generalize evT gk gn gt (.node a0 o0 ⟨8, col, k, n, t⟩ l r) = ee at *
      generalize gk col = kk, gn col = nn, gt col = tt at *
      clear rl rr
      have hfl := fld kk nn tt
      go_enter Tryd.func35, Tryd.ntmps35
      go_wp2_with fail
      refine (IT.out _ (Below.refl _ _)).mono ?_
      rintro e w1 ⟨rfl, hb1⟩
      go_wp2_with (go_at_call 32; refine (number_any _ _).mono ?_; rintro e w2 ⟨rfl, rfl⟩)
      go_ret
      exact ⟨ret_int HQ.out, hb1⟩
    by_cases h11 : c = 11
    · have HQ : Hid (notI (evT gk gn gt l) = evT gk gn gt (.node a0 o0 ⟨c, col, k, n, t⟩ l r)) := e11 h11
      subst h11
      clear IT IR h7 h8 rr
      generalize evT gk gn gt (.node a0 o0 ⟨11, col, k, n, t⟩ l r) = ee at *
      generalize evT gk gn gt l = el at *
      go_enter Tryd.func35, Tryd.ntmps35
      go_wp2_with fail
      refine (IL.out _ (Below.refl _ _)).mono ?_
      rintro e w1 ⟨rfl, hb1⟩
      go_wp2_with (go_at_call 48; refine (not_any _ rl.1 rl.2 _).mono ?_; rintro e w2 ⟨rfl, rfl⟩)
      go_ret
      exact ⟨ret_int HQ.out, hb1⟩
    by_cases h9 : c = 9
    · have HQ : Hid (andI (evT gk gn gt l) (evT gk gn gt r) = evT gk gn gt (.node a0 o0 ⟨c, col, k, n, t⟩ l r)) := e9 h9
      subst h9
      clear IT h7 h8 h11 rl rr
      generalize evT gk gn gt (.node a0 o0 ⟨9, col, k, n, t⟩ l r) = ee at *
      generalize evT gk gn gt l = el, evT gk gn gt r = er at *
      go_enter Tryd.func35, Tryd.ntmps35
      go_wp2_with fail
      replace c0 := cell_regrown c0; replace c5 := cell_regrown c5; replace c6 := cell_regrown c6
      clear c1 c2 c3 c4
      have HA1 : Hid (∀ d os, Calls Tryd.prog 35 #[pl, fv] (grow (redrawn w d) os) fun e w'' => e = .returned (.int .i64 el) ∧ ∃ p : Regrown, w'' = grow (redrawn w p.d) p.os) := fun d os => Calls.regrown_of (IL.out _ (below_regrown w d os))
      have HA2 : Hid (∀ d os, Calls Tryd.prog 35 #[pr, fv] (grow (redrawn w d) os) fun e w'' => e = .returned (.int .i64 er) ∧ ∃ p : Regrown, w'' = grow (redrawn w p.d) p.os) := fun d os => Calls.regrown_of (IR.out _ (below_regrown w d os))
      have HA3 : Hid (∀ d os, Calls Tryd.prog 49 #[.int .i64 el, .int .i64 er] (grow (redrawn w d) os) fun e w'' => e = .returned (.int .i64 (andI el er)) ∧ ∃ p : Regrown, w'' = grow (redrawn w p.d) p.os) := fun d os => (and_any el er _).mono fun _ _ ⟨he, hw⟩ => ⟨he, ⟨⟨d, os⟩, hw⟩⟩
      refine wp_region_quiet_below (by kernel_rfl) (by kernel_rfl) ?_
      repeat (go_big_quiet_step (first
        | (go_at_call_of 35 (#[pl, fv] : Array Value); exact HA1.out _ _)
        | (go_at_call_of 35 (#[pr, fv] : Array Value); exact HA2.out _ _)
        | (go_at_call_of 49 (#[.int .i64 el, .int .i64 er] : Array Value); exact HA3.out _ _)))
      refine wpQuiet_nil ?_
      intro _ hw'
      obtain ⟨⟨dq, osq⟩, hw''⟩ := hw'
      subst hw''
      go_wp2
      go_ret
      exact ⟨ret_int HQ.out, below_regrown w dq osq⟩
    by_cases h10 : c = 10
    · have HQ : Hid (orJ (evT gk gn gt l) (evT gk gn gt r) = evT gk gn gt (.node a0 o0 ⟨c, col, k, n, t⟩ l r)) := e10 h10
      subst h10
      clear IT h7 h8 h11 h9 rl rr
      generalize evT gk gn gt (.node a0 o0 ⟨10, col, k, n, t⟩ l r) = ee at *
      generalize evT gk gn gt l = el, evT gk gn gt r = er at *
      go_enter Tryd.func35, Tryd.ntmps35
      go_wp2_with fail
      replace c0 := cell_regrown c0; replace c5 := cell_regrown c5; replace c6 := cell_regrown c6
      clear c1 c2 c3 c4
      have HA1 : Hid (∀ d os, Calls Tryd.prog 35 #[pl, fv] (grow (redrawn w d) os) fun e w'' => e = .returned (.int .i64 el) ∧ ∃ p : Regrown, w'' = grow (redrawn w p.d) p.os) := fun d os => Calls.regrown_of (IL.out _ (below_regrown w d os))
      have HA2 : Hid (∀ d os, Calls Tryd.prog 35 #[pr, fv] (grow (redrawn w d) os) fun e w'' => e = .returned (.int .i64 er) ∧ ∃ p : Regrown, w'' = grow (redrawn w p.d) p.os) := fun d os => Calls.regrown_of (IR.out _ (below_regrown w d os))
      have HA3 : Hid (∀ d os, Calls Tryd.prog 50 #[.int .i64 el, .int .i64 er] (grow (redrawn w d) os) fun e w'' => e = .returned (.int .i64 (orJ el er)) ∧ ∃ p : Regrown, w'' = grow (redrawn w p.d) p.os) := fun d os => (or_any2 el er _).mono fun _ _ ⟨he, hw⟩ => ⟨he, ⟨⟨d, os⟩, hw⟩⟩
      refine wp_region_quiet_below (by kernel_rfl) (by kernel_rfl) ?_
      repeat (go_big_quiet_step (first
        | (go_at_call_of 35 (#[pl, fv] : Array Value); exact HA1.out _ _)
        | (go_at_call_of 35 (#[pr, fv] : Array Value); exact HA2.out _ _)
        | (go_at_call_of 50 (#[.int .i64 el, .int .i64 er] : Array Value); exact HA3.out _ _)))
      refine wpQuiet_nil ?_
      intro _ hw'
      obtain ⟨⟨dq, osq⟩, hw''⟩ := hw'
      subst hw''
      go_wp2
      go_ret
      exact ⟨ret_int HQ.out, below_regrown w dq osq⟩
    · have HQ : Hid (isV c (gk col) (gn col) (gt col) k n t = evT gk gn gt (.node a0 o0 ⟨c, col, k, n, t⟩ l r)) := e0 ⟨h7, h8, h11, h9, h10⟩
      have b7 : (c == 7) = false := by simpa using h7
      have b8 : (c == 8) = false := by simpa using h8
      have b11 : (c == 11) = false := by simpa using h11
      have b9 : (c == 9) = false := by simpa using h9
      have b10 : (c == 10) = false := by simpa using h10
      clear IL IR h7 h8 h11 h9 h10 rl rr
      generalize evT gk gn gt (.node a0 o0 ⟨c, col, k, n, t⟩ l r) = ee at *
      generalize gk col = kk, gn col = nn, gt col = tt at *
      go_enter Tryd.func35, Tryd.ntmps35
      go_wp2_with fail
      replace c0 := cell_regrown c0; replace c1 := cell_regrown c1; replace c2 := cell_regrown c2; replace c3 := cell_regrown c3; replace c4 := cell_regrown c4
      clear c5 c6
      have HA1 : Hid (∀ d os, Calls Tryd.prog 47 #[fv, .string col] (grow (redrawn w d) os) fun e w'' => e = .returned (.agg #[.int .i64 kk, .int .i64 nn, .string tt]) ∧ ∃ p : Regrown, w'' = grow (redrawn w p.d) p.os) := fun d os => Calls.regrown_of (IT.out _ (below_regrown w d os))
      have HA2 : Hid (∀ d os, Calls Tryd.prog 11 #[.int .i64 c, .agg #[.int .i64 kk, .int .i64 nn, .string tt], .agg #[.int .i64 k, .int .i64 n, .string t]] (grow (redrawn w d) os) fun e w'' => e = .returned (.int .i64 (isV c kk nn tt k n t)) ∧ ∃ p : Regrown, w'' = grow (redrawn w p.d) p.os) := fun d os => Calls.regrown_of (is_any c kk nn k n tt t _)
      refine wp_region_quiet_below (by kernel_rfl) (by kernel_rfl) ?_
      repeat (go_big_quiet_step (first
        | (go_at_call_of 47 (#[fv, .string col] : Array Value); exact HA1.out _ _)
        | (go_at_call_of 11 (#[.int .i64 c, .agg #[.int .i64 kk, .int .i64 nn, .string tt], .agg #[.int .i64 k, .int .i64 n, .string t]] : Array Value); exact HA2.out _ _)))
      refine wpQuiet_nil ?_
      intro _ hw'
      obtain ⟨⟨dq, osq⟩, hw''⟩ := hw'
      subst hw''
      go_wp2
      go_ret
      exact ⟨ret_int HQ.out, below_regrown w dq osq⟩

set_option maxHeartbeats 1000000 in
theorem HoldsG_any (fv : Value) (gk gn : ByteArray → Int) (gt : ByteArray → ByteArray) (T : CT) (v : Value) (w : World) (h : InC w T v) (hg : ToldOk fv gk gn gt w) (hd : withinT T 24 = true) :
    Calls Tryd.prog 15 #[v, fv] w fun e w' => e = .returned (.int .i64 (evT gk gn gt T)) ∧ Below w.heap.size w w' := by
  have H1 : Hid (Calls Tryd.prog 34 #[v] w fun e w' => e = .returned (.bool true) ∧ w' = w) := by
    have := ends_any T v w h
    rw [hd] at this
    exact this
  have H2 := mkHid (holdsG_any fv gk gn gt T v w h hg)
  generalize evT gk gn gt T = ee at *
  clear h hg hd
  go_enter Tryd.func15, Tryd.ntmps15
  go_wp2_with fail
  refine H1.out.mono ?_; rintro e w1 ⟨rfl, rfl⟩
  go_wp2_with fail
  refine H2.out.mono ?_; rintro e w2 ⟨rfl, hb2⟩
  go_wp2
  go_ret
  exact ⟨rfl, hb2⟩

set_option maxHeartbeats 1000000 in
theorem told22_any (pa pi pb : Value) (gk gn : ByteArray → Int) (gt : ByteArray → ByteArray) (s : ByteArray) (w : World) (hg : ∀ (W : World) (s : ByteArray), Below w.heap.size w W → Calls Tryd.prog 22 #[.string s, pa, pi, pb] W fun e w' => e = .returned (.agg #[.int .i64 (gk s), .int .i64 (gn s), .string (gt s)]) ∧ Below W.heap.size W w') :
    Calls Tryd.prog 47 #[.func (.func 22) #[] #[pa, pi, pb], .string s] w fun e w' => e = .returned (.agg #[.int .i64 (gk s), .int .i64 (gn s), .string (gt s)]) ∧ Below w.heap.size w w' := by
  have HC : Hid (∀ W, Below w.heap.size w W → Calls Tryd.prog 22 #[.string s, pa, pi, pb] W fun e w' => e = .returned (.agg #[.int .i64 (gk s), .int .i64 (gn s), .string (gt s)]) ∧ Below W.heap.size W w') := fun W hb => hg W s hb
  clear hg
  have hmf : ∀ (fn : Fn) (first cap : Array Value) (w : World), (Instr.makeFunc fn first cap).run Tryd.prog w = .ok (.func fn first cap) w := fun _ _ _ _ => rfl
  generalize gk s = k, gn s = n, gt s = t at *
  go_enter_defers Tryd.func47, Tryd.ntmps47
  go_wp2_with fail
  refine (HC.out _ ((Below.refl _ _).alloc (Nat.le_refl _) _)).mono ?_
  rintro e w1 ⟨rfl, hb1⟩
  have c0 : w1.cell? ⟨w.heap.size, 0, none⟩ = some (.int .i64 0) := (hb1.cell (p := ⟨w.heap.size, 0, none⟩) (by simp)).trans (by go_simp)
  have c1 : w1.cell? ⟨w.heap.size, 1, none⟩ = some (.int .i64 0) := (hb1.cell (p := ⟨w.heap.size, 1, none⟩) (by simp)).trans (by go_simp)
  have c2 : w1.cell? ⟨w.heap.size, 2, none⟩ = some (.string ⟨#[]⟩) := (hb1.cell (p := ⟨w.heap.size, 2, none⟩) (by simp)).trans (by go_simp)
  have f0 : w1.frozen? ⟨w.heap.size, 0, none⟩ = false := (hb1.frozen (p := ⟨w.heap.size, 0, none⟩) (by simp)).trans (by go_simp)
  have f1 : w1.frozen? ⟨w.heap.size, 1, none⟩ = false := (hb1.frozen (p := ⟨w.heap.size, 1, none⟩) (by simp)).trans (by go_simp)
  have f2 : w1.frozen? ⟨w.heap.size, 2, none⟩ = false := (hb1.frozen (p := ⟨w.heap.size, 2, none⟩) (by simp)).trans (by go_simp)
  have B1 : Hid (Below w.heap.size w w1) := ((Below.refl _ w).alloc (Nat.le_refl _) _).trans (hb1.mono (by simp))
  clear hb1
  go_wp2
  refine leaves_cons (f := 60) (args := #[.pointer (some ⟨w.heap.size, 0, none⟩)]) (by simp) (by simp [go_sem]) ?_
  refine (idle_any ⟨w.heap.size, 0, none⟩ _).mono ?_
  rintro e u' w'' ⟨rfl, rfl, rfl⟩
  simp [Leaves, settle, results, Tryd.results47, go_sem, c0, c1, c2]
  exact ((B1.out.setCell (Nat.le_refl _) _).setCell (Nat.le_refl _) _).setCell (Nat.le_refl _) _

theorem idleS_any (p : Addr) (w : World) :
    CallsD Tryd.prog 63 #[.pointer (some p)] .returning w fun e u' w' => e = .returned (.tuple #[]) ∧ u' = .returning ∧ w' = w := by
  refine callsD_of_wpS Tryd.func63 rfl fun c₀ cs hu => ?_
  apply wpS_seq
  apply wpS_region
  simp [wpOpsS, go_sem, recoverD, hu, Tryd.ntmps63, Exit.thenS]
  refine wpS_cond (t := false) (by simp [Act.eval, Array.replicate]) ?_
  simp only [Bool.false_eq_true, if_false]
  refine wpS_of_wp (wp_skip ?_)
  cases c₀
  simp_all [bodyPostS, results, Tryd.results63]

set_option maxHeartbeats 2000000 in
theorem toldS21_any (pa pb : Value) (gs : ByteArray → St) (s : ByteArray) (w : World) (hg : ∀ (W : World) (s : ByteArray), Below w.heap.size w W → Calls Tryd.prog 21 #[.string s, pa, pb] W fun e w' => e = .returned (.agg (cellsS (gs s))) ∧ Below W.heap.size W w') :
    Calls Tryd.prog 53 #[.func (.func 21) #[] #[pa, pb], .string s] w fun e w' => e = .returned (.agg (cellsS (gs s))) ∧ Below w.heap.size w w' := by
  have HC := mkHid (fun W hb => hg W s hb)
  clear hg
  have hmf : ∀ (fn : Fn) (first cap : Array Value) (w : World), (Instr.makeFunc fn first cap).run Tryd.prog w = .ok (.func fn first cap) w := fun _ _ _ _ => rfl
  generalize gs s = st at *
  obtain ⟨sc, sm, ⟨sk, sn, stx⟩, ⟨sk', sn', stx'⟩⟩ := st
  unfold cellsS at HC ⊢
  simp only at HC ⊢
  go_enter_defers Tryd.func53, Tryd.ntmps53
  go_wp2_with fail
  refine (HC.out _ ((Below.refl _ _).alloc (Nat.le_refl _) _)).mono ?_
  rintro e w1 ⟨rfl, hb1⟩
  have K1 : KAt w1 w.heap.size zeroS := KAt.up (heap_alloc_new _ _) hb1
  obtain ⟨c0, c1, c2, c3, c4, c5, c6, c7⟩ := KAt.cells (c := 0) (m := 0) (k := 0) (n := 0) (t := ⟨#[]⟩) (k' := 0) (n' := 0) (t' := ⟨#[]⟩) K1
  obtain ⟨f0, f1, f2, f3, f4, f5, f6, f7⟩ := K1.free
  have B1 : Hid (Below w.heap.size w w1) := ((Below.refl _ w).alloc (Nat.le_refl _) _).trans (hb1.mono (by simp))
  clear hb1 K1
  go_wp2
  refine leaves_cons (f := 63) (args := #[.pointer (some ⟨w.heap.size, 0, none⟩)]) (by simp) (by simp [go_sem]) ?_
  refine (idleS_any ⟨w.heap.size, 0, none⟩ _).mono ?_
  rintro e u' w'' ⟨rfl, rfl, rfl⟩
  simp [Leaves, settle, results, Tryd.results53, go_sem, c0, c1, c2, c3, c4, c5, c6, c7]
  exact b8c B1.out (Nat.le_refl _) _ _ _ _ _ _ _ _

set_option maxHeartbeats 2000000 in
theorem toldS36_any (pa : Value) (gs : ByteArray → St) (s : ByteArray) (w : World) (hg : ∀ (W : World) (s : ByteArray), Below w.heap.size w W → Calls Tryd.prog 36 #[.string s, pa] W fun e w' => e = .returned (.agg (cellsS (gs s))) ∧ Below W.heap.size W w') :
    Calls Tryd.prog 53 #[.func (.func 36) #[] #[pa], .string s] w fun e w' => e = .returned (.agg (cellsS (gs s))) ∧ Below w.heap.size w w' := by
  have HC := mkHid (fun W hb => hg W s hb)
  clear hg
  have hmf : ∀ (fn : Fn) (first cap : Array Value) (w : World), (Instr.makeFunc fn first cap).run Tryd.prog w = .ok (.func fn first cap) w := fun _ _ _ _ => rfl
  generalize gs s = st at *
  obtain ⟨sc, sm, ⟨sk, sn, stx⟩, ⟨sk', sn', stx'⟩⟩ := st
  unfold cellsS at HC ⊢
  simp only at HC ⊢
  go_enter_defers Tryd.func53, Tryd.ntmps53
  go_wp2_with fail
  refine (HC.out _ ((Below.refl _ _).alloc (Nat.le_refl _) _)).mono ?_
  rintro e w1 ⟨rfl, hb1⟩
  have K1 : KAt w1 w.heap.size zeroS := KAt.up (heap_alloc_new _ _) hb1
  obtain ⟨c0, c1, c2, c3, c4, c5, c6, c7⟩ := KAt.cells (c := 0) (m := 0) (k := 0) (n := 0) (t := ⟨#[]⟩) (k' := 0) (n' := 0) (t' := ⟨#[]⟩) K1
  obtain ⟨f0, f1, f2, f3, f4, f5, f6, f7⟩ := K1.free
  have B1 : Hid (Below w.heap.size w w1) := ((Below.refl _ w).alloc (Nat.le_refl _) _).trans (hb1.mono (by simp))
  clear hb1 K1
  go_wp2
  refine leaves_cons (f := 63) (args := #[.pointer (some ⟨w.heap.size, 0, none⟩)]) (by simp) (by simp [go_sem]) ?_
  refine (idleS_any ⟨w.heap.size, 0, none⟩ _).mono ?_
  rintro e u' w'' ⟨rfl, rfl, rfl⟩
  simp [Leaves, settle, results, Tryd.results53, go_sem, c0, c1, c2, c3, c4, c5, c6, c7]
  exact b8c B1.out (Nat.le_refl _) _ _ _ _ _ _ _ _

end Go.Proofs.YtmghdphafepifaaDoor
