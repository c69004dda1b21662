/- What value.Holds does with whatever function value that tells of columns; and what guard.Told does with the closures of millpondkeep.StatsSound and millpondkeep.known, said of every call. -/
import Derived.Test.YtfokdpddcgaafaaGreatDoorSP
namespace Go.Proofs.YtfokdpddcgaafaaGreatDoor.S
open Go.RowKit Go.Proofs
open Go.Sort (grow)

/-- What a function value tells of a column by way of guard.Told, in every later world. -/
def ToldOk (P : ByteArray → Prop) (fv : Value) (gk gn : ByteArray → Int) (gt : ByteArray → ByteArray) (w : World) : Prop :=
  ∀ (W : World) (s : ByteArray), P s → Below w.heap.size w W → Calls Tryz.prog 37 #[fv, .string s] W fun e w' => e = .returned (.agg #[.int .i64 (gk s), .int .i64 (gn s), .string (gt s)]) ∧ Below W.heap.size W w'
theorem ToldOk.up {P : ByteArray → Prop} {fv : Value} {gk gn : ByteArray → Int} {gt : ByteArray → ByteArray} {w W : World} (h : ToldOk P fv gk gn gt w) (hb : Below w.heap.size w W) : ToldOk P fv gk gn gt W :=
  fun W' s hp hb' => h W' s hp (Below.up hb hb')
/-- The columns that a condition asks of are such ones. -/
def Asks (P : ByteArray → Prop) : CT → Prop
  | .nil => True
  | .node _ _ ⟨c, col, _, _, _⟩ l r => if c = 11 then Asks P l else if c = 9 ∨ c = 10 then Asks P l ∧ Asks P r else P col
theorem Asks.col {P : ByteArray → Prop} {a0 o0 : Nat} {c : Int} {col : ByteArray} {k n : Int} {t : ByteArray} {l r : CT} (h : Asks P (.node a0 o0 ⟨c, col, k, n, t⟩ l r)) (hc : ¬ (c = 9 ∨ c = 10 ∨ c = 11)) : P col := by
  simp only [Asks] at h
  rwa [if_neg (by omega), if_neg (by omega)] at h
theorem Asks.left {P : ByteArray → Prop} {a0 o0 : Nat} {c : Int} {col : ByteArray} {k n : Int} {t : ByteArray} {l r : CT} (h : Asks P (.node a0 o0 ⟨c, col, k, n, t⟩ l r)) (hc : c = 9 ∨ c = 10 ∨ c = 11) : Asks P l := by
  simp only [Asks] at h
  by_cases h11 : c = 11
  · rwa [if_pos h11] at h
  · rw [if_neg h11, if_pos (by omega)] at h; exact h.1
theorem Asks.right {P : ByteArray → Prop} {a0 o0 : Nat} {c : Int} {col : ByteArray} {k n : Int} {t : ByteArray} {l r : CT} (h : Asks P (.node a0 o0 ⟨c, col, k, n, t⟩ l r)) (hc : c = 9 ∨ c = 10) : Asks P r := by
  simp only [Asks] at h
  rw [if_neg (by omega), if_pos hc] at h; exact h.2

set_option maxHeartbeats 4000000 in
theorem holdsG_any (P : ByteArray → Prop) (fv : Value) (gk gn : ByteArray → Int) (gt : ByteArray → ByteArray) : ∀ (T : CT) (v : Value) (w : World), InC w T v → Asks P T → ToldOk P fv gk gn gt w →
    Calls Tryz.prog 18 #[v, fv] w fun e w' => e = .returned (.int .i64 (evT gk gn gt T)) ∧ Below w.heap.size w w'
  | .nil, v, w, h, _, _ => by
    obtain rfl : v = .pointer none := h
    have HQ : Hid (1 = evT gk gn gt .nil) := rfl
    go_enter Tryz.func18, Tryz.ntmps18
    go_wp2
    go_ret
    exact ⟨ret_int HQ.out, Below.refl _ _⟩
  | .node a0 o0 ⟨c, col, k, n, t⟩ l r, v, w, h, ha, hg => by
    obtain ⟨b, pl, pr, rfl, hh, _, hl, hr⟩ := h
    have c0 : w.cell? ⟨b, 0, none⟩ = some (.int .i64 c) := cell_of_heap hh 0
    have c1 : w.cell? ⟨b, 1, none⟩ = some (.string col) := cell_of_heap hh 1
    have c2 : w.cell? ⟨b, 2, none⟩ = some (.int .i64 k) := cell_of_heap hh 2
    have c3 : w.cell? ⟨b, 3, none⟩ = some (.int .i64 n) := cell_of_heap hh 3
    have c4 : w.cell? ⟨b, 4, none⟩ = some (.string t) := cell_of_heap hh 4
    have c5 : w.cell? ⟨b, 5, none⟩ = some pl := cell_of_heap hh 5
    have c6 : w.cell? ⟨b, 6, none⟩ = some pr := cell_of_heap hh 6
    clear hh
    have IT : Hid (¬ (c = 9 ∨ c = 10 ∨ c = 11) → ∀ W, Below w.heap.size w W → Calls Tryz.prog 37 #[fv, .string col] W fun e w' => e = .returned (.agg #[.int .i64 (gk col), .int .i64 (gn col), .string (gt col)]) ∧ Below W.heap.size W w') := fun hc W hb => hg W col (ha.col hc) hb
    have IL : Hid ((c = 9 ∨ c = 10 ∨ c = 11) → ∀ W, Below w.heap.size w W → Calls Tryz.prog 18 #[pl, fv] W fun e w' => e = .returned (.int .i64 (evT gk gn gt l)) ∧ Below W.heap.size W w') := fun hc W hb => holdsG_any P fv gk gn gt l pl W (hl.up hb) (ha.left hc) (hg.up hb)
    have IR : Hid ((c = 9 ∨ c = 10) → ∀ W, Below w.heap.size w W → Calls Tryz.prog 18 #[pr, fv] W fun e w' => e = .returned (.int .i64 (evT gk gn gt r)) ∧ Below W.heap.size W w') := fun hc W hb => holdsG_any P fv gk gn gt r pr W (hr.up hb) (ha.right hc) (hg.up hb)
    have rl := evT_range gk gn gt l
    have rr := evT_range gk gn gt r
    clear hl hr hg ha
    by_cases h7 : c = 7
    · have HQ : Hid (b2i (gk col == 0) = evT gk gn gt (.node a0 o0 ⟨c, col, k, n, t⟩ l r)) := e7 h7
      replace IT := mkHid (IT.out (by omega))
      subst h7
      clear IL IR
      generalize evT gk gn gt (.node a0 o0 ⟨7, col, k, n, t⟩ l r) = ee at *
      generalize gk col = kk, gn col = nn, gt col = tt at *
      clear rl rr
      have hfl := fld kk nn tt
      go_enter Tryz.func18, Tryz.ntmps18
      go_wp2_with fail
      refine (IT.out _ (Below.refl _ _)).mono ?_
      rintro e w1 ⟨rfl, hb1⟩
      go_wp2_with (go_at_call 36; refine (number_any _ _).mono ?_; rintro e w2 ⟨rfl, rfl⟩)
      go_ret
      exact ⟨ret_int HQ.out, hb1⟩
    by_cases h8 : c = 8
    · have HQ : Hid (b2i (gk col != 0) = evT gk gn gt (.node a0 o0 ⟨c, col, k, n, t⟩ l r)) := e8 h8
      replace IT := mkHid (IT.out (by omega))
      subst h8
      clear IL IR h7
      generalize evT gk gn gt (.node a0 o0 ⟨8, col, k, n, t⟩ l r) = ee at *
      generalize gk col = kk, gn col = nn, gt col = tt at *
      clear rl rr
      have hfl := fld kk nn tt
      go_enter Tryz.func18, Tryz.ntmps18
      go_wp2_with fail
      refine (IT.out _ (Below.refl _ _)).mono ?_
      rintro e w1 ⟨rfl, hb1⟩
      go_wp2_with (go_at_call 36; refine (number_any _ _).mono ?_; rintro e w2 ⟨rfl, rfl⟩)
      go_ret
      exact ⟨ret_int HQ.out, hb1⟩
    by_cases h11 : c = 11
    · have HQ : Hid (notI (evT gk gn gt l) = evT gk gn gt (.node a0 o0 ⟨c, col, k, n, t⟩ l r)) := e11 h11
      replace IL := mkHid (IL.out (by omega))
      subst h11
      clear IT IR h7 h8 rr
      generalize evT gk gn gt (.node a0 o0 ⟨11, col, k, n, t⟩ l r) = ee at *
      generalize evT gk gn gt l = el at *
      go_enter Tryz.func18, Tryz.ntmps18
      go_wp2_with fail
      refine (IL.out _ (Below.refl _ _)).mono ?_
      rintro e w1 ⟨rfl, hb1⟩
      go_wp2_with (go_at_call 38; refine (not_any _ rl.1 rl.2 _).mono ?_; rintro e w2 ⟨rfl, rfl⟩)
      go_ret
      exact ⟨ret_int HQ.out, hb1⟩
    by_cases h9 : c = 9
    · have HQ : Hid (andI (evT gk gn gt l) (evT gk gn gt r) = evT gk gn gt (.node a0 o0 ⟨c, col, k, n, t⟩ l r)) := e9 h9
      replace IL := mkHid (IL.out (by omega))
      replace IR := mkHid (IR.out (by omega))
      subst h9
      clear IT h7 h8 h11 rl rr
      generalize evT gk gn gt (.node a0 o0 ⟨9, col, k, n, t⟩ l r) = ee at *
      generalize evT gk gn gt l = el, evT gk gn gt r = er at *
      go_enter Tryz.func18, Tryz.ntmps18
      go_wp2_with fail
      replace c0 := cell_regrown c0; replace c5 := cell_regrown c5; replace c6 := cell_regrown c6
      clear c1 c2 c3 c4
      have HA1 : Hid (∀ d os, Calls Tryz.prog 18 #[pl, fv] (grow (redrawn w d) os) fun e w'' => e = .returned (.int .i64 el) ∧ ∃ p : Regrown, w'' = grow (redrawn w p.d) p.os) := fun d os => Calls.regrown_of (IL.out _ (below_regrown w d os))
      have HA2 : Hid (∀ d os, Calls Tryz.prog 18 #[pr, fv] (grow (redrawn w d) os) fun e w'' => e = .returned (.int .i64 er) ∧ ∃ p : Regrown, w'' = grow (redrawn w p.d) p.os) := fun d os => Calls.regrown_of (IR.out _ (below_regrown w d os))
      have HA3 : Hid (∀ d os, Calls Tryz.prog 39 #[.int .i64 el, .int .i64 er] (grow (redrawn w d) os) fun e w'' => e = .returned (.int .i64 (andI el er)) ∧ ∃ p : Regrown, w'' = grow (redrawn w p.d) p.os) := fun d os => (and_any el er _).mono fun _ _ ⟨he, hw⟩ => ⟨he, ⟨⟨d, os⟩, hw⟩⟩
      refine wp_region_quiet_below (by kernel_rfl) (by kernel_rfl) ?_
      repeat (go_big_quiet_step (first
        | (go_at_call_of 18 (#[pl, fv] : Array Value); exact HA1.out _ _)
        | (go_at_call_of 18 (#[pr, fv] : Array Value); exact HA2.out _ _)
        | (go_at_call_of 39 (#[.int .i64 el, .int .i64 er] : Array Value); exact HA3.out _ _)))
      refine wpQuiet_nil ?_
      intro _ hw'
      obtain ⟨⟨dq, osq⟩, hw''⟩ := hw'
      subst hw''
      go_wp2
      go_ret
      exact ⟨ret_int HQ.out, below_regrown w dq osq⟩
    by_cases h10 : c = 10
    · have HQ : Hid (orJ (evT gk gn gt l) (evT gk gn gt r) = evT gk gn gt (.node a0 o0 ⟨c, col, k, n, t⟩ l r)) := e10 h10
      replace IL := mkHid (IL.out (by omega))
      replace IR := mkHid (IR.out (by omega))
      subst h10
      clear IT h7 h8 h11 h9 rl rr
      generalize evT gk gn gt (.node a0 o0 ⟨10, col, k, n, t⟩ l r) = ee at *
      generalize evT gk gn gt l = el, evT gk gn gt r = er at *
      go_enter Tryz.func18, Tryz.ntmps18
      go_wp2_with fail
      replace c0 := cell_regrown c0; replace c5 := cell_regrown c5; replace c6 := cell_regrown c6
      clear c1 c2 c3 c4
      have HA1 : Hid (∀ d os, Calls Tryz.prog 18 #[pl, fv] (grow (redrawn w d) os) fun e w'' => e = .returned (.int .i64 el) ∧ ∃ p : Regrown, w'' = grow (redrawn w p.d) p.os) := fun d os => Calls.regrown_of (IL.out _ (below_regrown w d os))
      have HA2 : Hid (∀ d os, Calls Tryz.prog 18 #[pr, fv] (grow (redrawn w d) os) fun e w'' => e = .returned (.int .i64 er) ∧ ∃ p : Regrown, w'' = grow (redrawn w p.d) p.os) := fun d os => Calls.regrown_of (IR.out _ (below_regrown w d os))
      have HA3 : Hid (∀ d os, Calls Tryz.prog 40 #[.int .i64 el, .int .i64 er] (grow (redrawn w d) os) fun e w'' => e = .returned (.int .i64 (orJ el er)) ∧ ∃ p : Regrown, w'' = grow (redrawn w p.d) p.os) := fun d os => (or_any2 el er _).mono fun _ _ ⟨he, hw⟩ => ⟨he, ⟨⟨d, os⟩, hw⟩⟩
      refine wp_region_quiet_below (by kernel_rfl) (by kernel_rfl) ?_
      repeat (go_big_quiet_step (first
        | (go_at_call_of 18 (#[pl, fv] : Array Value); exact HA1.out _ _)
        | (go_at_call_of 18 (#[pr, fv] : Array Value); exact HA2.out _ _)
        | (go_at_call_of 40 (#[.int .i64 el, .int .i64 er] : Array Value); exact HA3.out _ _)))
      refine wpQuiet_nil ?_
      intro _ hw'
      obtain ⟨⟨dq, osq⟩, hw''⟩ := hw'
      subst hw''
      go_wp2
      go_ret
      exact ⟨ret_int HQ.out, below_regrown w dq osq⟩
    · have HQ : Hid (isV c (gk col) (gn col) (gt col) k n t = evT gk gn gt (.node a0 o0 ⟨c, col, k, n, t⟩ l r)) := e0 ⟨h7, h8, h11, h9, h10⟩
      replace IT := mkHid (IT.out (by omega))
      have b7 : (c == 7) = false := by simpa using h7
      have b8 : (c == 8) = false := by simpa using h8
      have b11 : (c == 11) = false := by simpa using h11
      have b9 : (c == 9) = false := by simpa using h9
      have b10 : (c == 10) = false := by simpa using h10
      clear IL IR h7 h8 h11 h9 h10 rl rr
      generalize evT gk gn gt (.node a0 o0 ⟨c, col, k, n, t⟩ l r) = ee at *
      generalize gk col = kk, gn col = nn, gt col = tt at *
      go_enter Tryz.func18, Tryz.ntmps18
      go_wp2_with fail
      replace c0 := cell_regrown c0; replace c1 := cell_regrown c1; replace c2 := cell_regrown c2; replace c3 := cell_regrown c3; replace c4 := cell_regrown c4
      clear c5 c6
      have HA1 : Hid (∀ d os, Calls Tryz.prog 37 #[fv, .string col] (grow (redrawn w d) os) fun e w'' => e = .returned (.agg #[.int .i64 kk, .int .i64 nn, .string tt]) ∧ ∃ p : Regrown, w'' = grow (redrawn w p.d) p.os) := fun d os => Calls.regrown_of (IT.out _ (below_regrown w d os))
      have HA2 : Hid (∀ d os, Calls Tryz.prog 41 #[.int .i64 c, .agg #[.int .i64 kk, .int .i64 nn, .string tt], .agg #[.int .i64 k, .int .i64 n, .string t]] (grow (redrawn w d) os) fun e w'' => e = .returned (.int .i64 (isV c kk nn tt k n t)) ∧ ∃ p : Regrown, w'' = grow (redrawn w p.d) p.os) := fun d os => Calls.regrown_of (is_any c kk nn k n tt t _)
      refine wp_region_quiet_below (by kernel_rfl) (by kernel_rfl) ?_
      repeat (go_big_quiet_step (first
        | (go_at_call_of 37 (#[fv, .string col] : Array Value); exact HA1.out _ _)
        | (go_at_call_of 41 (#[.int .i64 c, .agg #[.int .i64 kk, .int .i64 nn, .string tt], .agg #[.int .i64 k, .int .i64 n, .string t]] : Array Value); exact HA2.out _ _)))
      refine wpQuiet_nil ?_
      intro _ hw'
      obtain ⟨⟨dq, osq⟩, hw''⟩ := hw'
      subst hw''
      go_wp2
      go_ret
      exact ⟨ret_int HQ.out, below_regrown w dq osq⟩

set_option maxHeartbeats 1000000 in
theorem HoldsG_any (P : ByteArray → Prop) (fv : Value) (gk gn : ByteArray → Int) (gt : ByteArray → ByteArray) (T : CT) (v : Value) (w : World) (h : InC w T v) (ha : Asks P T) (hg : ToldOk P fv gk gn gt w) (hd : withinT T 24 = true) :
    Calls Tryz.prog 9 #[v, fv] w fun e w' => e = .returned (.int .i64 (evT gk gn gt T)) ∧ Below w.heap.size w w' := by
  have H1 : Hid (Calls Tryz.prog 16 #[v] w fun e w' => e = .returned (.bool true) ∧ w' = w) := by
    have := ends_any T v w h
    rw [hd] at this
    exact this
  have H2 := mkHid (holdsG_any P fv gk gn gt T v w h ha hg)
  generalize evT gk gn gt T = ee at *
  clear h hg hd ha
  go_enter Tryz.func9, Tryz.ntmps9
  go_wp2_with fail
  refine H1.out.mono ?_; rintro e w1 ⟨rfl, rfl⟩
  go_wp2_with fail
  refine H2.out.mono ?_; rintro e w2 ⟨rfl, hb2⟩
  go_wp2
  go_ret
  exact ⟨rfl, hb2⟩

set_option maxHeartbeats 1000000 in
theorem toldA_any (pa pb : Value) (gk gn : ByteArray → Int) (gt : ByteArray → ByteArray) (s : ByteArray) (w : World) (hg : ∀ (W : World) (s : ByteArray), Below w.heap.size w W → Calls Tryz.prog 8 #[.string s, pa, pb] W fun e w' => e = .returned (.agg #[.int .i64 (gk s), .int .i64 (gn s), .string (gt s)]) ∧ Below W.heap.size W w') :
    Calls Tryz.prog 37 #[.func (.func 8) #[] #[pa, pb], .string s] w fun e w' => e = .returned (.agg #[.int .i64 (gk s), .int .i64 (gn s), .string (gt s)]) ∧ Below w.heap.size w w' := by
  have HC : Hid (∀ W, Below w.heap.size w W → Calls Tryz.prog 8 #[.string s, pa, pb] W fun e w' => e = .returned (.agg #[.int .i64 (gk s), .int .i64 (gn s), .string (gt s)]) ∧ Below W.heap.size W w') := fun W hb => hg W s hb
  clear hg
  have hmf : ∀ (fn : Fn) (first cap : Array Value) (w : World), (Instr.makeFunc fn first cap).run Tryz.prog w = .ok (.func fn first cap) w := fun _ _ _ _ => rfl
  generalize gk s = k, gn s = n, gt s = t at *
  go_enter_defers Tryz.func37, Tryz.ntmps37
  go_wp2_with fail
  refine (HC.out _ ((Below.refl _ _).alloc (Nat.le_refl _) _)).mono ?_
  rintro e w1 ⟨rfl, hb1⟩
  have c0 : w1.cell? ⟨w.heap.size, 0, none⟩ = some (.int .i64 0) := (hb1.cell (p := ⟨w.heap.size, 0, none⟩) (by simp)).trans (by go_simp)
  have c1 : w1.cell? ⟨w.heap.size, 1, none⟩ = some (.int .i64 0) := (hb1.cell (p := ⟨w.heap.size, 1, none⟩) (by simp)).trans (by go_simp)
  have c2 : w1.cell? ⟨w.heap.size, 2, none⟩ = some (.string ⟨#[]⟩) := (hb1.cell (p := ⟨w.heap.size, 2, none⟩) (by simp)).trans (by go_simp)
  have f0 : w1.frozen? ⟨w.heap.size, 0, none⟩ = false := (hb1.frozen (p := ⟨w.heap.size, 0, none⟩) (by simp)).trans (by go_simp)
  have f1 : w1.frozen? ⟨w.heap.size, 1, none⟩ = false := (hb1.frozen (p := ⟨w.heap.size, 1, none⟩) (by simp)).trans (by go_simp)
  have f2 : w1.frozen? ⟨w.heap.size, 2, none⟩ = false := (hb1.frozen (p := ⟨w.heap.size, 2, none⟩) (by simp)).trans (by go_simp)
  have B1 : Hid (Below w.heap.size w w1) := ((Below.refl _ w).alloc (Nat.le_refl _) _).trans (hb1.mono (by simp))
  clear hb1
  go_wp2
  refine leaves_cons (f := 56) (args := #[.pointer (some ⟨w.heap.size, 0, none⟩)]) (by simp) (by simp [go_sem]) ?_
  refine (idle_any ⟨w.heap.size, 0, none⟩ _).mono ?_
  rintro e u' w'' ⟨rfl, rfl, rfl⟩
  simp [Leaves, settle, results, Tryz.results37, go_sem, c0, c1, c2]
  exact ((B1.out.setCell (Nat.le_refl _) _).setCell (Nat.le_refl _) _).setCell (Nat.le_refl _) _

end Go.Proofs.YtfokdpddcgaafaaGreatDoor.S
