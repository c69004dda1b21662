/- What log.line does, said of every call. -/
import Derived.Test.YtgpdojaehmdlpaaGreatDoorP6
namespace Go.Proofs.YtgpdojaehmdlpaaGreatDoor
open Go.RowKit Go.Proofs Go.Lib Go.Joins
open Go.Sort (grow)

/-- An action whose numbers and texts are not too great to be written. -/
structure LineOk (a : Actn) : Prop where
  path : a.2.1.size ≤ 100
  rows : I64 a.2.2.1
  mask : ∀ x ∈ a.2.2.2.1, I64 x
  few : a.2.2.2.1.length ≤ 100
  cols : ∀ x ∈ a.2.2.2.2.1, ColOk x
  few2 : a.2.2.2.2.1.length ≤ 100
  next : I64 a.2.2.2.2.2
def lineB (a : Actn) : ByteArray :=
  if a.1 = 1 then ⟨#[97, 100, 100, 32]⟩ ++ a.2.1 ++ ⟨#[32]⟩ ++ itoaB a.2.2.1
  else if a.1 = 2 then ⟨#[114, 101, 109, 111, 118, 101, 32]⟩ ++ a.2.1
  else if a.1 = 3 then ⟨#[109, 97, 115, 107, 32]⟩ ++ a.2.1 ++ ⟨#[32]⟩ ++ joinB (a.2.2.2.1.map itoaB) ⟨#[44]⟩
  else ⟨#[115, 99, 104, 101, 109, 97, 32]⟩ ++ itoaB a.2.2.2.2.2 ++ ⟨#[32]⟩ ++ joinB (a.2.2.2.2.1.map columnB) ⟨#[59]⟩
theorem joinI_size {l : List Int} (hn : ∀ x ∈ l, I64 x) (hl : l.length ≤ 100) : (joinB (l.map itoaB) ⟨#[44]⟩).size ≤ 2200 := by
  have := joinB_size (b := 21) (xs := l.map itoaB) (sep := ⟨#[44]⟩) (by intro x hx; obtain ⟨y, hy, rfl⟩ := List.mem_map.1 hx; exact itoaB_size (hn y hy))
  rw [List.length_map] at this
  have e : (⟨#[44]⟩ : ByteArray).size = 1 := rfl
  rw [e] at this
  have h2 : l.length * (21 + 1) ≤ 100 * 22 := Nat.mul_le_mul hl (by omega)
  omega
theorem joinC_size {l : List Col} (hn : ∀ x ∈ l, ColOk x) (hl : l.length ≤ 100) : (joinB (l.map columnB) ⟨#[59]⟩).size ≤ 60100 := by
  have := joinB_size (b := 600) (xs := l.map columnB) (sep := ⟨#[59]⟩) (by intro x hx; obtain ⟨y, hy, rfl⟩ := List.mem_map.1 hx; exact (hn y hy).size)
  rw [List.length_map] at this
  have e : (⟨#[59]⟩ : ByteArray).size = 1 := rfl
  rw [e] at this
  have h2 : l.length * (600 + 1) ≤ 100 * 601 := Nat.mul_le_mul hl (by omega)
  omega
theorem lineB_size {a : Actn} (h : LineOk a) : (lineB a).size ≤ 61000 := by
  have h1 := itoaB_size h.rows
  have h2 := itoaB_size h.next
  have h3 := joinI_size h.mask h.few
  have h4 := joinC_size h.cols h.few2
  have h5 := h.path
  have e1 : (⟨#[97, 100, 100, 32]⟩ : ByteArray).size = 4 := rfl
  have e2 : (⟨#[32]⟩ : ByteArray).size = 1 := rfl
  have e3 : (⟨#[114, 101, 109, 111, 118, 101, 32]⟩ : ByteArray).size = 7 := rfl
  have e4 : (⟨#[109, 97, 115, 107, 32]⟩ : ByteArray).size = 5 := rfl
  have e5 : (⟨#[115, 99, 104, 101, 109, 97, 32]⟩ : ByteArray).size = 7 := rfl
  unfold lineB
  split
  · simp only [bsize_app]; omega
  split
  · simp only [bsize_app]; omega
  split
  · simp only [bsize_app]; omega
  · simp only [bsize_app]; omega

theorem quiet_call {ops : Array Oper} {C : World → Prop} {Q : Act → Prop} {rest : List Oper} {o : Oper} {a : Act} (hgd : o.guard = none) (f : Nat) (xs : Array Operand) (ts : Array TypeId)
    (ho : o.op = .call { callee := .value (.func f), args := xs, argTypes := ts }) (args : Array Value) (ha : xs.map a.eval = args) (eg : ∀ args w, (callFunc f args).run Tryz.prog w = .ok (.enter f args) w)
    (v : Value) (hc : ∀ w, C w → Calls Tryz.prog f args w (fun e w'' => e = .returned v ∧ C w'')) (h : wpQuiet Tryz.prog ops C Q rest (a.put o.dst v)) : wpQuiet Tryz.prog ops C Q (o :: rest) a := by
  refine wpQuiet_step (fun K hK => ?_)
  rw [if_pos (by simp [Region.wanted, hgd])]
  refine ⟨v, fun w hw => ?_, hK _ h⟩
  have hrun : (execOp a.eval o).run Tryz.prog w = .ok (.enter f args) w := by
    simp [execOp, ho, resolve, invoke, ha, eg, Act.eval, Deferred.ofValue]
  unfold Oper.quietAt
  rw [hrun]
  exact ⟨rfl, hc w hw⟩

set_option maxHeartbeats 4000000 in
set_option maxRecDepth 100000 in
theorem line_any (k : Int) (p : ByteArray) (r : Int) (m : List Int) (cl : List Col) (nx : Int) (ma : Option Addr) (mn mc : Nat) (ca : Option Addr) (cn cc : Nat) (w : World) (ha : ActAt w (k, p, r, m, cl, nx) ma mn mc ca cn cc) (ho : LineOk (k, p, r, m, cl, nx)) (ht : TabB w) :
    Calls Tryz.prog 33 #[.agg #[.int .i64 k, .string p, .int .i64 r, .slice ma mn mc, .slice ca cn cc, .int .i64 nx]] w fun e w' => e = .returned (.string (lineB (k, p, r, m, cl, nx))) ∧ Below w.heap.size w w' := by
  have HB0 : Hid (Below w.heap.size w (w.alloc (.cells #[.int .i64 k, .string p, .int .i64 r, .slice ma mn mc, .slice ca cn cc, .int .i64 nx] 75))) := (Below.refl _ _).alloc (Nat.le_refl _) _
  have hp : p.size ≤ 100 := ho.path
  have hir : (itoaB r).size ≤ 21 := itoaB_size ho.rows
  have hin : (itoaB nx).size ≤ 21 := itoaB_size ho.next
  have hjm : (joinB (m.map itoaB) ⟨#[44]⟩).size ≤ 2200 := joinI_size ho.mask ho.few
  have hjc : (joinB (cl.map columnB) ⟨#[59]⟩).size ≤ 60100 := joinC_size ho.cols ho.few2
  have H1 : Hid (∀ W, Below w.heap.size w W → Calls Tryz.prog 48 #[.int .i64 r] W fun e w' => e = .returned (.string (itoaB r)) ∧ Below W.heap.size W w') := fun W hW => itoa_any r W ho.rows (ht.below hW)
  have H2 : Hid (∀ W, Below w.heap.size w W → Calls Tryz.prog 48 #[.int .i64 nx] W fun e w' => e = .returned (.string (itoaB nx)) ∧ Below W.heap.size W w') := fun W hW => itoa_any nx W ho.next (ht.below hW)
  have H3 : Hid (∀ W, Below w.heap.size w W → Calls Tryz.prog 62 #[.slice ma mn mc, .string ⟨#[44]⟩, .func (.func 48) #[] #[]] W fun e w' => e = .returned (.string (joinB (m.map itoaB) ⟨#[44]⟩)) ∧ Below W.heap.size W w') := fun W hW => joinedI_any _ m _ W (ha.mask.below hW) ho.few ho.mask (by decide) (ht.below hW)
  have H4 : Hid (∀ W, Below w.heap.size w W → Calls Tryz.prog 63 #[.slice ca cn cc, .string ⟨#[59]⟩, .func (.func 64) #[] #[]] W fun e w' => e = .returned (.string (joinB (cl.map columnB) ⟨#[59]⟩)) ∧ Below W.heap.size W w') := fun W hW => joinedC_any _ cl _ W (ha.cols.below hW) ho.few2 ho.cols (by decide) (ht.below hW)
  have hwq : (w.alloc (.cells #[.int .i64 k, .string p, .int .i64 r, .slice ma mn mc, .slice ca cn cc, .int .i64 nx] 75)).heap[w.heap.size]? = some (.cells #[.int .i64 k, .string p, .int .i64 r, .slice ma mn mc, .slice ca cn cc, .int .i64 nx] 75 (0, 0)) := heap_alloc_new w _
  have HWQ := mkH hwq
  have HE49 : Hid (∀ args w, (callFunc 62 args).run Tryz.prog w = .ok (.enter 62 args) w) := enters_of Tryz.func62 (by kernel_rfl) rfl
  have HE50 : Hid (∀ args w, (callFunc 63 args).run Tryz.prog w = .ok (.enter 63 args) w) := enters_of Tryz.func63 (by kernel_rfl) rfl
  clear ha ht hwq ho
  by_cases k1 : k = 1
  · subst k1
    have HR : Hid (lineB (1, p, r, m, cl, nx) = ⟨#[97, 100, 100, 32]⟩ ++ p ++ ⟨#[32]⟩ ++ itoaB r) := rfl
    generalize lineB (1, p, r, m, cl, nx) = res at HR ⊢
    generalize itoaB r = s1 at *
    clear H2 H3 H4 hin hjm hjc
    go_enter Tryz.func33, Tryz.ntmps33
    go_wp2_with fail
    generalize w.alloc (.cells #[.int .i64 1, .string p, .int .i64 r, .slice ma mn mc, .slice ca cn cc, .int .i64 nx] 75) = wq at *
    obtain ⟨_, y1, y2, _, _, _, _⟩ := box6 HWQ.out
    replace y1 := cell_regrown y1
    replace y2 := cell_regrown y2
    have HC1 : Hid (∀ d os, Calls Tryz.prog 48 #[.int .i64 r] (grow (redrawn wq d) os) fun e w'' => e = .returned (.string s1) ∧ ∃ p_1 : Regrown, w'' = grow (redrawn wq p_1.d) p_1.os) := fun d os => Calls.regrown_of (H1.out _ (Below.ups HB0.out (below_regrown wq d os)))
    refine wp_region_quiet_below (by kernel_rfl) (by kernel_rfl) ?_
    repeat (go_big_quiet_step (first
      | (go_at_call_of 48 (#[.int .i64 r] : Array Value); exact HC1.out _ _)))
    refine wpQuiet_nil ?_
    intro _ hw'
    obtain ⟨⟨dq, osq⟩, hw''⟩ := hw'
    subst hw''
    go_wp2
    go_ret
    exact ⟨ret_str HR.out.symm, Below.ups HB0.out (below_regrown wq dq osq)⟩
  · by_cases k2 : k = 2
    · subst k2
      have HR : Hid (lineB (2, p, r, m, cl, nx) = ⟨#[114, 101, 109, 111, 118, 101, 32]⟩ ++ p) := rfl
      generalize lineB (2, p, r, m, cl, nx) = res at HR ⊢
      clear H1 H2 H3 H4 hin hjm hjc
      go_enter Tryz.func33, Tryz.ntmps33
      go_wp2
      go_ret
      exact ⟨ret_str HR.out.symm, HB0.out⟩
    · by_cases k3 : k = 3
      · subst k3
        have HR : Hid (lineB (3, p, r, m, cl, nx) = ⟨#[109, 97, 115, 107, 32]⟩ ++ p ++ ⟨#[32]⟩ ++ joinB (m.map itoaB) ⟨#[44]⟩) := rfl
        generalize lineB (3, p, r, m, cl, nx) = res at HR ⊢
        generalize joinB (m.map itoaB) ⟨#[44]⟩ = s1 at *
        clear H1 H2 H4 hin hjc hir
        go_enter Tryz.func33, Tryz.ntmps33
        go_wp2_with fail
        generalize w.alloc (.cells #[.int .i64 3, .string p, .int .i64 r, .slice ma mn mc, .slice ca cn cc, .int .i64 nx] 75) = wq at *
        obtain ⟨_, y1, _, y3, _, _, _⟩ := box6 HWQ.out
        replace y1 := cell_regrown y1
        replace y3 := cell_regrown y3
        have HC1 : Hid (∀ d os, Calls Tryz.prog 62 #[.slice ma mn mc, .string ⟨#[44]⟩, .func (.func 48) #[] #[]] (grow (redrawn wq d) os) fun e w'' => e = .returned (.string s1) ∧ ∃ p_1 : Regrown, w'' = grow (redrawn wq p_1.d) p_1.os) := fun d os => Calls.regrown_of (H3.out _ (Below.ups HB0.out (below_regrown wq d os)))
        refine wp_region_quiet_below (by kernel_rfl) (by kernel_rfl) ?_
        repeat (go_big_quiet_step (fail))
        refine quiet_call (by rfl) 62 _ _ rfl #[.slice ma mn mc, .string ⟨#[44]⟩, .func (.func 48) #[] #[]] (by simp [Act.eval]) HE49.out (.string s1) (fun w hw => by obtain ⟨q, rfl⟩ := hw; exact HC1.out _ _) ?_
        simp only [Act.put, List.setIfInBounds_toArray, List.set_cons_succ, List.set_cons_zero]
        repeat (go_big_quiet_step (fail))
        refine wpQuiet_nil ?_
        intro _ hw'
        obtain ⟨⟨dq, osq⟩, hw''⟩ := hw'
        subst hw''
        go_wp2
        go_ret
        exact ⟨ret_str HR.out.symm, Below.ups HB0.out (below_regrown wq dq osq)⟩
      · have HR : Hid (lineB (k, p, r, m, cl, nx) = ⟨#[115, 99, 104, 101, 109, 97, 32]⟩ ++ itoaB nx ++ ⟨#[32]⟩ ++ joinB (cl.map columnB) ⟨#[59]⟩) := by simp [Hid, lineB, k1, k2, k3]
        generalize lineB (k, p, r, m, cl, nx) = res at HR ⊢
        generalize joinB (cl.map columnB) ⟨#[59]⟩ = s1 at *
        generalize itoaB nx = s2 at *
        clear H1 H3 hjm hir
        go_enter Tryz.func33, Tryz.ntmps33
        go_wp2_with fail
        generalize w.alloc (.cells #[.int .i64 k, .string p, .int .i64 r, .slice ma mn mc, .slice ca cn cc, .int .i64 nx] 75) = wq at *
        obtain ⟨_, _, _, _, y4, y5, _⟩ := box6 HWQ.out
        replace y4 := cell_regrown y4
        replace y5 := cell_regrown y5
        have HC1 : Hid (∀ d os, Calls Tryz.prog 63 #[.slice ca cn cc, .string ⟨#[59]⟩, .func (.func 64) #[] #[]] (grow (redrawn wq d) os) fun e w'' => e = .returned (.string s1) ∧ ∃ p_1 : Regrown, w'' = grow (redrawn wq p_1.d) p_1.os) := fun d os => Calls.regrown_of (H4.out _ (Below.ups HB0.out (below_regrown wq d os)))
        have HC2 : Hid (∀ d os, Calls Tryz.prog 48 #[.int .i64 nx] (grow (redrawn wq d) os) fun e w'' => e = .returned (.string s2) ∧ ∃ p_1 : Regrown, w'' = grow (redrawn wq p_1.d) p_1.os) := fun d os => Calls.regrown_of (H2.out _ (Below.ups HB0.out (below_regrown wq d os)))
        refine wp_region_quiet_below (by kernel_rfl) (by kernel_rfl) ?_
        repeat (go_big_quiet_step (first
          | (go_at_call_of 48 (#[.int .i64 nx] : Array Value); exact HC2.out _ _)))
        refine quiet_call (by rfl) 63 _ _ rfl #[.slice ca cn cc, .string ⟨#[59]⟩, .func (.func 64) #[] #[]] (by simp [Act.eval]) HE50.out (.string s1) (fun w hw => by obtain ⟨q, rfl⟩ := hw; exact HC1.out _ _) ?_
        simp only [Act.put, List.setIfInBounds_toArray, List.set_cons_succ, List.set_cons_zero]
        repeat (go_big_quiet_step (fail))
        refine wpQuiet_nil ?_
        intro _ hw'
        obtain ⟨⟨dq, osq⟩, hw''⟩ := hw'
        subst hw''
        go_wp2
        go_ret
        exact ⟨ret_str HR.out.symm, Below.ups HB0.out (below_regrown wq dq osq)⟩
end Go.Proofs.YtgpdojaehmdlpaaGreatDoor
