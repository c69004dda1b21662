/- What schema.Right does, said of every call. -/
import Derived.Test.YtlnkbhbpkmnkaaaGreatDoorFW5
namespace Go.Proofs.YtlnkbhbpkmnkaaaGreatDoor.F
open Go.RowKit Go.Proofs Go.Lib Go.Joins
open Go.Sort (grow)

theorem right_no {l : List Col} {next : Int} {k : Nat} (hk : k < l.length) (h : okAt l next k = false) : rightB l next = false := by
  unfold rightB
  have : (List.range l.length).all (okAt l next) = false := by
    rw [List.all_eq_false]
    exact ⟨k, List.mem_range.2 hk, by simp [h]⟩
  rw [this]; simp
theorem right_yes {l : List Col} {next : Int} (h1 : 1 ≤ l.length) (h8 : l.length ≤ 8) (h : ∀ j, j < l.length → okAt l next j = true) : rightB l next = true := by
  unfold rightB
  have : (List.range l.length).all (okAt l next) = true := by
    rw [List.all_eq_true]
    exact fun k hk => h k (List.mem_range.1 hk)
  rw [this]; simp [h1, h8]
set_option maxHeartbeats 8000000 in
set_option maxRecDepth 100000 in
theorem right_all (lv : Value) (l : List Col) (next : Int) (w : World) (h : SlE 7 C.encC w lv l) (hlen : l.length ≤ 1000) (hsz : ∀ x ∈ l, x.2.1.size ≤ maxLen ∧ x.2.2.2.2.2.2.size ≤ maxLen) (hw : C.NcB w) :
    Calls Tryz.prog 46 #[lv, .int .i64 next] w fun e w' => e = .returned (.bool (rightB l next)) ∧ Below w.heap.size w w' := by
  by_cases hl : 1 ≤ l.length ∧ l.length ≤ 8
  · obtain ⟨hl1', hl8'⟩ := hl
    obtain ⟨g, o, c, rfl, hcap, hS⟩ := slC_of h (by omega)
    have hl1 : 1 ≤ (l.length : Int) := by omega
    have hl8 : (l.length : Int) ≤ 8 := by omega
    have HS := mkH hS
    have HN := mkH hw
    have HSZ := mkH hsz
    clear h hS hw hsz
    go_enter Tryz.func46, Tryz.ntmps46
    go_wp2
    go_loopw [17] (fun i wr => ∃ k : Nat, k ≤ l.length ∧ i = .int .i64 k ∧ Hid (∀ j, j < k → okAt l next j = true) ∧ Hid (Below w.heap.size w wr))
      (fun i _ => l.length - (intOf i).toNat)
    case atStart => exact ⟨0, Nat.zero_le _, rfl, mkH (fun j hj => absurd hj (Nat.not_lt_zero _)), mkH (Below.refl _ _)⟩
    case round =>
      obtain ⟨k, hk, rfl, hok, BW⟩ := hrel
      by_cases hlt : k < l.length
      · have hltz : (k : Int) < (l.length : Int) := by omega
        have hkc : k ≤ c := by omega
        obtain ⟨⟨c1, c2, c3, c4, c5, c6, c7⟩, hx⟩ : ∃ x, l[k]? = some x := ⟨_, List.getElem?_eq_getElem hlt⟩
        have hx' : l[k]! = (c1, c2, c3, c4, c5, c6, c7) := by rw [getElem!_pos l k hlt]; rw [List.getElem?_eq_getElem hlt] at hx; injection hx
        obtain ⟨q0, q1, q2, q3, q4, q5, q6⟩ := (HS.out.below BW.out).cells hlt hx'
        have hsz1 := HSZ.out _ (List.mem_of_getElem? hx)
        have HOKE : Hid (okAt l next k = (C.mayB (c1, c2, c3, c4, c5, c6, c7) && (decide (c1 < next) && !(l.take k).any (C.alikeB (c1, c2, c3, c4, c5, c6, c7))))) := mkH (by unfold okAt; rw [hx]; rfl)
        clear hx hx'
        cases hmay : C.mayB (c1, c2, c3, c4, c5, c6, c7) with
        | false =>
          have HRES : Hid (rightB l next = false) := mkH (right_no hlt (by rw [HOKE.out, hmay]; rfl))
          obtain ⟨al, hal⟩ : ∃ al, (l.take k).any (C.alikeB (c1, c2, c3, c4, c5, c6, c7)) = al := ⟨_, rfl⟩
          have HD : Hid (decide (next ≤ c1) = decide (next ≤ c1)) := mkH rfl
          clear HOKE hok
          have HM : Hid (∀ W, Below w.heap.size w W → Calls Tryz.prog 84 #[.agg #[.int .i64 c1, .string c2, .int .i64 c3, .bool c4, .int .i64 c5, .int .i64 c6, .string c7]] W fun e w' => e = .returned (.bool false) ∧ Below W.heap.size W w') := mkH (fun W hb => by
            have := C.mayBe_any c1 c2 c3 c4 c5 c6 c7 W hsz1.1 hsz1.2 (HN.out.below hb)
            rwa [hmay] at this)
          have HA : Hid (∀ W, Below w.heap.size w W → Calls Tryz.prog 85 #[.slice (some ⟨g, o, none⟩) k c, .agg #[.int .i64 c1, .string c2, .int .i64 c3, .bool c4, .int .i64 c5, .int .i64 c6, .string c7]] W fun e w' => e = .returned (.bool al) ∧ Below W.heap.size W w') := mkH (fun W hb => by
            have := C.alike_any g o c (l.take k) (c1, c2, c3, c4, c5, c6, c7) W ((HS.out.below hb).take k) (by simp; omega)
            rw [hal] at this
            rwa [show (l.take k).length = k by simp; omega] at this)
          clear hmay hal hsz1
          go_wp2_with fail
          have BQ : Hid (Below w.heap.size w (wr.alloc (.cells #[.int .i64 c1, .string c2, .int .i64 c3, .bool c4, .int .i64 c5, .int .i64 c6, .string c7] 31))) := mkH (BW.out.alloc BW.out.size _)
          obtain ⟨e0, e1, e2, e3, e4, e5, e6⟩ := C.new7 wr (.int .i64 c1) (.string c2) (.int .i64 c3) (.bool c4) (.int .i64 c5) (.int .i64 c6) (.string c7)
          clear q0 q1 q2 q3 q4 q5 q6
          generalize wr.alloc (.cells #[.int .i64 c1, .string c2, .int .i64 c3, .bool c4, .int .i64 c5, .int .i64 c6, .string c7] 31) = wq at *
          generalize wr.heap.size = nb at *
          replace e0 := cell_regrown e0; replace e1 := cell_regrown e1; replace e2 := cell_regrown e2; replace e3 := cell_regrown e3; replace e4 := cell_regrown e4; replace e5 := cell_regrown e5; replace e6 := cell_regrown e6
          have H1 : Hid (∀ d os, Calls Tryz.prog 84 #[.agg #[.int .i64 c1, .string c2, .int .i64 c3, .bool c4, .int .i64 c5, .int .i64 c6, .string c7]] (grow (redrawn wq d) os) fun e w'' => e = .returned (.bool false) ∧ ∃ p : Regrown, w'' = grow (redrawn wq p.d) p.os) := mkH (fun d os => Calls.regrown_of (HM.out _ (ups BQ.out (below_regrown wq d os))))
          have H2 : Hid (∀ d os, Calls Tryz.prog 85 #[.slice (some ⟨g, o, none⟩) k c, .agg #[.int .i64 c1, .string c2, .int .i64 c3, .bool c4, .int .i64 c5, .int .i64 c6, .string c7]] (grow (redrawn wq d) os) fun e w'' => e = .returned (.bool al) ∧ ∃ p : Regrown, w'' = grow (redrawn wq p.d) p.os) := mkH (fun d os => Calls.regrown_of (HA.out _ (ups BQ.out (below_regrown wq d os))))
          have hd := HD.out
          refine wp_region_quiet_below (by kernel_rfl) (by kernel_rfl) ?_
          repeat (go_big_quiet_step (first
            | (go_at_call_of 84 (#[.agg #[.int .i64 c1, .string c2, .int .i64 c3, .bool c4, .int .i64 c5, .int .i64 c6, .string c7]] : Array Value); exact H1.out _ _)
            | (go_at_call_of 85 (#[.slice (some ⟨g, o, none⟩) k c, .agg #[.int .i64 c1, .string c2, .int .i64 c3, .bool c4, .int .i64 c5, .int .i64 c6, .string c7]] : Array Value); exact H2.out _ _)))
          refine wpQuiet_nil ?_
          intro _ hw'
          obtain ⟨⟨dq, osq⟩, hw''⟩ := hw'
          subst hw''
          go_wp2
          go_ret
          rw [HRES.out]
          exact ⟨rfl, ups BQ.out (below_regrown wq dq osq)⟩
        | true =>
          by_cases hid : c1 < next
          · have HD : Hid (decide (next ≤ c1) = false) := mkH (decide_eq_false (by omega))
            cases hal : (l.take k).any (C.alikeB (c1, c2, c3, c4, c5, c6, c7)) with
            | true =>
              have HRES : Hid (rightB l next = false) := mkH (right_no hlt (by rw [HOKE.out, hmay, hal]; simp))
              clear HOKE hok hid
              have HM : Hid (∀ W, Below w.heap.size w W → Calls Tryz.prog 84 #[.agg #[.int .i64 c1, .string c2, .int .i64 c3, .bool c4, .int .i64 c5, .int .i64 c6, .string c7]] W fun e w' => e = .returned (.bool true) ∧ Below W.heap.size W w') := mkH (fun W hb => by
                have := C.mayBe_any c1 c2 c3 c4 c5 c6 c7 W hsz1.1 hsz1.2 (HN.out.below hb)
                rwa [hmay] at this)
              have HA : Hid (∀ W, Below w.heap.size w W → Calls Tryz.prog 85 #[.slice (some ⟨g, o, none⟩) k c, .agg #[.int .i64 c1, .string c2, .int .i64 c3, .bool c4, .int .i64 c5, .int .i64 c6, .string c7]] W fun e w' => e = .returned (.bool true) ∧ Below W.heap.size W w') := mkH (fun W hb => by
                have := C.alike_any g o c (l.take k) (c1, c2, c3, c4, c5, c6, c7) W ((HS.out.below hb).take k) (by simp; omega)
                rw [hal] at this
                rwa [show (l.take k).length = k by simp; omega] at this)
              clear hmay hal hsz1
              go_wp2_with fail
              have BQ : Hid (Below w.heap.size w (wr.alloc (.cells #[.int .i64 c1, .string c2, .int .i64 c3, .bool c4, .int .i64 c5, .int .i64 c6, .string c7] 31))) := mkH (BW.out.alloc BW.out.size _)
              obtain ⟨e0, e1, e2, e3, e4, e5, e6⟩ := C.new7 wr (.int .i64 c1) (.string c2) (.int .i64 c3) (.bool c4) (.int .i64 c5) (.int .i64 c6) (.string c7)
              clear q0 q1 q2 q3 q4 q5 q6
              generalize wr.alloc (.cells #[.int .i64 c1, .string c2, .int .i64 c3, .bool c4, .int .i64 c5, .int .i64 c6, .string c7] 31) = wq at *
              generalize wr.heap.size = nb at *
              replace e0 := cell_regrown e0; replace e1 := cell_regrown e1; replace e2 := cell_regrown e2; replace e3 := cell_regrown e3; replace e4 := cell_regrown e4; replace e5 := cell_regrown e5; replace e6 := cell_regrown e6
              have H1 : Hid (∀ d os, Calls Tryz.prog 84 #[.agg #[.int .i64 c1, .string c2, .int .i64 c3, .bool c4, .int .i64 c5, .int .i64 c6, .string c7]] (grow (redrawn wq d) os) fun e w'' => e = .returned (.bool true) ∧ ∃ p : Regrown, w'' = grow (redrawn wq p.d) p.os) := mkH (fun d os => Calls.regrown_of (HM.out _ (ups BQ.out (below_regrown wq d os))))
              have H2 : Hid (∀ d os, Calls Tryz.prog 85 #[.slice (some ⟨g, o, none⟩) k c, .agg #[.int .i64 c1, .string c2, .int .i64 c3, .bool c4, .int .i64 c5, .int .i64 c6, .string c7]] (grow (redrawn wq d) os) fun e w'' => e = .returned (.bool true) ∧ ∃ p : Regrown, w'' = grow (redrawn wq p.d) p.os) := mkH (fun d os => Calls.regrown_of (HA.out _ (ups BQ.out (below_regrown wq d os))))
              have hd := HD.out
              refine wp_region_quiet_below (by kernel_rfl) (by kernel_rfl) ?_
              repeat (go_big_quiet_step (first
                | (go_at_call_of 84 (#[.agg #[.int .i64 c1, .string c2, .int .i64 c3, .bool c4, .int .i64 c5, .int .i64 c6, .string c7]] : Array Value); exact H1.out _ _)
                | (go_at_call_of 85 (#[.slice (some ⟨g, o, none⟩) k c, .agg #[.int .i64 c1, .string c2, .int .i64 c3, .bool c4, .int .i64 c5, .int .i64 c6, .string c7]] : Array Value); exact H2.out _ _)))
              refine wpQuiet_nil ?_
              intro _ hw'
              obtain ⟨⟨dq, osq⟩, hw''⟩ := hw'
              subst hw''
              go_wp2
              go_ret
              rw [HRES.out]
              exact ⟨rfl, ups BQ.out (below_regrown wq dq osq)⟩
            | false =>
              have HOK : Hid (∀ j, j < k + 1 → okAt l next j = true) := mkH (fun j hj => by
                by_cases e : j = k
                · rw [e, HOKE.out, hmay, hal]; simp [hid]
                · exact hok.out j (by omega))
              clear HOKE hok hid
              have HM : Hid (∀ W, Below w.heap.size w W → Calls Tryz.prog 84 #[.agg #[.int .i64 c1, .string c2, .int .i64 c3, .bool c4, .int .i64 c5, .int .i64 c6, .string c7]] W fun e w' => e = .returned (.bool true) ∧ Below W.heap.size W w') := mkH (fun W hb => by
                have := C.mayBe_any c1 c2 c3 c4 c5 c6 c7 W hsz1.1 hsz1.2 (HN.out.below hb)
                rwa [hmay] at this)
              have HA : Hid (∀ W, Below w.heap.size w W → Calls Tryz.prog 85 #[.slice (some ⟨g, o, none⟩) k c, .agg #[.int .i64 c1, .string c2, .int .i64 c3, .bool c4, .int .i64 c5, .int .i64 c6, .string c7]] W fun e w' => e = .returned (.bool false) ∧ Below W.heap.size W w') := mkH (fun W hb => by
                have := C.alike_any g o c (l.take k) (c1, c2, c3, c4, c5, c6, c7) W ((HS.out.below hb).take k) (by simp; omega)
                rw [hal] at this
                rwa [show (l.take k).length = k by simp; omega] at this)
              clear hmay hal hsz1
              go_wp2_with fail
              have BQ : Hid (Below w.heap.size w (wr.alloc (.cells #[.int .i64 c1, .string c2, .int .i64 c3, .bool c4, .int .i64 c5, .int .i64 c6, .string c7] 31))) := mkH (BW.out.alloc BW.out.size _)
              obtain ⟨e0, e1, e2, e3, e4, e5, e6⟩ := C.new7 wr (.int .i64 c1) (.string c2) (.int .i64 c3) (.bool c4) (.int .i64 c5) (.int .i64 c6) (.string c7)
              clear q0 q1 q2 q3 q4 q5 q6
              generalize wr.alloc (.cells #[.int .i64 c1, .string c2, .int .i64 c3, .bool c4, .int .i64 c5, .int .i64 c6, .string c7] 31) = wq at *
              generalize wr.heap.size = nb at *
              replace e0 := cell_regrown e0; replace e1 := cell_regrown e1; replace e2 := cell_regrown e2; replace e3 := cell_regrown e3; replace e4 := cell_regrown e4; replace e5 := cell_regrown e5; replace e6 := cell_regrown e6
              have H1 : Hid (∀ d os, Calls Tryz.prog 84 #[.agg #[.int .i64 c1, .string c2, .int .i64 c3, .bool c4, .int .i64 c5, .int .i64 c6, .string c7]] (grow (redrawn wq d) os) fun e w'' => e = .returned (.bool true) ∧ ∃ p : Regrown, w'' = grow (redrawn wq p.d) p.os) := mkH (fun d os => Calls.regrown_of (HM.out _ (ups BQ.out (below_regrown wq d os))))
              have H2 : Hid (∀ d os, Calls Tryz.prog 85 #[.slice (some ⟨g, o, none⟩) k c, .agg #[.int .i64 c1, .string c2, .int .i64 c3, .bool c4, .int .i64 c5, .int .i64 c6, .string c7]] (grow (redrawn wq d) os) fun e w'' => e = .returned (.bool false) ∧ ∃ p : Regrown, w'' = grow (redrawn wq p.d) p.os) := mkH (fun d os => Calls.regrown_of (HA.out _ (ups BQ.out (below_regrown wq d os))))
              have hd := HD.out
              refine wp_region_quiet_below (by kernel_rfl) (by kernel_rfl) ?_
              repeat (go_big_quiet_step (first
                | (go_at_call_of 84 (#[.agg #[.int .i64 c1, .string c2, .int .i64 c3, .bool c4, .int .i64 c5, .int .i64 c6, .string c7]] : Array Value); exact H1.out _ _)
                | (go_at_call_of 85 (#[.slice (some ⟨g, o, none⟩) k c, .agg #[.int .i64 c1, .string c2, .int .i64 c3, .bool c4, .int .i64 c5, .int .i64 c6, .string c7]] : Array Value); exact H2.out _ _)))
              refine wpQuiet_nil ?_
              intro _ hw'
              obtain ⟨⟨dq, osq⟩, hw''⟩ := hw'
              subst hw''
              go_wp2
              go_roundw
              case rel => exact ⟨k + 1, by omega, by go_num, HOK, mkH (ups BQ.out (below_regrown wq dq osq))⟩
              case measure => simp [intOf]; omega
          · have HD : Hid (decide (next ≤ c1) = true) := mkH (decide_eq_true (by omega))
            have HRES : Hid (rightB l next = false) := mkH (right_no hlt (by rw [HOKE.out, hmay]; simp [hid]))
            obtain ⟨al, hal⟩ : ∃ al, (l.take k).any (C.alikeB (c1, c2, c3, c4, c5, c6, c7)) = al := ⟨_, rfl⟩
            clear HOKE hok hid
            have HM : Hid (∀ W, Below w.heap.size w W → Calls Tryz.prog 84 #[.agg #[.int .i64 c1, .string c2, .int .i64 c3, .bool c4, .int .i64 c5, .int .i64 c6, .string c7]] W fun e w' => e = .returned (.bool true) ∧ Below W.heap.size W w') := mkH (fun W hb => by
              have := C.mayBe_any c1 c2 c3 c4 c5 c6 c7 W hsz1.1 hsz1.2 (HN.out.below hb)
              rwa [hmay] at this)
            have HA : Hid (∀ W, Below w.heap.size w W → Calls Tryz.prog 85 #[.slice (some ⟨g, o, none⟩) k c, .agg #[.int .i64 c1, .string c2, .int .i64 c3, .bool c4, .int .i64 c5, .int .i64 c6, .string c7]] W fun e w' => e = .returned (.bool al) ∧ Below W.heap.size W w') := mkH (fun W hb => by
              have := C.alike_any g o c (l.take k) (c1, c2, c3, c4, c5, c6, c7) W ((HS.out.below hb).take k) (by simp; omega)
              rw [hal] at this
              rwa [show (l.take k).length = k by simp; omega] at this)
            clear hmay hal hsz1
            go_wp2_with fail
            have BQ : Hid (Below w.heap.size w (wr.alloc (.cells #[.int .i64 c1, .string c2, .int .i64 c3, .bool c4, .int .i64 c5, .int .i64 c6, .string c7] 31))) := mkH (BW.out.alloc BW.out.size _)
            obtain ⟨e0, e1, e2, e3, e4, e5, e6⟩ := C.new7 wr (.int .i64 c1) (.string c2) (.int .i64 c3) (.bool c4) (.int .i64 c5) (.int .i64 c6) (.string c7)
            clear q0 q1 q2 q3 q4 q5 q6
            generalize wr.alloc (.cells #[.int .i64 c1, .string c2, .int .i64 c3, .bool c4, .int .i64 c5, .int .i64 c6, .string c7] 31) = wq at *
            generalize wr.heap.size = nb at *
            replace e0 := cell_regrown e0; replace e1 := cell_regrown e1; replace e2 := cell_regrown e2; replace e3 := cell_regrown e3; replace e4 := cell_regrown e4; replace e5 := cell_regrown e5; replace e6 := cell_regrown e6
            have H1 : Hid (∀ d os, Calls Tryz.prog 84 #[.agg #[.int .i64 c1, .string c2, .int .i64 c3, .bool c4, .int .i64 c5, .int .i64 c6, .string c7]] (grow (redrawn wq d) os) fun e w'' => e = .returned (.bool true) ∧ ∃ p : Regrown, w'' = grow (redrawn wq p.d) p.os) := mkH (fun d os => Calls.regrown_of (HM.out _ (ups BQ.out (below_regrown wq d os))))
            have H2 : Hid (∀ d os, Calls Tryz.prog 85 #[.slice (some ⟨g, o, none⟩) k c, .agg #[.int .i64 c1, .string c2, .int .i64 c3, .bool c4, .int .i64 c5, .int .i64 c6, .string c7]] (grow (redrawn wq d) os) fun e w'' => e = .returned (.bool al) ∧ ∃ p : Regrown, w'' = grow (redrawn wq p.d) p.os) := mkH (fun d os => Calls.regrown_of (HA.out _ (ups BQ.out (below_regrown wq d os))))
            have hd := HD.out
            refine wp_region_quiet_below (by kernel_rfl) (by kernel_rfl) ?_
            repeat (go_big_quiet_step (first
              | (go_at_call_of 84 (#[.agg #[.int .i64 c1, .string c2, .int .i64 c3, .bool c4, .int .i64 c5, .int .i64 c6, .string c7]] : Array Value); exact H1.out _ _)
              | (go_at_call_of 85 (#[.slice (some ⟨g, o, none⟩) k c, .agg #[.int .i64 c1, .string c2, .int .i64 c3, .bool c4, .int .i64 c5, .int .i64 c6, .string c7]] : Array Value); exact H2.out _ _)))
            refine wpQuiet_nil ?_
            intro _ hw'
            obtain ⟨⟨dq, osq⟩, hw''⟩ := hw'
            subst hw''
            go_wp2
            go_ret
            rw [HRES.out]
            exact ⟨rfl, ups BQ.out (below_regrown wq dq osq)⟩
      · have hkl : k = l.length := by omega
        have HRES : Hid (rightB l next = true) := mkH (right_yes hl1' hl8' (fun j hj => hok.out j (by omega)))
        subst hkl
        go_wp2
        go_ret
        rw [HRES.out]
        exact ⟨rfl, BW.out⟩
  · have HRES : Hid (rightB l next = false) := mkH (by unfold rightB; rw [decide_eq_false hl]; rfl)
    obtain ⟨a, c, rfl, _⟩ := h.slice
    clear h hsz hw
    by_cases h0 : l.length < 1
    · have h0' : (l.length : Int) < 1 := by omega
      go_enter Tryz.func46, Tryz.ntmps46
      go_wp2
      go_ret
      rw [HRES.out]
      exact ⟨rfl, Below.refl _ _⟩
    · have h0' : ¬ (l.length : Int) < 1 := by omega
      have h8' : (8 : Int) < (l.length : Int) := by omega
      go_enter Tryz.func46, Tryz.ntmps46
      go_wp2
      go_ret
      rw [HRES.out]
      exact ⟨rfl, Below.refl _ _⟩
end Go.Proofs.YtlnkbhbpkmnkaaaGreatDoor.F
