/- What millpondkeep.ValueLogic does where both lists of parts are made into trees: it returns true and changes nothing that was there. -/
import Derived.Test.YtmghdphafepifaaDoorL4
import Derived.Test.YtmghdphafepifaaDoorL5
namespace Go.Proofs.YtmghdphafepifaaDoor
open Go.RowKit Go.Proofs

set_option maxHeartbeats 4000000 in
set_option maxRecDepth 100000 in
theorem vl_wrong (lv mv : Value) (ka na kb nb : Int) (ta tb : ByteArray) (w : World) (hta : ta.size ≤ maxLen) (htb : tb.size ≤ maxLen) (htab : TabB w) (hlen : (ta.size : Int) + tb.size ≤ 200)
    (hcl : ∀ W, Below w.heap.size w W → Calls Tryd.prog 12 #[lv] W fun e w' => ∃ v T, e = .returned v ∧ InC w' T v ∧ depthT T ≤ 14 ∧ Below W.heap.size W w')
    (hcm : ∀ W, Below w.heap.size w W → Calls Tryd.prog 12 #[mv] W fun e w' => ∃ v T, e = .returned v ∧ InC w' T v ∧ depthT T ≤ 14 ∧ Below W.heap.size W w') (hok : ok2 ka na kb nb ta tb = false) :
    Calls Tryd.prog 4 #[lv, mv, .agg #[.int .i64 ka, .int .i64 na, .string ta], .agg #[.int .i64 kb, .int .i64 nb, .string tb]] w fun e w' => e = .returned (.bool true) ∧ Below w.heap.size w w' := by
  have HT := mkHid htab; have HL := mkHid hcl; have HM := mkHid hcm; have HO := mkHid hok
  have HS : Hid (ta.size ≤ maxLen ∧ tb.size ≤ maxLen) := ⟨hta, htb⟩
  clear htab hcl hcm hok
  unfold maxLen at hta htb
  have hmf : ∀ (fn : Fn) (first cap : Array Value) (w : World), (Instr.makeFunc fn first cap).run Tryd.prog w = .ok (.func fn first cap) w := fun _ _ _ _ => rfl
  have hst : ∀ (W : World) (a : Addr) (fn : Fn) (x y : Array Value), (store a (.func fn x y)).run Tryd.prog W = stored Tryd.prog W a (.func fn x y) .plain := fun W a fn x y => run_store Tryd.prog W a _ _ rfl
  go_enter Tryd.func4, Tryd.ntmps4
  go_wp2_with fail
  refine (ordered_any _ (HT.out.below (below2 w _ _))).mono ?_
  rintro e w1 ⟨rfl, hb1⟩
  have a0 : w1.cell? ⟨w.heap.size, 0, none⟩ = some (.int .i64 ka) := (hb1.cell (p := ⟨w.heap.size, 0, none⟩) (by simp; try omega)).trans (by go_simp)
  have a1 : w1.cell? ⟨w.heap.size, 1, none⟩ = some (.int .i64 na) := (hb1.cell (p := ⟨w.heap.size, 1, none⟩) (by simp; try omega)).trans (by go_simp)
  have a2 : w1.cell? ⟨w.heap.size, 2, none⟩ = some (.string ta) := (hb1.cell (p := ⟨w.heap.size, 2, none⟩) (by simp; try omega)).trans (by go_simp)
  have b0 : w1.cell? ⟨w.heap.size + 1, 0, none⟩ = some (.int .i64 kb) := (hb1.cell (p := ⟨w.heap.size + 1, 0, none⟩) (by simp; try omega)).trans (by go_simp)
  have b1 : w1.cell? ⟨w.heap.size + 1, 1, none⟩ = some (.int .i64 nb) := (hb1.cell (p := ⟨w.heap.size + 1, 1, none⟩) (by simp; try omega)).trans (by go_simp)
  have b2 : w1.cell? ⟨w.heap.size + 1, 2, none⟩ = some (.string tb) := (hb1.cell (p := ⟨w.heap.size + 1, 2, none⟩) (by simp; try omega)).trans (by go_simp)
  have B1 : Hid (Below w.heap.size w w1) := Below.up (below2 w _ _) hb1
  have S1 : w.heap.size + 2 ≤ w1.heap.size := by have := hb1.size; simp at this; omega
  clear hb1
  go_wp2_with fail
  refine (HL.out _ B1.out).mono ?_
  rintro e w2 ⟨v1, T1, rfl, hi1, hd1, hb2⟩
  replace a0 : w2.cell? ⟨w.heap.size, 0, none⟩ = some (.int .i64 ka) := (hb2.cell (p := ⟨w.heap.size, 0, none⟩) (by simp; omega)).trans a0
  replace a1 : w2.cell? ⟨w.heap.size, 1, none⟩ = some (.int .i64 na) := (hb2.cell (p := ⟨w.heap.size, 1, none⟩) (by simp; omega)).trans a1
  replace a2 : w2.cell? ⟨w.heap.size, 2, none⟩ = some (.string ta) := (hb2.cell (p := ⟨w.heap.size, 2, none⟩) (by simp; omega)).trans a2
  replace b0 : w2.cell? ⟨w.heap.size + 1, 0, none⟩ = some (.int .i64 kb) := (hb2.cell (p := ⟨w.heap.size + 1, 0, none⟩) (by simp; omega)).trans b0
  replace b1 : w2.cell? ⟨w.heap.size + 1, 1, none⟩ = some (.int .i64 nb) := (hb2.cell (p := ⟨w.heap.size + 1, 1, none⟩) (by simp; omega)).trans b1
  replace b2 : w2.cell? ⟨w.heap.size + 1, 2, none⟩ = some (.string tb) := (hb2.cell (p := ⟨w.heap.size + 1, 2, none⟩) (by simp; omega)).trans b2
  have B2 : Hid (Below w.heap.size w w2) := Below.up B1.out hb2
  have S2 : w.heap.size + 2 ≤ w2.heap.size := by have := hb2.size; omega
  obtain ⟨p1, rfl⟩ := hi1.ptr
  have I1 := mkHid hi1; have D1 := mkHid hd1
  clear hb2 B1 S1 hi1 hd1
  go_wp2_with fail
  refine (HM.out _ B2.out).mono ?_
  rintro e w3 ⟨v2, T2, rfl, hi2, hd2, hb3⟩
  replace a0 : w3.cell? ⟨w.heap.size, 0, none⟩ = some (.int .i64 ka) := (hb3.cell (p := ⟨w.heap.size, 0, none⟩) (by simp; omega)).trans a0
  replace a1 : w3.cell? ⟨w.heap.size, 1, none⟩ = some (.int .i64 na) := (hb3.cell (p := ⟨w.heap.size, 1, none⟩) (by simp; omega)).trans a1
  replace a2 : w3.cell? ⟨w.heap.size, 2, none⟩ = some (.string ta) := (hb3.cell (p := ⟨w.heap.size, 2, none⟩) (by simp; omega)).trans a2
  replace b0 : w3.cell? ⟨w.heap.size + 1, 0, none⟩ = some (.int .i64 kb) := (hb3.cell (p := ⟨w.heap.size + 1, 0, none⟩) (by simp; omega)).trans b0
  replace b1 : w3.cell? ⟨w.heap.size + 1, 1, none⟩ = some (.int .i64 nb) := (hb3.cell (p := ⟨w.heap.size + 1, 1, none⟩) (by simp; omega)).trans b1
  replace b2 : w3.cell? ⟨w.heap.size + 1, 2, none⟩ = some (.string tb) := (hb3.cell (p := ⟨w.heap.size + 1, 2, none⟩) (by simp; omega)).trans b2
  have B3 : Hid (Below w.heap.size w w3) := Below.up B2.out hb3
  have S3 : w.heap.size + 2 ≤ w3.heap.size := by have := hb3.size; omega
  obtain ⟨p2, rfl⟩ := hi2.ptr
  replace I1 : Hid (InC w3 T1 (.pointer p1)) := I1.out.up hb3
  have I2 := mkHid hi2; have D2 := mkHid hd2
  clear hb3 B2 S2 hi2 hd2
  cases p1 with
  | none =>
    go_wp2
    go_ret
    exact ⟨rfl, B3.out⟩
  | some q1 =>
  cases p2 with
  | none =>
    go_wp2
    go_ret
    exact ⟨rfl, B3.out⟩
  | some q2 =>
  go_wp2_with fail
  refine (right2_any ka na kb nb ta tb w3 HS.out.1 HS.out.2).mono ?_
  rw [HO.out]
  rintro e w4 ⟨rfl, hb4⟩
  have hb4' : Below w3.heap.size w3 w4 := ((Below.refl _ _).alloc (Nat.le_refl _) _).trans (hb4.mono (by omega))
  clear hb4
  replace a0 : w4.cell? ⟨w.heap.size, 0, none⟩ = some (.int .i64 ka) := (hb4'.cell (p := ⟨w.heap.size, 0, none⟩) (by simp; omega)).trans a0
  replace a1 : w4.cell? ⟨w.heap.size, 1, none⟩ = some (.int .i64 na) := (hb4'.cell (p := ⟨w.heap.size, 1, none⟩) (by simp; omega)).trans a1
  replace a2 : w4.cell? ⟨w.heap.size, 2, none⟩ = some (.string ta) := (hb4'.cell (p := ⟨w.heap.size, 2, none⟩) (by simp; omega)).trans a2
  replace b0 : w4.cell? ⟨w.heap.size + 1, 0, none⟩ = some (.int .i64 kb) := (hb4'.cell (p := ⟨w.heap.size + 1, 0, none⟩) (by simp; omega)).trans b0
  replace b1 : w4.cell? ⟨w.heap.size + 1, 1, none⟩ = some (.int .i64 nb) := (hb4'.cell (p := ⟨w.heap.size + 1, 1, none⟩) (by simp; omega)).trans b1
  replace b2 : w4.cell? ⟨w.heap.size + 1, 2, none⟩ = some (.string tb) := (hb4'.cell (p := ⟨w.heap.size + 1, 2, none⟩) (by simp; omega)).trans b2
  have B4 : Hid (Below w.heap.size w w4) := Below.up B3.out hb4'
  have S4 : w.heap.size + 2 ≤ w4.heap.size := by have := hb4'.size; omega
  replace I1 : Hid (InC w4 T1 (.pointer (some q1))) := I1.out.up hb4'
  replace I2 : Hid (InC w4 T2 (.pointer (some q2))) := I2.out.up hb4'
  clear hb4' B3 S3
  go_wp2
  go_ret
  exact ⟨rfl, B4.out⟩

set_option maxHeartbeats 8000000 in
set_option maxRecDepth 100000 in
theorem vl_right (lv mv : Value) (ka na kb nb : Int) (ta tb : ByteArray) (w : World) (hta : ta.size ≤ maxLen) (htb : tb.size ≤ maxLen) (htab : TabB w) (hlen : (ta.size : Int) + tb.size ≤ 200)
    (hcl : ∀ W, Below w.heap.size w W → Calls Tryd.prog 12 #[lv] W fun e w' => ∃ v T, e = .returned v ∧ InC w' T v ∧ depthT T ≤ 14 ∧ Below W.heap.size W w')
    (hcm : ∀ W, Below w.heap.size w W → Calls Tryd.prog 12 #[mv] W fun e w' => ∃ v T, e = .returned v ∧ InC w' T v ∧ depthT T ≤ 14 ∧ Below W.heap.size W w') (hok : ok2 ka na kb nb ta tb = true) :
    Calls Tryd.prog 4 #[lv, mv, .agg #[.int .i64 ka, .int .i64 na, .string ta], .agg #[.int .i64 kb, .int .i64 nb, .string tb]] w fun e w' => e = .returned (.bool true) ∧ Below w.heap.size w w' := by
  have HT := mkHid htab; have HL := mkHid hcl; have HM := mkHid hcm; have HO := mkHid hok
  have HS : Hid (ta.size ≤ maxLen ∧ tb.size ≤ maxLen) := ⟨hta, htb⟩
  clear htab hcl hcm hok
  unfold maxLen at hta htb
  have hmf : ∀ (fn : Fn) (first cap : Array Value) (w : World), (Instr.makeFunc fn first cap).run Tryd.prog w = .ok (.func fn first cap) w := fun _ _ _ _ => rfl
  have hst : ∀ (W : World) (a : Addr) (fn : Fn) (x y : Array Value), (store a (.func fn x y)).run Tryd.prog W = stored Tryd.prog W a (.func fn x y) .plain := fun W a fn x y => run_store Tryd.prog W a _ _ rfl
  go_enter Tryd.func4, Tryd.ntmps4
  go_wp2_with fail
  refine (ordered_any _ (HT.out.below (below2 w _ _))).mono ?_
  rintro e w1 ⟨rfl, hb1⟩
  have a0 : w1.cell? ⟨w.heap.size, 0, none⟩ = some (.int .i64 ka) := (hb1.cell (p := ⟨w.heap.size, 0, none⟩) (by simp; try omega)).trans (by go_simp)
  have a1 : w1.cell? ⟨w.heap.size, 1, none⟩ = some (.int .i64 na) := (hb1.cell (p := ⟨w.heap.size, 1, none⟩) (by simp; try omega)).trans (by go_simp)
  have a2 : w1.cell? ⟨w.heap.size, 2, none⟩ = some (.string ta) := (hb1.cell (p := ⟨w.heap.size, 2, none⟩) (by simp; try omega)).trans (by go_simp)
  have b0 : w1.cell? ⟨w.heap.size + 1, 0, none⟩ = some (.int .i64 kb) := (hb1.cell (p := ⟨w.heap.size + 1, 0, none⟩) (by simp; try omega)).trans (by go_simp)
  have b1 : w1.cell? ⟨w.heap.size + 1, 1, none⟩ = some (.int .i64 nb) := (hb1.cell (p := ⟨w.heap.size + 1, 1, none⟩) (by simp; try omega)).trans (by go_simp)
  have b2 : w1.cell? ⟨w.heap.size + 1, 2, none⟩ = some (.string tb) := (hb1.cell (p := ⟨w.heap.size + 1, 2, none⟩) (by simp; try omega)).trans (by go_simp)
  have B1 : Hid (Below w.heap.size w w1) := Below.up (below2 w _ _) hb1
  have S1 : w.heap.size + 2 ≤ w1.heap.size := by have := hb1.size; simp at this; omega
  clear hb1
  go_wp2_with fail
  refine (HL.out _ B1.out).mono ?_
  rintro e w2 ⟨v1, T1, rfl, hi1, hd1, hb2⟩
  replace a0 : w2.cell? ⟨w.heap.size, 0, none⟩ = some (.int .i64 ka) := (hb2.cell (p := ⟨w.heap.size, 0, none⟩) (by simp; omega)).trans a0
  replace a1 : w2.cell? ⟨w.heap.size, 1, none⟩ = some (.int .i64 na) := (hb2.cell (p := ⟨w.heap.size, 1, none⟩) (by simp; omega)).trans a1
  replace a2 : w2.cell? ⟨w.heap.size, 2, none⟩ = some (.string ta) := (hb2.cell (p := ⟨w.heap.size, 2, none⟩) (by simp; omega)).trans a2
  replace b0 : w2.cell? ⟨w.heap.size + 1, 0, none⟩ = some (.int .i64 kb) := (hb2.cell (p := ⟨w.heap.size + 1, 0, none⟩) (by simp; omega)).trans b0
  replace b1 : w2.cell? ⟨w.heap.size + 1, 1, none⟩ = some (.int .i64 nb) := (hb2.cell (p := ⟨w.heap.size + 1, 1, none⟩) (by simp; omega)).trans b1
  replace b2 : w2.cell? ⟨w.heap.size + 1, 2, none⟩ = some (.string tb) := (hb2.cell (p := ⟨w.heap.size + 1, 2, none⟩) (by simp; omega)).trans b2
  have B2 : Hid (Below w.heap.size w w2) := Below.up B1.out hb2
  have S2 : w.heap.size + 2 ≤ w2.heap.size := by have := hb2.size; omega
  obtain ⟨p1, rfl⟩ := hi1.ptr
  have I1 := mkHid hi1; have D1 := mkHid hd1
  clear hb2 B1 S1 hi1 hd1
  go_wp2_with fail
  refine (HM.out _ B2.out).mono ?_
  rintro e w3 ⟨v2, T2, rfl, hi2, hd2, hb3⟩
  replace a0 : w3.cell? ⟨w.heap.size, 0, none⟩ = some (.int .i64 ka) := (hb3.cell (p := ⟨w.heap.size, 0, none⟩) (by simp; omega)).trans a0
  replace a1 : w3.cell? ⟨w.heap.size, 1, none⟩ = some (.int .i64 na) := (hb3.cell (p := ⟨w.heap.size, 1, none⟩) (by simp; omega)).trans a1
  replace a2 : w3.cell? ⟨w.heap.size, 2, none⟩ = some (.string ta) := (hb3.cell (p := ⟨w.heap.size, 2, none⟩) (by simp; omega)).trans a2
  replace b0 : w3.cell? ⟨w.heap.size + 1, 0, none⟩ = some (.int .i64 kb) := (hb3.cell (p := ⟨w.heap.size + 1, 0, none⟩) (by simp; omega)).trans b0
  replace b1 : w3.cell? ⟨w.heap.size + 1, 1, none⟩ = some (.int .i64 nb) := (hb3.cell (p := ⟨w.heap.size + 1, 1, none⟩) (by simp; omega)).trans b1
  replace b2 : w3.cell? ⟨w.heap.size + 1, 2, none⟩ = some (.string tb) := (hb3.cell (p := ⟨w.heap.size + 1, 2, none⟩) (by simp; omega)).trans b2
  have B3 : Hid (Below w.heap.size w w3) := Below.up B2.out hb3
  have S3 : w.heap.size + 2 ≤ w3.heap.size := by have := hb3.size; omega
  obtain ⟨p2, rfl⟩ := hi2.ptr
  replace I1 : Hid (InC w3 T1 (.pointer p1)) := I1.out.up hb3
  have I2 := mkHid hi2; have D2 := mkHid hd2
  clear hb3 B2 S2 hi2 hd2
  cases p1 with
  | none =>
    go_wp2
    go_ret
    exact ⟨rfl, B3.out⟩
  | some q1 =>
  cases p2 with
  | none =>
    go_wp2
    go_ret
    exact ⟨rfl, B3.out⟩
  | some q2 =>
  go_wp2_with fail
  refine (right2_any ka na kb nb ta tb w3 HS.out.1 HS.out.2).mono ?_
  rw [HO.out]
  rintro e w4 ⟨rfl, hb4⟩
  have hb4' : Below w3.heap.size w3 w4 := ((Below.refl _ _).alloc (Nat.le_refl _) _).trans (hb4.mono (by omega))
  clear hb4
  replace a0 : w4.cell? ⟨w.heap.size, 0, none⟩ = some (.int .i64 ka) := (hb4'.cell (p := ⟨w.heap.size, 0, none⟩) (by simp; omega)).trans a0
  replace a1 : w4.cell? ⟨w.heap.size, 1, none⟩ = some (.int .i64 na) := (hb4'.cell (p := ⟨w.heap.size, 1, none⟩) (by simp; omega)).trans a1
  replace a2 : w4.cell? ⟨w.heap.size, 2, none⟩ = some (.string ta) := (hb4'.cell (p := ⟨w.heap.size, 2, none⟩) (by simp; omega)).trans a2
  replace b0 : w4.cell? ⟨w.heap.size + 1, 0, none⟩ = some (.int .i64 kb) := (hb4'.cell (p := ⟨w.heap.size + 1, 0, none⟩) (by simp; omega)).trans b0
  replace b1 : w4.cell? ⟨w.heap.size + 1, 1, none⟩ = some (.int .i64 nb) := (hb4'.cell (p := ⟨w.heap.size + 1, 1, none⟩) (by simp; omega)).trans b1
  replace b2 : w4.cell? ⟨w.heap.size + 1, 2, none⟩ = some (.string tb) := (hb4'.cell (p := ⟨w.heap.size + 1, 2, none⟩) (by simp; omega)).trans b2
  have B4 : Hid (Below w.heap.size w w4) := Below.up B3.out hb4'
  have S4 : w.heap.size + 2 ≤ w4.heap.size := by have := hb4'.size; omega
  replace I1 : Hid (InC w4 T1 (.pointer (some q1))) := I1.out.up hb4'
  replace I2 : Hid (InC w4 T2 (.pointer (some q2))) := I2.out.up hb4'
  clear hb4' B3 S3
  have b5 : Below w4.heap.size w4 (w4.alloc (.cells #[.func (.func 13) #[] #[.pointer (some ⟨w.heap.size, 0, none⟩), .pointer (some ⟨w.heap.size + 1, 0, none⟩)]] 34)) := (Below.refl _ _).alloc (Nat.le_refl _) _
  have RKH : Hid (RK (.pointer (some ⟨w4.heap.size, 0, none⟩)) (gI ka kb) (gI na nb) (gB ta tb) (w4.alloc (.cells #[.func (.func 13) #[] #[.pointer (some ⟨w.heap.size, 0, none⟩), .pointer (some ⟨w.heap.size + 1, 0, none⟩)]] 34))) :=
    rk_of w.heap.size (w.heap.size + 1) w4.heap.size ka na kb nb ta tb _ ((b5.cell (p := ⟨w.heap.size, 0, none⟩) (by simp; omega)).trans a0) ((b5.cell (p := ⟨w.heap.size, 1, none⟩) (by simp; omega)).trans a1) ((b5.cell (p := ⟨w.heap.size, 2, none⟩) (by simp; omega)).trans a2) ((b5.cell (p := ⟨w.heap.size + 1, 0, none⟩) (by simp; omega)).trans b0) ((b5.cell (p := ⟨w.heap.size + 1, 1, none⟩) (by simp; omega)).trans b1) ((b5.cell (p := ⟨w.heap.size + 1, 2, none⟩) (by simp; omega)).trans b2) (World.cell?_alloc_at _ _ _ _ rfl)
  obtain ⟨x, hx⟩ : ∃ x, rankI (evT (gI ka kb) (gI na nb) (gB ta tb) T1) = x := ⟨_, rfl⟩
  obtain ⟨y, hy⟩ : ∃ y, rankI (evT (gI ka kb) (gI na nb) (gB ta tb) T2) = y := ⟨_, rfl⟩
  have x0 : 0 ≤ x ∧ x ≤ 2 := hx ▸ rank_range _
  have y0 : 0 ≤ y ∧ y ≤ 2 := hy ▸ rank_range _
  obtain ⟨x0, x2⟩ := x0
  obtain ⟨y0, y2⟩ := y0
  have HX := mkHid hx; have HY := mkHid hy
  have J1 : Hid (InC (w4.alloc (.cells #[.func (.func 13) #[] #[.pointer (some ⟨w.heap.size, 0, none⟩), .pointer (some ⟨w.heap.size + 1, 0, none⟩)]] 34)) T1 (.pointer (some q1))) := I1.out.up b5
  have J2 : Hid (InC (w4.alloc (.cells #[.func (.func 13) #[] #[.pointer (some ⟨w.heap.size, 0, none⟩), .pointer (some ⟨w.heap.size + 1, 0, none⟩)]] 34)) T2 (.pointer (some q2))) := I2.out.up b5
  have B5 : Hid (Below w.heap.size w (w4.alloc (.cells #[.func (.func 13) #[] #[.pointer (some ⟨w.heap.size, 0, none⟩), .pointer (some ⟨w.heap.size + 1, 0, none⟩)]] 34))) := Below.up B4.out b5
  clear hx hy b5 I1 I2 B4 a0 a1 a2 b0 b1 b2
  go_wp2_with fail
  refine (RKH.out _ (Below.refl _ _) T1 _ x J1.out (by have := D1.out; omega) HX.out).mono ?_
  rintro e w6 ⟨rfl, hb6⟩
  go_wp2_with fail
  refine (RKH.out _ hb6 T2 _ y (J2.out.up hb6) (by have := D2.out; omega) HY.out).mono ?_
  rintro e w7 ⟨rfl, hb7⟩
  have B7 : Hid (Below (w4.alloc (.cells #[.func (.func 13) #[] #[.pointer (some ⟨w.heap.size, 0, none⟩), .pointer (some ⟨w.heap.size + 1, 0, none⟩)]] 34)).heap.size (w4.alloc (.cells #[.func (.func 13) #[] #[.pointer (some ⟨w.heap.size, 0, none⟩), .pointer (some ⟨w.heap.size + 1, 0, none⟩)]] 34)) w7) := Below.up hb6 hb7
  clear hb6 hb7
  have B9 : Hid (Below (w4.alloc (.cells #[.func (.func 13) #[] #[.pointer (some ⟨w.heap.size, 0, none⟩), .pointer (some ⟨w.heap.size + 1, 0, none⟩)]] 34)).heap.size (w4.alloc (.cells #[.func (.func 13) #[] #[.pointer (some ⟨w.heap.size, 0, none⟩), .pointer (some ⟨w.heap.size + 1, 0, none⟩)]] 34)) ((w7.alloc (.cells #[.int .i64 9, .string ⟨#[]⟩, .int .i64 0, .int .i64 0, .string ⟨#[]⟩, .pointer (some q1), .pointer (some q2)] 39)).alloc (.cells #[.int .i64 10, .string ⟨#[]⟩, .int .i64 0, .int .i64 0, .string ⟨#[]⟩, .pointer (some q2), .pointer (some q1)] 39))) := Below.up B7.out (below2 w7 _ _)
  have K1 : Hid (InC ((w7.alloc (.cells #[.int .i64 9, .string ⟨#[]⟩, .int .i64 0, .int .i64 0, .string ⟨#[]⟩, .pointer (some q1), .pointer (some q2)] 39)).alloc (.cells #[.int .i64 10, .string ⟨#[]⟩, .int .i64 0, .int .i64 0, .string ⟨#[]⟩, .pointer (some q2), .pointer (some q1)] 39)) T1 (.pointer (some q1))) := J1.out.up B9.out
  have K3 : Hid (InC ((w7.alloc (.cells #[.int .i64 9, .string ⟨#[]⟩, .int .i64 0, .int .i64 0, .string ⟨#[]⟩, .pointer (some q1), .pointer (some q2)] 39)).alloc (.cells #[.int .i64 10, .string ⟨#[]⟩, .int .i64 0, .int .i64 0, .string ⟨#[]⟩, .pointer (some q2), .pointer (some q1)] 39)) (andT T1 T2) (.pointer (some ⟨w7.heap.size, 0, none⟩))) := (box_tree (by omega) (J1.out.up B7.out) (J2.out.up B7.out)).up ((Below.refl _ _).alloc (Nat.le_refl _) _)
  have K4 : Hid (InC ((w7.alloc (.cells #[.int .i64 9, .string ⟨#[]⟩, .int .i64 0, .int .i64 0, .string ⟨#[]⟩, .pointer (some q1), .pointer (some q2)] 39)).alloc (.cells #[.int .i64 10, .string ⟨#[]⟩, .int .i64 0, .int .i64 0, .string ⟨#[]⟩, .pointer (some q2), .pointer (some q1)] 39)) (orT T2 T1) (.pointer (some ⟨w7.heap.size + 1, 0, none⟩))) := mkHid (by
    have hb : Below w7.heap.size w7 (w7.alloc (.cells #[.int .i64 9, .string ⟨#[]⟩, .int .i64 0, .int .i64 0, .string ⟨#[]⟩, .pointer (some q1), .pointer (some q2)] 39)) := (Below.refl _ _).alloc (Nat.le_refl _) _
    have := box_tree (by omega) (c := 10) ((J2.out.up B7.out).up hb) ((J1.out.up B7.out).up hb)
    simpa [orT] using this)
  go_wp2_with fail
  refine (mkNot_tree T1 _ _ K1.out).mono ?_
  rintro e w10 ⟨n1, rfl, i10, hb10⟩
  have E1 := mkHid i10; have F1 := mkHid hb10
  clear i10 hb10
  go_wp2_with fail
  refine (RKH.out _ (Below.up B9.out F1.out) (notT T1) _ (2 - x) E1.out (by have := D1.out; simp [notT, depthT]; omega) (by rw [rank_not, HX.out])).mono ?_
  rintro e w11 ⟨rfl, hb11⟩
  have F2 : Hid (Below ((w7.alloc (.cells #[.int .i64 9, .string ⟨#[]⟩, .int .i64 0, .int .i64 0, .string ⟨#[]⟩, .pointer (some q1), .pointer (some q2)] 39)).alloc (.cells #[.int .i64 10, .string ⟨#[]⟩, .int .i64 0, .int .i64 0, .string ⟨#[]⟩, .pointer (some q2), .pointer (some q1)] 39)).heap.size ((w7.alloc (.cells #[.int .i64 9, .string ⟨#[]⟩, .int .i64 0, .int .i64 0, .string ⟨#[]⟩, .pointer (some q1), .pointer (some q2)] 39)).alloc (.cells #[.int .i64 10, .string ⟨#[]⟩, .int .i64 0, .int .i64 0, .string ⟨#[]⟩, .pointer (some q2), .pointer (some q1)] 39)) w11) := Below.up F1.out hb11
  clear hb11 E1 F1
  go_wp2_with fail
  refine (mkNot_tree T1 _ _ (K1.out.up F2.out)).mono ?_
  rintro e w12 ⟨n2, rfl, i12, hb12⟩
  have E2 := mkHid i12
  have F3 : Hid (Below ((w7.alloc (.cells #[.int .i64 9, .string ⟨#[]⟩, .int .i64 0, .int .i64 0, .string ⟨#[]⟩, .pointer (some q1), .pointer (some q2)] 39)).alloc (.cells #[.int .i64 10, .string ⟨#[]⟩, .int .i64 0, .int .i64 0, .string ⟨#[]⟩, .pointer (some q2), .pointer (some q1)] 39)).heap.size ((w7.alloc (.cells #[.int .i64 9, .string ⟨#[]⟩, .int .i64 0, .int .i64 0, .string ⟨#[]⟩, .pointer (some q1), .pointer (some q2)] 39)).alloc (.cells #[.int .i64 10, .string ⟨#[]⟩, .int .i64 0, .int .i64 0, .string ⟨#[]⟩, .pointer (some q2), .pointer (some q1)] 39)) w12) := Below.up F2.out hb12
  clear i12 hb12 F2
  go_wp2_with fail
  refine (mkNot_tree (notT T1) _ _ E2.out).mono ?_
  rintro e w13 ⟨n3, rfl, i13, hb13⟩
  have E3 := mkHid i13
  have F4 : Hid (Below ((w7.alloc (.cells #[.int .i64 9, .string ⟨#[]⟩, .int .i64 0, .int .i64 0, .string ⟨#[]⟩, .pointer (some q1), .pointer (some q2)] 39)).alloc (.cells #[.int .i64 10, .string ⟨#[]⟩, .int .i64 0, .int .i64 0, .string ⟨#[]⟩, .pointer (some q2), .pointer (some q1)] 39)).heap.size ((w7.alloc (.cells #[.int .i64 9, .string ⟨#[]⟩, .int .i64 0, .int .i64 0, .string ⟨#[]⟩, .pointer (some q1), .pointer (some q2)] 39)).alloc (.cells #[.int .i64 10, .string ⟨#[]⟩, .int .i64 0, .int .i64 0, .string ⟨#[]⟩, .pointer (some q2), .pointer (some q1)] 39)) w13) := Below.up F3.out hb13
  clear i13 hb13 F3 E2
  go_wp2_with fail
  refine (RKH.out _ (Below.up B9.out F4.out) (notT (notT T1)) _ x E3.out (by have := D1.out; simp [notT, depthT]; omega) (by rw [rank_not, rank_not, HX.out]; omega)).mono ?_
  rintro e w14 ⟨rfl, hb14⟩
  have F5 : Hid (Below ((w7.alloc (.cells #[.int .i64 9, .string ⟨#[]⟩, .int .i64 0, .int .i64 0, .string ⟨#[]⟩, .pointer (some q1), .pointer (some q2)] 39)).alloc (.cells #[.int .i64 10, .string ⟨#[]⟩, .int .i64 0, .int .i64 0, .string ⟨#[]⟩, .pointer (some q2), .pointer (some q1)] 39)).heap.size ((w7.alloc (.cells #[.int .i64 9, .string ⟨#[]⟩, .int .i64 0, .int .i64 0, .string ⟨#[]⟩, .pointer (some q1), .pointer (some q2)] 39)).alloc (.cells #[.int .i64 10, .string ⟨#[]⟩, .int .i64 0, .int .i64 0, .string ⟨#[]⟩, .pointer (some q2), .pointer (some q1)] 39)) w14) := Below.up F4.out hb14
  clear hb14 F4 E3
  go_wp2_with fail
  refine (RKH.out _ (Below.up B9.out F5.out) (andT T1 T2) _ (min x y) (K3.out.up F5.out) (by have := D1.out; have := D2.out; simp [andT, depthT]; omega) (by rw [rank_and, HX.out, HY.out])).mono ?_
  rintro e w15 ⟨rfl, hb15⟩
  have F6 : Hid (Below ((w7.alloc (.cells #[.int .i64 9, .string ⟨#[]⟩, .int .i64 0, .int .i64 0, .string ⟨#[]⟩, .pointer (some q1), .pointer (some q2)] 39)).alloc (.cells #[.int .i64 10, .string ⟨#[]⟩, .int .i64 0, .int .i64 0, .string ⟨#[]⟩, .pointer (some q2), .pointer (some q1)] 39)).heap.size ((w7.alloc (.cells #[.int .i64 9, .string ⟨#[]⟩, .int .i64 0, .int .i64 0, .string ⟨#[]⟩, .pointer (some q1), .pointer (some q2)] 39)).alloc (.cells #[.int .i64 10, .string ⟨#[]⟩, .int .i64 0, .int .i64 0, .string ⟨#[]⟩, .pointer (some q2), .pointer (some q1)] 39)) w15) := Below.up F5.out hb15
  clear hb15 F5
  go_wp2_with fail
  refine (RKH.out _ (Below.up B9.out F6.out) (orT T2 T1) _ (max x y) (K4.out.up F6.out) (by have := D1.out; have := D2.out; simp [orT, depthT]; omega) (by rw [rank_or, HX.out, HY.out])).mono ?_
  rintro e w16 ⟨rfl, hb16⟩
  have F7 : Hid (Below ((w7.alloc (.cells #[.int .i64 9, .string ⟨#[]⟩, .int .i64 0, .int .i64 0, .string ⟨#[]⟩, .pointer (some q1), .pointer (some q2)] 39)).alloc (.cells #[.int .i64 10, .string ⟨#[]⟩, .int .i64 0, .int .i64 0, .string ⟨#[]⟩, .pointer (some q2), .pointer (some q1)] 39)).heap.size ((w7.alloc (.cells #[.int .i64 9, .string ⟨#[]⟩, .int .i64 0, .int .i64 0, .string ⟨#[]⟩, .pointer (some q1), .pointer (some q2)] 39)).alloc (.cells #[.int .i64 10, .string ⟨#[]⟩, .int .i64 0, .int .i64 0, .string ⟨#[]⟩, .pointer (some q2), .pointer (some q1)] 39)) w16) := Below.up F6.out hb16
  clear hb16 F6
  go_wp2_with fail
  refine (mkNot_tree (andT T1 T2) _ _ (K3.out.up F7.out)).mono ?_
  rintro e w17 ⟨n4, rfl, i17, hb17⟩
  have E4 := mkHid i17
  have F8 : Hid (Below ((w7.alloc (.cells #[.int .i64 9, .string ⟨#[]⟩, .int .i64 0, .int .i64 0, .string ⟨#[]⟩, .pointer (some q1), .pointer (some q2)] 39)).alloc (.cells #[.int .i64 10, .string ⟨#[]⟩, .int .i64 0, .int .i64 0, .string ⟨#[]⟩, .pointer (some q2), .pointer (some q1)] 39)).heap.size ((w7.alloc (.cells #[.int .i64 9, .string ⟨#[]⟩, .int .i64 0, .int .i64 0, .string ⟨#[]⟩, .pointer (some q1), .pointer (some q2)] 39)).alloc (.cells #[.int .i64 10, .string ⟨#[]⟩, .int .i64 0, .int .i64 0, .string ⟨#[]⟩, .pointer (some q2), .pointer (some q1)] 39)) w17) := Below.up F7.out hb17
  clear i17 hb17 F7
  go_wp2_with fail
  refine (RKH.out _ (Below.up B9.out F8.out) (notT (andT T1 T2)) _ (2 - min x y) E4.out (by have := D1.out; have := D2.out; simp [notT, andT, depthT]; omega) (by rw [rank_not, rank_and, HX.out, HY.out])).mono ?_
  rintro e w18 ⟨rfl, hb18⟩
  have F9 : Hid (Below ((w7.alloc (.cells #[.int .i64 9, .string ⟨#[]⟩, .int .i64 0, .int .i64 0, .string ⟨#[]⟩, .pointer (some q1), .pointer (some q2)] 39)).alloc (.cells #[.int .i64 10, .string ⟨#[]⟩, .int .i64 0, .int .i64 0, .string ⟨#[]⟩, .pointer (some q2), .pointer (some q1)] 39)).heap.size ((w7.alloc (.cells #[.int .i64 9, .string ⟨#[]⟩, .int .i64 0, .int .i64 0, .string ⟨#[]⟩, .pointer (some q1), .pointer (some q2)] 39)).alloc (.cells #[.int .i64 10, .string ⟨#[]⟩, .int .i64 0, .int .i64 0, .string ⟨#[]⟩, .pointer (some q2), .pointer (some q1)] 39)) w18) := Below.up F8.out hb18
  clear hb18 F8 E4
  go_wp2_with fail
  refine (mkNot_tree (orT T2 T1) _ _ (K4.out.up F9.out)).mono ?_
  rintro e w19 ⟨n5, rfl, i19, hb19⟩
  have E5 := mkHid i19
  have F10 : Hid (Below ((w7.alloc (.cells #[.int .i64 9, .string ⟨#[]⟩, .int .i64 0, .int .i64 0, .string ⟨#[]⟩, .pointer (some q1), .pointer (some q2)] 39)).alloc (.cells #[.int .i64 10, .string ⟨#[]⟩, .int .i64 0, .int .i64 0, .string ⟨#[]⟩, .pointer (some q2), .pointer (some q1)] 39)).heap.size ((w7.alloc (.cells #[.int .i64 9, .string ⟨#[]⟩, .int .i64 0, .int .i64 0, .string ⟨#[]⟩, .pointer (some q1), .pointer (some q2)] 39)).alloc (.cells #[.int .i64 10, .string ⟨#[]⟩, .int .i64 0, .int .i64 0, .string ⟨#[]⟩, .pointer (some q2), .pointer (some q1)] 39)) w19) := Below.up F9.out hb19
  clear i19 hb19 F9
  go_wp2_with fail
  refine (RKH.out _ (Below.up B9.out F10.out) (notT (orT T2 T1)) _ (2 - max x y) E5.out (by have := D1.out; have := D2.out; simp [notT, orT, depthT]; omega) (by rw [rank_not, rank_or, HX.out, HY.out])).mono ?_
  rintro e w20 ⟨rfl, hb20⟩
  have F11 : Hid (Below w.heap.size w w20) := Below.up B5.out (Below.up B9.out (Below.up F10.out hb20))
  clear hb20 F10 E5
  go_wp2
  go_ret
  exact ⟨rfl, F11.out⟩
end Go.Proofs.YtmghdphafepifaaDoor
