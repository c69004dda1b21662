/- What millpondkeep.ValueOrder does at three short values that may be, where all three are the same, in every world in which the library's table of powers of ten lies as it was laid: it returns true and changes nothing that was there. -/
import Derived.Test.YtmghdphafepifaaDoorW4
import Derived.Lib.QuietBelow
import Derived.BigQuiet
import Derived.Deep.RegionWith
namespace Go.Proofs.YtmghdphafepifaaDoor
open Go.RowKit Go.Proofs
open Go.Sort (grow)

set_option maxHeartbeats 4000000 in
set_option maxRecDepth 100000 in
theorem vo_same (ka na kb nb kc nc : Int) (ta tb tc : ByteArray) (w : World) (hta : ta.size ≤ maxLen) (htb : tb.size ≤ maxLen) (htc : tc.size ≤ maxLen) (htab : TabB w)
    (hlen : (ta.size : Int) + tb.size + tc.size ≤ 300) (hok : ok3 ka na kb nb kc nc ta tb tc = true)
    (hab : cmpV ka na ta kb nb tb = 0) (hba : cmpV kb nb tb ka na ta = 0) (hbc : cmpV kb nb tb kc nc tc = 0) (hac : cmpV ka na ta kc nc tc = 0)
    (hE : ∀ W, (Op.equalIn 10000 23 (.agg #[.int .i64 ka, .int .i64 na, .string ta]) (.agg #[.int .i64 kb, .int .i64 nb, .string tb])).run Tryd.prog W = .ok true W)
    (pa : ByteArray) (hpa : ∀ W, TabB W → Calls Tryd.prog 10 #[.agg #[.int .i64 ka, .int .i64 na, .string ta]] W fun e w' => e = .returned (.string pa) ∧ Below W.heap.size W w') (hpb : ∀ W, TabB W → Calls Tryd.prog 10 #[.agg #[.int .i64 kb, .int .i64 nb, .string tb]] W fun e w' => e = .returned (.string pa) ∧ Below W.heap.size W w') :
    Calls Tryd.prog 3 #[.agg #[.int .i64 ka, .int .i64 na, .string ta], .agg #[.int .i64 kb, .int .i64 nb, .string tb], .agg #[.int .i64 kc, .int .i64 nc, .string tc]] w fun e w' => e = .returned (.bool true) ∧ Below w.heap.size w w' := by
  have HT := mkHid htab; have HPA := mkHid hpa; have HPB := mkHid hpb; have HE := mkHid hE
  have HO := mkHid hok
  have HS : Hid (ta.size ≤ maxLen ∧ tb.size ≤ maxLen ∧ tc.size ≤ maxLen) := ⟨hta, htb, htc⟩
  have HAB := mkHid hab; have HBC := mkHid hbc; have HAC := mkHid hac; have HBA := mkHid hba
  clear htab hok hab hbc hac hba hpa hpb hE
  unfold maxLen at hta htb htc
  go_enter Tryd.func3, Tryd.ntmps3
  go_wp2_with fail
  refine (ordered_any _ (HT.out.below ((((Below.refl _ _).alloc (Nat.le_refl _) _).alloc (by simp) _).alloc (by simp; omega) _))).mono ?_
  rintro e w1 ⟨rfl, hb1⟩
  have c00 : w1.cell? ⟨w.heap.size, 0, none⟩ = some (.int .i64 ka) := (hb1.cell (p := ⟨w.heap.size, 0, none⟩) (by simp; try omega)).trans (by go_simp)
  have c01 : w1.cell? ⟨w.heap.size, 1, none⟩ = some (.int .i64 na) := (hb1.cell (p := ⟨w.heap.size, 1, none⟩) (by simp; try omega)).trans (by go_simp)
  have c02 : w1.cell? ⟨w.heap.size, 2, none⟩ = some (.string ta) := (hb1.cell (p := ⟨w.heap.size, 2, none⟩) (by simp; try omega)).trans (by go_simp)
  have c10 : w1.cell? ⟨w.heap.size + 1, 0, none⟩ = some (.int .i64 kb) := (hb1.cell (p := ⟨w.heap.size + 1, 0, none⟩) (by simp; try omega)).trans (by go_simp)
  have c11 : w1.cell? ⟨w.heap.size + 1, 1, none⟩ = some (.int .i64 nb) := (hb1.cell (p := ⟨w.heap.size + 1, 1, none⟩) (by simp; try omega)).trans (by go_simp)
  have c12 : w1.cell? ⟨w.heap.size + 1, 2, none⟩ = some (.string tb) := (hb1.cell (p := ⟨w.heap.size + 1, 2, none⟩) (by simp; try omega)).trans (by go_simp)
  have c20 : w1.cell? ⟨w.heap.size + 1 + 1, 0, none⟩ = some (.int .i64 kc) := (hb1.cell (p := ⟨w.heap.size + 1 + 1, 0, none⟩) (by simp; try omega)).trans (by go_simp)
  have c21 : w1.cell? ⟨w.heap.size + 1 + 1, 1, none⟩ = some (.int .i64 nc) := (hb1.cell (p := ⟨w.heap.size + 1 + 1, 1, none⟩) (by simp; try omega)).trans (by go_simp)
  have c22 : w1.cell? ⟨w.heap.size + 1 + 1, 2, none⟩ = some (.string tc) := (hb1.cell (p := ⟨w.heap.size + 1 + 1, 2, none⟩) (by simp; try omega)).trans (by go_simp)
  have B1 : Hid (Below w.heap.size w w1) := (((((Below.refl _ w).alloc (Nat.le_refl _) _).alloc (by simp) _).alloc (by simp; omega) _)).trans (hb1.mono (by simp; omega))
  have S1 : w.heap.size + 3 ≤ w1.heap.size := by have := hb1.size; simp at this; omega
  clear hb1
  go_wp2_with fail
  refine (right3_any ka na kb nb kc nc ta tb tc w1 HS.out.1 HS.out.2.1 HS.out.2.2).mono ?_
  rw [HO.out]
  rintro e w2 ⟨rfl, hb2⟩
  have hb2' : Below w1.heap.size w1 w2 := ((Below.refl _ _).alloc (Nat.le_refl _) _).trans (hb2.mono (by omega))
  clear hb2
  replace c00 : w2.cell? ⟨w.heap.size, 0, none⟩ = some (.int .i64 ka) := (hb2'.cell (p := ⟨w.heap.size, 0, none⟩) (by simp; omega)).trans c00
  replace c01 : w2.cell? ⟨w.heap.size, 1, none⟩ = some (.int .i64 na) := (hb2'.cell (p := ⟨w.heap.size, 1, none⟩) (by simp; omega)).trans c01
  replace c02 : w2.cell? ⟨w.heap.size, 2, none⟩ = some (.string ta) := (hb2'.cell (p := ⟨w.heap.size, 2, none⟩) (by simp; omega)).trans c02
  replace c10 : w2.cell? ⟨w.heap.size + 1, 0, none⟩ = some (.int .i64 kb) := (hb2'.cell (p := ⟨w.heap.size + 1, 0, none⟩) (by simp; omega)).trans c10
  replace c11 : w2.cell? ⟨w.heap.size + 1, 1, none⟩ = some (.int .i64 nb) := (hb2'.cell (p := ⟨w.heap.size + 1, 1, none⟩) (by simp; omega)).trans c11
  replace c12 : w2.cell? ⟨w.heap.size + 1, 2, none⟩ = some (.string tb) := (hb2'.cell (p := ⟨w.heap.size + 1, 2, none⟩) (by simp; omega)).trans c12
  replace c20 : w2.cell? ⟨w.heap.size + 1 + 1, 0, none⟩ = some (.int .i64 kc) := (hb2'.cell (p := ⟨w.heap.size + 1 + 1, 0, none⟩) (by simp; omega)).trans c20
  replace c21 : w2.cell? ⟨w.heap.size + 1 + 1, 1, none⟩ = some (.int .i64 nc) := (hb2'.cell (p := ⟨w.heap.size + 1 + 1, 1, none⟩) (by simp; omega)).trans c21
  replace c22 : w2.cell? ⟨w.heap.size + 1 + 1, 2, none⟩ = some (.string tc) := (hb2'.cell (p := ⟨w.heap.size + 1 + 1, 2, none⟩) (by simp; omega)).trans c22
  have B2 : Hid (Below w.heap.size w w2) := Below.up B1.out hb2'
  have S2 : w.heap.size + 3 ≤ w2.heap.size := by have := hb2'.size; omega
  clear hb2' B1 S1
  go_wp2_with fail
  have HA1 : Hid (∀ d os, Calls Tryd.prog 9 #[.agg #[.int .i64 ka, .int .i64 na, .string ta], .agg #[.int .i64 kb, .int .i64 nb, .string tb]] (grow (redrawn w2 d) os) fun e w'' => e = .returned (.int .i64 0) ∧ ∃ p : Regrown, w'' = grow (redrawn w2 p.d) p.os) := fun d os => Calls.regrown_of (by have := compare_any ka na kb nb ta tb (grow (redrawn w2 d) os); rw [HAB.out] at this; exact this)
  have HA2 : Hid (∀ d os, Calls Tryd.prog 9 #[.agg #[.int .i64 kb, .int .i64 nb, .string tb], .agg #[.int .i64 kc, .int .i64 nc, .string tc]] (grow (redrawn w2 d) os) fun e w'' => e = .returned (.int .i64 0) ∧ ∃ p : Regrown, w'' = grow (redrawn w2 p.d) p.os) := fun d os => Calls.regrown_of (by have := compare_any kb nb kc nc tb tc (grow (redrawn w2 d) os); rw [HBC.out] at this; exact this)
  have HA3 : Hid (∀ d os, Calls Tryd.prog 9 #[.agg #[.int .i64 ka, .int .i64 na, .string ta], .agg #[.int .i64 kc, .int .i64 nc, .string tc]] (grow (redrawn w2 d) os) fun e w'' => e = .returned (.int .i64 0) ∧ ∃ p : Regrown, w'' = grow (redrawn w2 p.d) p.os) := fun d os => Calls.regrown_of (by have := compare_any ka na kc nc ta tc (grow (redrawn w2 d) os); rw [HAC.out] at this; exact this)
  have HG0 : Hid (∀ d os, Calls Tryd.prog 8 #[.int .i64 0] (grow (redrawn w2 d) os) fun e w'' => e = .returned (.int .i64 0) ∧ ∃ p : Regrown, w'' = grow (redrawn w2 p.d) p.os) := fun d os => (sgn_any 0 (by omega) (by omega) _).mono fun _ _ ⟨he, hw⟩ => ⟨he, ⟨⟨d, os⟩, hw⟩⟩
  replace c00 := cell_regrown c00
  replace c01 := cell_regrown c01
  replace c02 := cell_regrown c02
  replace c10 := cell_regrown c10
  replace c11 := cell_regrown c11
  replace c12 := cell_regrown c12
  replace c20 := cell_regrown c20
  replace c21 := cell_regrown c21
  replace c22 := cell_regrown c22
  refine wp_region_quiet_below (by kernel_rfl) (by kernel_rfl) ?_
  repeat (go_big_quiet_step (first
    | (go_at_call_of 9 (#[.agg #[.int .i64 ka, .int .i64 na, .string ta], .agg #[.int .i64 kb, .int .i64 nb, .string tb]] : Array Value); exact HA1.out _ _)
    | (go_at_call_of 9 (#[.agg #[.int .i64 kb, .int .i64 nb, .string tb], .agg #[.int .i64 kc, .int .i64 nc, .string tc]] : Array Value); exact HA2.out _ _)
    | (go_at_call_of 9 (#[.agg #[.int .i64 ka, .int .i64 na, .string ta], .agg #[.int .i64 kc, .int .i64 nc, .string tc]] : Array Value); exact HA3.out _ _)
    | (go_at_call_of 8 (#[.int .i64 0] : Array Value); exact HG0.out _ _)))
  refine wpQuiet_nil ?_
  intro _ hw'
  obtain ⟨⟨dq, osq⟩, hw''⟩ := hw'
  subst hw''
  have hbq := below_regrown w2 dq osq
  replace c00 := c00 dq osq
  replace c01 := c01 dq osq
  replace c02 := c02 dq osq
  replace c10 := c10 dq osq
  replace c11 := c11 dq osq
  replace c12 := c12 dq osq
  replace c20 := c20 dq osq
  replace c21 := c21 dq osq
  replace c22 := c22 dq osq
  clear HA1 HA2 HA3 HG0
  dsimp only at *
  generalize grow (redrawn w2 dq) osq = w3 at *
  have B3 : Hid (Below w.heap.size w w3) := Below.up B2.out hbq
  have S3 : w.heap.size + 3 ≤ w3.heap.size := by have := hbq.size; omega
  clear hbq B2 S2
  go_wp2_with fail
  have HA1 : Hid (∀ d os, Calls Tryd.prog 9 #[.agg #[.int .i64 kb, .int .i64 nb, .string tb], .agg #[.int .i64 ka, .int .i64 na, .string ta]] (grow (redrawn w3 d) os) fun e w'' => e = .returned (.int .i64 0) ∧ ∃ p : Regrown, w'' = grow (redrawn w3 p.d) p.os) := fun d os => Calls.regrown_of (by have := compare_any kb nb ka na tb ta (grow (redrawn w3 d) os); rw [HBA.out] at this; exact this)
  have HG0 : Hid (∀ d os, Calls Tryd.prog 8 #[.int .i64 0] (grow (redrawn w3 d) os) fun e w'' => e = .returned (.int .i64 0) ∧ ∃ p : Regrown, w'' = grow (redrawn w3 p.d) p.os) := fun d os => (sgn_any 0 (by omega) (by omega) _).mono fun _ _ ⟨he, hw⟩ => ⟨he, ⟨⟨d, os⟩, hw⟩⟩
  have HA2 : Hid (∀ d os, Calls Tryd.prog 10 #[.agg #[.int .i64 ka, .int .i64 na, .string ta]] (grow (redrawn w3 d) os) fun e w'' => e = .returned (.string pa) ∧ ∃ p : Regrown, w'' = grow (redrawn w3 p.d) p.os) := fun d os => Calls.regrown_of (HPA.out _ ((HT.out.below B3.out).below (below_regrown w3 d os)))
  have HA3 : Hid (∀ d os, Calls Tryd.prog 10 #[.agg #[.int .i64 kb, .int .i64 nb, .string tb]] (grow (redrawn w3 d) os) fun e w'' => e = .returned (.string pa) ∧ ∃ p : Regrown, w'' = grow (redrawn w3 p.d) p.os) := fun d os => Calls.regrown_of (HPB.out _ ((HT.out.below B3.out).below (below_regrown w3 d os)))
  replace c00 := cell_regrown c00
  replace c01 := cell_regrown c01
  replace c02 := cell_regrown c02
  replace c10 := cell_regrown c10
  replace c11 := cell_regrown c11
  replace c12 := cell_regrown c12
  replace c20 := cell_regrown c20
  replace c21 := cell_regrown c21
  replace c22 := cell_regrown c22
  have hE := HE.out
  refine wp_region_quiet_below (by kernel_rfl) (by kernel_rfl) ?_
  repeat (go_big_quiet_step (first
    | (go_at_call_of 9 (#[.agg #[.int .i64 kb, .int .i64 nb, .string tb], .agg #[.int .i64 ka, .int .i64 na, .string ta]] : Array Value); exact HA1.out _ _)
    | (go_at_call_of 10 (#[.agg #[.int .i64 ka, .int .i64 na, .string ta]] : Array Value); exact HA2.out _ _)
    | (go_at_call_of 10 (#[.agg #[.int .i64 kb, .int .i64 nb, .string tb]] : Array Value); exact HA3.out _ _)
    | (go_at_call_of 8 (#[.int .i64 0] : Array Value); exact HG0.out _ _)))
  clear hE
  refine wpQuiet_nil ?_
  intro _ hw'
  obtain ⟨⟨dq, osq⟩, hw''⟩ := hw'
  subst hw''
  have hbq := below_regrown w3 dq osq
  replace c00 := c00 dq osq
  replace c01 := c01 dq osq
  replace c02 := c02 dq osq
  replace c10 := c10 dq osq
  replace c11 := c11 dq osq
  replace c12 := c12 dq osq
  replace c20 := c20 dq osq
  replace c21 := c21 dq osq
  replace c22 := c22 dq osq
  clear HA1 HA2 HA3 HG0 HE HPA HPB
  dsimp only at *
  generalize grow (redrawn w3 dq) osq = w4 at *
  have B4 : Hid (Below w.heap.size w w4) := Below.up B3.out hbq
  have S4 : w.heap.size + 3 ≤ w4.heap.size := by have := hbq.size; omega
  clear hbq B3 S3
  rcases Classical.em (ka = 0 ∨ ¬ ka = kb) with hkk | hkk
  · have HK := mkHid hkk
    rcases Classical.em (ka = kb) with hk2 | hk2
    · subst hk2
      have hk0 : ka = 0 := hkk.resolve_right (fun hh => hh rfl)
      have HK0 := mkHid hk0
      have hx0 : (ka == 0) = true := by simpa using hk0
      clear hkk hk0 HK
      go_wp2_with fail
      refine (is_not _ _ _ _ _ _ _ _ (.inl HK0.out)).mono ?_
      rintro e w5 ⟨rfl, hb5⟩
      replace c00 : w5.cell? ⟨w.heap.size, 0, none⟩ = some (.int .i64 ka) := (hb5.cell (p := ⟨w.heap.size, 0, none⟩) (by simp; omega)).trans c00
      replace c01 : w5.cell? ⟨w.heap.size, 1, none⟩ = some (.int .i64 na) := (hb5.cell (p := ⟨w.heap.size, 1, none⟩) (by simp; omega)).trans c01
      replace c02 : w5.cell? ⟨w.heap.size, 2, none⟩ = some (.string ta) := (hb5.cell (p := ⟨w.heap.size, 2, none⟩) (by simp; omega)).trans c02
      replace c10 : w5.cell? ⟨w.heap.size + 1, 0, none⟩ = some (.int .i64 ka) := (hb5.cell (p := ⟨w.heap.size + 1, 0, none⟩) (by simp; omega)).trans c10
      replace c11 : w5.cell? ⟨w.heap.size + 1, 1, none⟩ = some (.int .i64 nb) := (hb5.cell (p := ⟨w.heap.size + 1, 1, none⟩) (by simp; omega)).trans c11
      replace c12 : w5.cell? ⟨w.heap.size + 1, 2, none⟩ = some (.string tb) := (hb5.cell (p := ⟨w.heap.size + 1, 2, none⟩) (by simp; omega)).trans c12
      replace c20 : w5.cell? ⟨w.heap.size + 1 + 1, 0, none⟩ = some (.int .i64 kc) := (hb5.cell (p := ⟨w.heap.size + 1 + 1, 0, none⟩) (by simp; omega)).trans c20
      replace c21 : w5.cell? ⟨w.heap.size + 1 + 1, 1, none⟩ = some (.int .i64 nc) := (hb5.cell (p := ⟨w.heap.size + 1 + 1, 1, none⟩) (by simp; omega)).trans c21
      replace c22 : w5.cell? ⟨w.heap.size + 1 + 1, 2, none⟩ = some (.string tc) := (hb5.cell (p := ⟨w.heap.size + 1 + 1, 2, none⟩) (by simp; omega)).trans c22
      go_wp2_with fail
      refine (is_not _ _ _ _ _ _ _ _ (.inl HK0.out)).mono ?_
      rintro e w6 ⟨rfl, hb6⟩
      go_wp2
      go_ret
      exact ⟨rfl, Below.up B4.out (Below.up hb5 hb6)⟩
    · clear hkk
      go_wp2_with fail
      refine (is_not _ _ _ _ _ _ _ _ HK.out).mono ?_
      rintro e w5 ⟨rfl, hb5⟩
      replace c00 : w5.cell? ⟨w.heap.size, 0, none⟩ = some (.int .i64 ka) := (hb5.cell (p := ⟨w.heap.size, 0, none⟩) (by simp; omega)).trans c00
      replace c01 : w5.cell? ⟨w.heap.size, 1, none⟩ = some (.int .i64 na) := (hb5.cell (p := ⟨w.heap.size, 1, none⟩) (by simp; omega)).trans c01
      replace c02 : w5.cell? ⟨w.heap.size, 2, none⟩ = some (.string ta) := (hb5.cell (p := ⟨w.heap.size, 2, none⟩) (by simp; omega)).trans c02
      replace c10 : w5.cell? ⟨w.heap.size + 1, 0, none⟩ = some (.int .i64 kb) := (hb5.cell (p := ⟨w.heap.size + 1, 0, none⟩) (by simp; omega)).trans c10
      replace c11 : w5.cell? ⟨w.heap.size + 1, 1, none⟩ = some (.int .i64 nb) := (hb5.cell (p := ⟨w.heap.size + 1, 1, none⟩) (by simp; omega)).trans c11
      replace c12 : w5.cell? ⟨w.heap.size + 1, 2, none⟩ = some (.string tb) := (hb5.cell (p := ⟨w.heap.size + 1, 2, none⟩) (by simp; omega)).trans c12
      replace c20 : w5.cell? ⟨w.heap.size + 1 + 1, 0, none⟩ = some (.int .i64 kc) := (hb5.cell (p := ⟨w.heap.size + 1 + 1, 0, none⟩) (by simp; omega)).trans c20
      replace c21 : w5.cell? ⟨w.heap.size + 1 + 1, 1, none⟩ = some (.int .i64 nc) := (hb5.cell (p := ⟨w.heap.size + 1 + 1, 1, none⟩) (by simp; omega)).trans c21
      replace c22 : w5.cell? ⟨w.heap.size + 1 + 1, 2, none⟩ = some (.string tc) := (hb5.cell (p := ⟨w.heap.size + 1 + 1, 2, none⟩) (by simp; omega)).trans c22
      go_wp2_with fail
      refine (is_not _ _ _ _ _ _ _ _ HK.out).mono ?_
      rintro e w6 ⟨rfl, hb6⟩
      go_wp2
      go_ret
      exact ⟨rfl, Below.up B4.out (Below.up hb5 hb6)⟩
  · have HK := mkHid hkk
    have hk2 : ka = kb := Classical.byContradiction fun hh => hkk (.inr hh)
    have hx0 : (ka == 0) = false := by simp; exact fun hh => hkk (.inl hh)
    have HK3 : Hid (¬ ka = 0) := fun hh => hkk (.inl hh)
    clear hkk HK
    subst hk2
    go_wp2_with fail
    have HI3 : Hid (∀ d os, Calls Tryd.prog 11 #[.int .i64 3, .agg #[.int .i64 ka, .int .i64 na, .string ta], .agg #[.int .i64 ka, .int .i64 nb, .string tb]] (grow (redrawn w4 d) os) fun e w'' => e = .returned (.int .i64 0) ∧ ∃ p : Regrown, w'' = grow (redrawn w4 p.d) p.os) := fun d os => Calls.regrown_of (is_val HAB.out (fun hh => hh.elim HK3.out (fun h => h rfl)) (by decide) _)
    have HI1 : Hid (∀ d os, Calls Tryd.prog 11 #[.int .i64 1, .agg #[.int .i64 ka, .int .i64 na, .string ta], .agg #[.int .i64 ka, .int .i64 nb, .string tb]] (grow (redrawn w4 d) os) fun e w'' => e = .returned (.int .i64 1) ∧ ∃ p : Regrown, w'' = grow (redrawn w4 p.d) p.os) := fun d os => Calls.regrown_of (is_val HAB.out (fun hh => hh.elim HK3.out (fun h => h rfl)) (by decide) _)
    have HI5 : Hid (∀ d os, Calls Tryd.prog 11 #[.int .i64 5, .agg #[.int .i64 ka, .int .i64 na, .string ta], .agg #[.int .i64 ka, .int .i64 nb, .string tb]] (grow (redrawn w4 d) os) fun e w'' => e = .returned (.int .i64 0) ∧ ∃ p : Regrown, w'' = grow (redrawn w4 p.d) p.os) := fun d os => Calls.regrown_of (is_val HAB.out (fun hh => hh.elim HK3.out (fun h => h rfl)) (by decide) _)
    have HI4 : Hid (∀ d os, Calls Tryd.prog 11 #[.int .i64 4, .agg #[.int .i64 ka, .int .i64 na, .string ta], .agg #[.int .i64 ka, .int .i64 nb, .string tb]] (grow (redrawn w4 d) os) fun e w'' => e = .returned (.int .i64 1) ∧ ∃ p : Regrown, w'' = grow (redrawn w4 p.d) p.os) := fun d os => Calls.regrown_of (is_val HAB.out (fun hh => hh.elim HK3.out (fun h => h rfl)) (by decide) _)
    have HI2 : Hid (∀ d os, Calls Tryd.prog 11 #[.int .i64 2, .agg #[.int .i64 ka, .int .i64 na, .string ta], .agg #[.int .i64 ka, .int .i64 nb, .string tb]] (grow (redrawn w4 d) os) fun e w'' => e = .returned (.int .i64 0) ∧ ∃ p : Regrown, w'' = grow (redrawn w4 p.d) p.os) := fun d os => Calls.regrown_of (is_val HAB.out (fun hh => hh.elim HK3.out (fun h => h rfl)) (by decide) _)
    have HI6 : Hid (∀ d os, Calls Tryd.prog 11 #[.int .i64 6, .agg #[.int .i64 ka, .int .i64 na, .string ta], .agg #[.int .i64 ka, .int .i64 nb, .string tb]] (grow (redrawn w4 d) os) fun e w'' => e = .returned (.int .i64 1) ∧ ∃ p : Regrown, w'' = grow (redrawn w4 p.d) p.os) := fun d os => Calls.regrown_of (is_val HAB.out (fun hh => hh.elim HK3.out (fun h => h rfl)) (by decide) _)
    have HJ4 : Hid (∀ d os, Calls Tryd.prog 11 #[.int .i64 4, .agg #[.int .i64 ka, .int .i64 nb, .string tb], .agg #[.int .i64 ka, .int .i64 na, .string ta]] (grow (redrawn w4 d) os) fun e w'' => e = .returned (.int .i64 1) ∧ ∃ p : Regrown, w'' = grow (redrawn w4 p.d) p.os) := fun d os => Calls.regrown_of (is_val HBA.out (fun hh => hh.elim HK3.out (fun h => h rfl)) (by decide) _)
    replace c00 := cell_regrown c00
    replace c01 := cell_regrown c01
    replace c02 := cell_regrown c02
    replace c10 := cell_regrown c10
    replace c11 := cell_regrown c11
    replace c12 := cell_regrown c12
    replace c20 := cell_regrown c20
    replace c21 := cell_regrown c21
    replace c22 := cell_regrown c22
    refine wp_region_quiet_below (by kernel_rfl) (by kernel_rfl) ?_
    repeat (go_big_quiet_step (first
      | (go_at_call_of 11 (#[.int .i64 3, .agg #[.int .i64 ka, .int .i64 na, .string ta], .agg #[.int .i64 ka, .int .i64 nb, .string tb]] : Array Value); exact HI3.out _ _)
      | (go_at_call_of 11 (#[.int .i64 1, .agg #[.int .i64 ka, .int .i64 na, .string ta], .agg #[.int .i64 ka, .int .i64 nb, .string tb]] : Array Value); exact HI1.out _ _)
      | (go_at_call_of 11 (#[.int .i64 5, .agg #[.int .i64 ka, .int .i64 na, .string ta], .agg #[.int .i64 ka, .int .i64 nb, .string tb]] : Array Value); exact HI5.out _ _)
      | (go_at_call_of 11 (#[.int .i64 4, .agg #[.int .i64 ka, .int .i64 na, .string ta], .agg #[.int .i64 ka, .int .i64 nb, .string tb]] : Array Value); exact HI4.out _ _)
      | (go_at_call_of 11 (#[.int .i64 2, .agg #[.int .i64 ka, .int .i64 na, .string ta], .agg #[.int .i64 ka, .int .i64 nb, .string tb]] : Array Value); exact HI2.out _ _)
      | (go_at_call_of 11 (#[.int .i64 6, .agg #[.int .i64 ka, .int .i64 na, .string ta], .agg #[.int .i64 ka, .int .i64 nb, .string tb]] : Array Value); exact HI6.out _ _)
      | (go_at_call_of 11 (#[.int .i64 4, .agg #[.int .i64 ka, .int .i64 nb, .string tb], .agg #[.int .i64 ka, .int .i64 na, .string ta]] : Array Value); exact HJ4.out _ _)))
    refine wpQuiet_nil ?_
    intro _ hw'
    obtain ⟨⟨dq, osq⟩, hw''⟩ := hw'
    subst hw''
    go_wp2
    go_ret
    exact ⟨rfl, Below.up B4.out (below_regrown w4 dq osq)⟩
end Go.Proofs.YtmghdphafepifaaDoor
