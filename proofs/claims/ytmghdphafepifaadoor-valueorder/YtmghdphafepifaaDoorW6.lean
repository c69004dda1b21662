/- What millpondkeep.ValueOrder does at every three values whose numbers are 64 bits wide and whose texts are no longer than 2^48 bytes, in every world in which the library's table of powers of ten lies as it was laid: it returns true and changes nothing that was there. -/
import Derived.Test.YtmghdphafepifaaDoorW5A
import Derived.Test.YtmghdphafepifaaDoorW5B
import Derived.Test.YtmghdphafepifaaDoorW5C
import Derived.Test.YtmghdphafepifaaDoorW5D
namespace Go.Proofs.YtmghdphafepifaaDoor
open Go.RowKit Go.Proofs

set_option maxHeartbeats 2000000 in
theorem vo_long (ka na kb nb kc nc : Int) (ta tb tc : ByteArray) (w : World) (hta : ta.size ≤ 2 ^ 48) (htb : tb.size ≤ 2 ^ 48) (htc : tc.size ≤ 2 ^ 48) (hlen : (300 : Int) < (ta.size : Int) + tb.size + tc.size) :
    Calls Tryd.prog 3 #[.agg #[.int .i64 ka, .int .i64 na, .string ta], .agg #[.int .i64 kb, .int .i64 nb, .string tb], .agg #[.int .i64 kc, .int .i64 nc, .string tc]] w fun e w' => e = .returned (.bool true) ∧ Below w.heap.size w w' := by
  go_enter Tryd.func3, Tryd.ntmps3
  go_wp2
  go_ret
  exact ⟨rfl, (((Below.refl _ _).alloc (Nat.le_refl _) _).alloc (by simp) _).alloc (by simp; omega) _⟩

set_option maxHeartbeats 2000000 in
theorem vo_wrong (ka na kb nb kc nc : Int) (ta tb tc : ByteArray) (w : World) (hta : ta.size ≤ maxLen) (htb : tb.size ≤ maxLen) (htc : tc.size ≤ maxLen) (htab : TabB w)
    (hlen : (ta.size : Int) + tb.size + tc.size ≤ 300) (hok : ok3 ka na kb nb kc nc ta tb tc = false) :
    Calls Tryd.prog 3 #[.agg #[.int .i64 ka, .int .i64 na, .string ta], .agg #[.int .i64 kb, .int .i64 nb, .string tb], .agg #[.int .i64 kc, .int .i64 nc, .string tc]] w fun e w' => e = .returned (.bool true) ∧ Below w.heap.size w w' := by
  have HT := mkHid htab
  have HO := mkHid hok
  have HS : Hid (ta.size ≤ maxLen ∧ tb.size ≤ maxLen ∧ tc.size ≤ maxLen) := ⟨hta, htb, htc⟩
  clear htab hok
  unfold maxLen at hta htb htc
  go_enter Tryd.func3, Tryd.ntmps3
  go_wp2_with fail
  refine (ordered_any _ (HT.out.below ((((Below.refl _ _).alloc (Nat.le_refl _) _).alloc (by simp) _).alloc (by simp; omega) _))).mono ?_
  rintro e w1 ⟨rfl, hb1⟩
  have c00 : w1.cell? ⟨w.heap.size, 0, none⟩ = some (.int .i64 ka) := (hb1.cell (p := ⟨w.heap.size, 0, none⟩) (by simp; try omega)).trans (by go_simp)
  have c01 : w1.cell? ⟨w.heap.size, 1, none⟩ = some (.int .i64 na) := (hb1.cell (p := ⟨w.heap.size, 1, none⟩) (by simp; try omega)).trans (by go_simp)
  have c02 : w1.cell? ⟨w.heap.size, 2, none⟩ = some (.string ta) := (hb1.cell (p := ⟨w.heap.size, 2, none⟩) (by simp; try omega)).trans (by go_simp)
  have c10 : w1.cell? ⟨w.heap.size + 1, 0, none⟩ = some (.int .i64 kb) := (hb1.cell (p := ⟨w.heap.size + 1, 0, none⟩) (by simp; try omega)).trans (by go_simp)
  have c11 : w1.cell? ⟨w.heap.size + 1, 1, none⟩ = some (.int .i64 nb) := (hb1.cell (p := ⟨w.heap.size + 1, 1, none⟩) (by simp; try omega)).trans (by go_simp)
  have c12 : w1.cell? ⟨w.heap.size + 1, 2, none⟩ = some (.string tb) := (hb1.cell (p := ⟨w.heap.size + 1, 2, none⟩) (by simp; try omega)).trans (by go_simp)
  have c20 : w1.cell? ⟨w.heap.size + 1 + 1, 0, none⟩ = some (.int .i64 kc) := (hb1.cell (p := ⟨w.heap.size + 1 + 1, 0, none⟩) (by simp; try omega)).trans (by go_simp)
  have c21 : w1.cell? ⟨w.heap.size + 1 + 1, 1, none⟩ = some (.int .i64 nc) := (hb1.cell (p := ⟨w.heap.size + 1 + 1, 1, none⟩) (by simp; try omega)).trans (by go_simp)
  have c22 : w1.cell? ⟨w.heap.size + 1 + 1, 2, none⟩ = some (.string tc) := (hb1.cell (p := ⟨w.heap.size + 1 + 1, 2, none⟩) (by simp; try omega)).trans (by go_simp)
  have B1 : Hid (Below w.heap.size w w1) := (((((Below.refl _ w).alloc (Nat.le_refl _) _).alloc (by simp) _).alloc (by simp; omega) _)).trans (hb1.mono (by simp; omega))
  clear hb1
  go_wp2_with fail
  refine (right3_any ka na kb nb kc nc ta tb tc w1 HS.out.1 HS.out.2.1 HS.out.2.2).mono ?_
  rw [HO.out]
  rintro e w2 ⟨rfl, hb2⟩
  have hb2' : Hid (Below w1.heap.size w1 w2) := ((Below.refl _ _).alloc (Nat.le_refl _) _).trans (hb2.mono (by omega))
  clear hb2
  go_wp2
  go_ret
  exact ⟨rfl, Below.up B1.out hb2'.out⟩

theorem ne_bytes {a b : ByteArray} (h : ¬ a = b) : (a.toList == b.toList) = false := by
  apply Bool.eq_false_iff.mpr
  intro hh
  simp [ByteArray.toList_eq] at hh
  exact h (ByteArray.ext hh)

theorem valueOrder_any (ka na kb nb kc nc : Int) (ta tb tc : ByteArray) (w : World) (hta : ta.size ≤ 2 ^ 48) (htb : tb.size ≤ 2 ^ 48) (htc : tc.size ≤ 2 ^ 48) (htab : TabB w)
    (ha0 : -9223372036854775808 ≤ na) (ha1 : na ≤ 9223372036854775807) (hb0 : -9223372036854775808 ≤ nb) (hb1 : nb ≤ 9223372036854775807) :
    Calls Tryd.prog 3 #[.agg #[.int .i64 ka, .int .i64 na, .string ta], .agg #[.int .i64 kb, .int .i64 nb, .string tb], .agg #[.int .i64 kc, .int .i64 nc, .string tc]] w fun e w' => e = .returned (.bool true) ∧ Below w.heap.size w w' := by
  by_cases hlen : (300 : Int) < (ta.size : Int) + tb.size + tc.size
  · exact vo_long ka na kb nb kc nc ta tb tc w hta htb htc hlen
  have hl : (ta.size : Int) + tb.size + tc.size ≤ 300 := by omega
  have la : ta.size ≤ maxLen := by unfold maxLen; omega
  have lb : tb.size ≤ maxLen := by unfold maxLen; omega
  have lc : tc.size ≤ maxLen := by unfold maxLen; omega
  cases hok : ok3 ka na kb nb kc nc ta tb tc with
  | false => exact vo_wrong ka na kb nb kc nc ta tb tc w la lb lc htab hl hok
  | true =>
    have ra : rightV ka na ta = true := by simp [ok3, okV] at hok; exact hok.1.1.2
    have rb : rightV kb nb tb = true := by simp [ok3, okV] at hok; exact hok.1.2.2
    have hpa : ∀ W, TabB W → Calls Tryd.prog 10 #[.agg #[.int .i64 ka, .int .i64 na, .string ta]] W fun e w' => e = .returned (.string (printV ka na ta)) ∧ Below W.heap.size W w' := fun W h => print_any ka na ta W (by omega) ha0 ha1 h
    have hpb : ∀ W, TabB W → Calls Tryd.prog 10 #[.agg #[.int .i64 kb, .int .i64 nb, .string tb]] W fun e w' => e = .returned (.string (printV kb nb tb)) ∧ Below W.heap.size W w' := fun W h => print_any kb nb tb W (by omega) hb0 hb1 h
    have gab := cmpV_range ka na ta kb nb tb
    have gbc := cmpV_range kb nb tb kc nc tc
    have gac := cmpV_range ka na ta kc nc tc
    have hba := cmpV_swap ka na ta kb nb tb
    by_cases hm0 : cmpV ka na ta kb nb tb = 0
    · obtain ⟨rfl, rfl, rfl⟩ := (cmpV_zero ..).1 hm0
      by_cases hn0 : cmpV ka na ta kc nc tc = 0
      · exact vo_same ka na ka na kc nc ta ta tc w la lb lc htab hl hok hm0 hm0 hn0 hn0 (eqV_true ka na ta) _ hpa hpa
      · exact vo_two ka na ka na kc nc _ ta ta tc w la lb lc htab hl hok (by omega) (by omega) hm0 hm0 rfl rfl (by simp; exact fun hh => hn0 hh.symm) (eqV_true ka na ta) _ hpa hpa
    · have hne : ¬ (ka = kb ∧ na = nb ∧ ta = tb) := fun hh => hm0 ((cmpV_zero ..).2 hh)
      have hpp := ne_bytes (fun hh => hne (print_inj ra rb hh))
      by_cases hmn : cmpV ka na ta kb nb tb = cmpV kb nb tb kc nc tc
      · exact vo_row ka na kb nb kc nc _ ta tb tc w la lb lc htab hl hok (by omega) (by omega) rfl hba hmn.symm (cmpV_trans ka na ta kb nb tb kc nc tc _ rfl hmn.symm) (by simpa using hm0) (eqV_false hne) _ _ hpp hpa hpb
      · exact vo_turn ka na kb nb kc nc _ _ _ ta tb tc w la lb lc htab hl hok (by omega) (by omega) (by omega) (by omega) (by omega) (by omega) rfl hba rfl rfl (by simpa using hmn) (by simpa using hm0) (eqV_false hne) _ _ hpp hpa hpb
end Go.Proofs.YtmghdphafepifaaDoor
