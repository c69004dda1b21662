/- What the parts of millpondkeep.ValueOrder do: the sign of an order, right at three values, the equality of two values, and Is where it tells a number. -/
import Derived.Test.YtmghdphafepifaaDoorW3
import Derived.Test.YtmghdphafepifaaDoorM2
import Derived.Lib.QuietBelow
import Derived.BigQuiet
import Derived.Deep.RegionWith
namespace Go.Proofs.YtmghdphafepifaaDoor
open Go.RowKit Go.Proofs
open Go.Sort (grow)

theorem sgn_any (x : Int) (h1 : -1 ≤ x) (h2 : x ≤ 1) (W : World) : Calls Tryd.prog 8 #[.int .i64 x] W fun e w' => e = .returned (.int .i64 x) ∧ w' = W :=
  (sign_any x W).mono fun _ _ ⟨he, hb⟩ => ⟨he.trans (ret_int (by omega)), hb⟩

def K3 (x y z : Int) (j : Nat) : Int := if j = 0 then x else if j = 1 then y else z
def T3 (x y z : ByteArray) (j : Nat) : ByteArray := if j = 0 then x else if j = 1 then y else z
def ok3 (ka na kb nb kc nc : Int) (ta tb tc : ByteArray) : Bool := okV ka na ta && okV kb nb tb && okV kc nc tc
theorem right3_any (ka na kb nb kc nc : Int) (ta tb tc : ByteArray) (W : World) (hta : ta.size ≤ maxLen) (htb : tb.size ≤ maxLen) (htc : tc.size ≤ maxLen) :
    Calls Tryd.prog 7 #[.slice (some ⟨W.heap.size, 0, none⟩) 3 3] (W.alloc (.cells #[.int .i64 ka, .int .i64 na, .string ta, .int .i64 kb, .int .i64 nb, .string tb, .int .i64 kc, .int .i64 nc, .string tc] 23)) fun e w' => e = .returned (.bool (ok3 ka na kb nb kc nc ta tb tc)) ∧ Below (W.heap.size + 1) (W.alloc (.cells #[.int .i64 ka, .int .i64 na, .string ta, .int .i64 kb, .int .i64 nb, .string tb, .int .i64 kc, .int .i64 nc, .string tc] 23)) w' := by
  refine (right_any W.heap.size 3 (K3 ka kb kc) (K3 na nb nc) (T3 ta tb tc) _ (by omega) ?_ ?_ ?_ ?_ (by simp)).mono ?_
  · intro j; unfold T3; split
    · exact hta
    · split
      · exact htb
      · exact htc
  · intro j hj
    match j, hj with
    | 0, _ => rw [World.cell?_alloc_at _ _ _ _ rfl]; rfl
    | 1, _ => rw [World.cell?_alloc_at _ _ _ _ rfl]; rfl
    | 2, _ => rw [World.cell?_alloc_at _ _ _ _ rfl]; rfl
  · intro j hj
    match j, hj with
    | 0, _ => rw [World.cell?_alloc_at _ _ _ _ rfl]; rfl
    | 1, _ => rw [World.cell?_alloc_at _ _ _ _ rfl]; rfl
    | 2, _ => rw [World.cell?_alloc_at _ _ _ _ rfl]; rfl
  · intro j hj
    match j, hj with
    | 0, _ => rw [World.cell?_alloc_at _ _ _ _ rfl]; rfl
    | 1, _ => rw [World.cell?_alloc_at _ _ _ _ rfl]; rfl
    | 2, _ => rw [World.cell?_alloc_at _ _ _ _ rfl]; rfl
  · rintro e w' ⟨rfl, hb⟩
    exact ⟨ret_bool (by simp [ok3, okAll, K3, T3]), by simpa using hb⟩

theorem eqV_run (ka na kb nb : Int) (ta tb : ByteArray) (w : World) : (Op.equalIn 10000 23 (.agg #[.int .i64 ka, .int .i64 na, .string ta]) (.agg #[.int .i64 kb, .int .i64 nb, .string tb])).run Tryd.prog w = .ok (ka == kb && (na == nb && ta.toList == tb.toList)) w := by
  have hS : Tryd.prog.underlying 23 = some (.struct (Tryd.prog.fieldsOf 23)) := by kernel_rfl
  rw [show (10000 : Nat) = 9999 + 1 from rfl, run_equalIn_agg w 9999 23 _ _ hS (by kernel_rfl)]
  simp only [Program.fieldsOf, Tryd.underlying23]
  go_simp
  by_cases h1 : ka = kb <;> by_cases h2 : na = nb <;> by_cases h3 : ta.toList = tb.toList <;> simp [h1, h2, h3]
theorem eqV_false {ka na kb nb : Int} {ta tb : ByteArray} (h : ¬ (ka = kb ∧ na = nb ∧ ta = tb)) (w : World) : (Op.equalIn 10000 23 (.agg #[.int .i64 ka, .int .i64 na, .string ta]) (.agg #[.int .i64 kb, .int .i64 nb, .string tb])).run Tryd.prog w = .ok false w := by
  rw [eqV_run]
  congr 1
  apply Bool.eq_false_iff.mpr
  intro hh
  simp [ByteArray.toList_eq] at hh
  exact h ⟨hh.1, hh.2.1, ByteArray.ext hh.2.2⟩
theorem eqV_true (ka na : Int) (ta : ByteArray) (w : World) : (Op.equalIn 10000 23 (.agg #[.int .i64 ka, .int .i64 na, .string ta]) (.agg #[.int .i64 ka, .int .i64 na, .string ta])).run Tryd.prog w = .ok true w := by
  rw [eqV_run]; simp

theorem is_not (c k1 n1 k2 n2 : Int) (t1 t2 : ByteArray) (W : World) (hk : k1 = 0 ∨ ¬ k1 = k2) :
    Calls Tryd.prog 11 #[.int .i64 c, .agg #[.int .i64 k1, .int .i64 n1, .string t1], .agg #[.int .i64 k2, .int .i64 n2, .string t2]] W fun e w' => e = .returned (.int .i64 (-1)) ∧ Below W.heap.size W w' :=
  (is_any c k1 n1 k2 n2 t1 t2 W).mono fun _ _ ⟨he, hb⟩ => ⟨he.trans (ret_int (is0 hk).symm), hb⟩
theorem is_val {c k1 n1 k2 n2 m v : Int} {t1 t2 : ByteArray} (hc : cmpV k1 n1 t1 k2 n2 t2 = m) (hk : ¬ (k1 = 0 ∨ ¬ k1 = k2)) (hv : b2i (standsB c m) = v) (W : World) :
    Calls Tryd.prog 11 #[.int .i64 c, .agg #[.int .i64 k1, .int .i64 n1, .string t1], .agg #[.int .i64 k2, .int .i64 n2, .string t2]] W fun e w' => e = .returned (.int .i64 v) ∧ Below W.heap.size W w' :=
  (is_any c k1 n1 k2 n2 t1 t2 W).mono fun _ _ ⟨he, hb⟩ => ⟨he.trans (ret_int (by rw [← is1 hk, hc, hv])), hb⟩
end Go.Proofs.YtmghdphafepifaaDoor
