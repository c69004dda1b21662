/- What a change makes of columns; how the law's own map of kinds goes with them. -/
import Derived.Test.YtjghcilcmmlobaaDoorSh
import Derived.Maps.OwnSet
namespace Go.Proofs.YtjghcilcmmlobaaDoor
open Go.RowKit Go.Proofs Go.Lib Go.Joins Go.Maps

theorem law3 : Keyed Tryd.prog 3 := int_keyed Tryd.underlying3
theorem zero3 (w : World) : (zeroValue 3).run Tryd.prog w = .ok (.int .i64 0) w := by kernel_rfl

/-- What becomes of columns by one change. -/
def Trans (l : List Col) (next : Int) (l' : List Col) (next' : Int) : Prop :=
  (next' = next ∧ ∀ j, j < l'.length → ∃ i, i < l.length ∧ l'[j]!.1 = l[i]!.1 ∧ l'[j]!.2.2.1 = l[i]!.2.2.1) ∨ (next' = next + 1 ∧ ∃ c : Col, c.1 = next ∧ l' = l ++ [c])

/-- The map of kinds: of each column it has the kind, or not yet, and then its number is the newest; of the first k it has it; of no number from next on. -/
def KMap (w : World) (B n : Nat) (l : List Col) (next : Int) (k : Nat) : Prop :=
  ∃ D : DataW Unit, w.ownsMap Tryd.prog 3 (plainElem Tryd.prog 3) B n D ∧
    (∀ j, j < l.length → (Maps.has D (.int .i64 l[j]!.1) = true → D.atKey (.int .i64 l[j]!.1) (.lit (.int .i64 0)) = .lit (.int .i64 l[j]!.2.2.1)) ∧ (Maps.has D (.int .i64 l[j]!.1) = false → l[j]!.1 = next - 1)) ∧
    (∀ j, j < k → Maps.has D (.int .i64 l[j]!.1) = true) ∧ (∀ x, next ≤ x → Maps.has D (.int .i64 x) = false)

theorem KMap.below {w W : World} {B n : Nat} {l : List Col} {next : Int} {k : Nat} (h : KMap w B n l next k) (hb : Below w.heap.size w W) : KMap W B n l next k := by
  obtain ⟨D, hown, r⟩ := h
  have hlt := hown.lt
  obtain ⟨es, clock, hB, q⟩ := hown
  exact ⟨D, ⟨es, clock, (hb.block B hlt).trans hB, q⟩, r⟩

theorem getElem!_append_lt {l : List Col} {c : Col} {j : Nat} (h : j < l.length) : (l ++ [c])[j]! = l[j]! := by
  rw [List.getElem!_eq_getElem?_getD, List.getElem!_eq_getElem?_getD, List.getElem?_append_left h]
theorem getElem!_append_eq {l : List Col} {c : Col} : (l ++ [c])[l.length]! = c := by
  simp

theorem KMap.change {w : World} {B n : Nat} {l l' : List Col} {next next' : Int} (h : KMap w B n l next l.length) (ht : Trans l next l' next') : KMap w B n l' next' 0 := by
  obtain ⟨D, hown, h1, h2, h3⟩ := h
  rcases ht with ⟨rfl, ht⟩ | ⟨rfl, c, hc, rfl⟩
  · refine ⟨D, hown, fun j hj => ?_, fun j hj => absurd hj (Nat.not_lt_zero _), h3⟩
    obtain ⟨i, hi, e1, e2⟩ := ht j hj
    rw [e1, e2]
    exact h1 i hi
  · refine ⟨D, hown, fun j hj => ?_, fun j hj => absurd hj (Nat.not_lt_zero _), fun x hx => h3 x (by omega)⟩
    have hj' : j < l.length + 1 := by simpa using hj
    by_cases e : j < l.length
    · rw [getElem!_append_lt e]
      refine ⟨(h1 j e).1, fun hf => ?_⟩
      rw [h2 j e] at hf; cases hf
    · have : j = l.length := by omega
      subst this
      rw [getElem!_append_eq]
      refine ⟨fun hf => ?_, fun _ => by omega⟩
      rw [hc, h3 _ (Int.le_refl _)] at hf; cases hf

theorem key_ne {a b : Int} (h : a ≠ b) : (Lit.int .i64 a) ≠ (Lit.int .i64 b) := fun e => h (by injection e)

theorem KMap.put {w' : World} {B n : Nat} {l : List Col} {next : Int} {k : Nat} {D : DataW Unit} (hk : k < l.length) (hap : l.Pairwise Apart) (hlt : l[k]!.1 < next) (hm : IsMap D)
    (hown : w'.ownsMap Tryd.prog 3 (plainElem Tryd.prog 3) B (n + 1) (D.put (.int .i64 l[k]!.1) (.lit (.int .i64 l[k]!.2.2.1))))
    (h1 : ∀ j, j < l.length → (Maps.has D (.int .i64 l[j]!.1) = true → D.atKey (.int .i64 l[j]!.1) (.lit (.int .i64 0)) = .lit (.int .i64 l[j]!.2.2.1)) ∧ (Maps.has D (.int .i64 l[j]!.1) = false → l[j]!.1 = next - 1))
    (h2 : ∀ j, j < k → Maps.has D (.int .i64 l[j]!.1) = true) (h3 : ∀ x, next ≤ x → Maps.has D (.int .i64 x) = false) : KMap w' B (n + 1) l next (k + 1) := by
  refine ⟨_, hown, fun j hj => ?_, fun j hj => ?_, fun x hx => ?_⟩
  · by_cases e : j = k
    · subst e
      exact ⟨fun _ => atKey_put_same (k := .int .i64 l[j]!.1) hm (by exact trivial) _ _, fun hf => by rw [has_put_same (k := .int .i64 l[j]!.1) hm (by exact trivial)] at hf; cases hf⟩
    · have hne := key_ne (apart_at hap hj hk e).1
      rw [has_put_other hne, atKey_put_other hne]
      exact h1 j hj
  · by_cases e : j = k
    · subst e; exact has_put_same (k := .int .i64 l[j]!.1) hm (by exact trivial) _
    · have hne := key_ne (apart_at hap (by omega) hk e).1
      rw [has_put_other hne]
      exact h2 j (by omega)
  · rw [has_put_other (key_ne (by omega))]
    exact h3 x hx

/-- The law's own first entry of the map of kinds. -/
theorem wpList_first {ops : Array Oper} {rest : List Oper} {o : Oper} {a : Act} {Q : Exit → Act → World → Prop} {W : World} (hg : o.guard = none) (m : Operand)
    (hop : o.op = .insert 56 m (.const (.int .i64 1)) (.const (.int .i64 1))) (B : Nat) (hm : a.eval m = .map (some B)) (hown : W.ownsMap Tryd.prog 3 (plainElem (H := Unit) Tryd.prog 3) B 0 (.map []))
    (h : ∀ w', w'.ownsMap Tryd.prog 3 (plainElem (H := Unit) Tryd.prog 3) B (0 + 1) (DataW.put (.map []) (.int .i64 1) (.lit (.int .i64 1))) → W.grownBy w' (some B) → wpList Tryd.prog ops Q rest (a.put o.dst undef) w') : wpList Tryd.prog ops Q (o :: rest) a W := by
  refine wpList_plain hg fun K' hK' => ?_
  obtain ⟨w', hrun, r1, r2⟩ := hown.update law3 Tryd.underlying56 (by unfold maxLen; omega) (keyOf_int_mk (a := 1) Tryd.underlying3 (by decide)) (plainElem_int (a := 1) Tryd.underlying3 (by decide))
  have hc : a.eval (.const (.int .i64 1)) = .int .i64 1 := rfl
  unfold Oper.wp
  simp only [execOp, hop, hm, hc]
  simp [hrun, Result.andThen]
  exact hK' _ _ (h w' r1 r2)
end Go.Proofs.YtjghcilcmmlobaaDoor
