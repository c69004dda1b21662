/- What read hands back, as Print takes it. -/
import Derived.Test.YtfppidnfomelpaaGreatDoorRL
namespace Go.Proofs.YtfppidnfomelpaaGreatDoor
open Go.RowKit Go.Proofs Go.Lib Go.Joins

theorem flat_at {α : Type} [Inhabited α] {k : Nat} {en : α → List Value} (hlen : ∀ x, (en x).length = k) : ∀ (l : List α) (j : Nat), j < l.length → ∀ (i : Nat), i < k → (l.flatMap en)[j * k + i]? = (en l[j]!)[i]?
  | [], j, hj, _, _ => by cases hj
  | x :: l, 0, _, i, hi => by
    rw [List.flatMap_cons, Nat.zero_mul, Nat.zero_add, List.getElem?_append_left (by rw [hlen]; exact hi)]
    rfl
  | x :: l, j + 1, hj, i, hi => by
    have e : (j + 1) * k + i = k + (j * k + i) := by rw [Nat.succ_mul]; omega
    rw [List.flatMap_cons, e, List.getElem?_append_right (by rw [hlen]; omega), hlen, Nat.add_sub_cancel_left]
    simp only [List.length_cons] at hj
    rw [flat_at hlen l j (by omega) i hi]
    rfl
theorem own_lies {α : Type} [Inhabited α] {k : Nat} {en : α → List Value} (hlen : ∀ x, (en x).length = k) {w : World} {base : Nat} {T : TypeId} {v : Value} {l : List α} (h : w.ownsRow base T k v l.length (l.flatMap en)) : Lies k en w v l := by
  rcases own_forms h with ⟨e, e0⟩ | ⟨g, c, e, _, hg, hc, _⟩
  · exact .inl ⟨⟨_, _, e⟩, List.length_eq_zero_iff.1 e0⟩
  · subst e
    refine .inr ⟨g, 0, c, rfl, hc, hg, fun j hj i u hu => ?_⟩
    have hi : i < k := by
      rcases Nat.lt_or_ge i k with h' | h'
      · exact h'
      · rw [List.getElem?_eq_none (by rw [hlen]; exact h')] at hu; cases hu
    have hb : j * k + i < l.length * k := by
      have : (j + 1) * k ≤ l.length * k := Nat.mul_le_mul_right k hj
      rw [Nat.succ_mul] at this
      omega
    rw [Nat.zero_add, h.cellAt (j * k + i) hb, flat_at hlen l j hj i hi, hu]
/-- The bounds that Print asks of an action. -/
structure Fine (a : Actn) : Prop where
  path : a.2.1.size ≤ maxLen
  few : a.2.2.2.1.length ≤ 600000
  texts : ∀ x ∈ a.2.2.2.2.1, x.2.1.size ≤ maxLen ∧ x.2.2.2.2.2.2.size ≤ maxLen
theorem acts_own {w : World} {base : Nat} {v : Value} {L : List ActQ} (h : w.ownsRow base 62 6 v L.length (cellsQ L)) (hq : ∀ q ∈ L, OwnQ base w q) (hf : ∀ q ∈ L, Fine q.1) : ActsAt w v (L.map (·.1)) := by
  rcases own_lies (k := 6) (en := encQ) (fun _ => rfl) h with ⟨h1, h2⟩ | ⟨g, o, c, e, hc, hg, hcell⟩
  · exact .inl ⟨h1, by rw [h2]; rfl⟩
  · refine .inr ⟨g, o, c, by rw [List.length_map]; exact e, by rw [List.length_map]; exact hc, hg, fun j hj => ?_⟩
    rw [List.length_map] at hj
    have hm : L[j]! ∈ L := by rw [getElem!_pos L j hj]; exact List.getElem_mem hj
    have he : (L.map (·.1))[j]! = L[j]!.1 := by
      rw [getElem!_pos _ j (by rw [List.length_map]; exact hj), List.getElem_map, getElem!_pos L j hj]
    rw [he]
    have f := hf _ hm
    refine ⟨_, _, _, _, _, _, ⟨LiI.of_own (hq _ hm).1, ?_, f.path, f.few, f.texts⟩, hcell j hj 0 _ rfl, hcell j hj 1 _ rfl, hcell j hj 2 _ rfl, hcell j hj 3 _ rfl, hcell j hj 4 _ rfl, hcell j hj 5 _ rfl⟩
    exact lies_col (own_lies (k := 7) (en := encC) (fun _ => rfl) (hq _ hm).2)
end Go.Proofs.YtfppidnfomelpaaGreatDoor
