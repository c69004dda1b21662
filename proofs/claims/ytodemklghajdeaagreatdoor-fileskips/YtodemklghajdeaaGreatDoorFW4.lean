/- Rows that are being built, one value behind the other: how they lie. -/
import Derived.Test.YtodemklghajdeaaGreatDoorFW3
namespace Go.Proofs.YtodemklghajdeaaGreatDoor
open Go.RowKit Go.Proofs Go.Shelf Go.Joins

/-- Rows L lie by the slices vs, which lie in block R; no two have one block. -/
structure RI (B R : Nat) (W : World) (vs : List Value) (L : List (List V)) : Prop where
  len : vs.length = L.length
  row : W.ownsRow B 57 1 (.slice (some ⟨R, 0, none⟩) L.length L.length) L.length vs
  each : ∀ (i : Nat) v l, vs[i]? = some v → L[i]? = some l → W.ownsRow B 45 3 v l.length (E.flatV l)
  dis : ∀ (i j : Nat) v u, i ≠ j → vs[i]? = some v → vs[j]? = some u → ∀ q, v.ownBlock = some q → u.ownBlock ≠ some q
theorem RI.kept {B R : Nat} {W W' : World} {vs : List Value} {L : List (List V)} (h : RI B R W vs L) (hb : Below W.heap.size W W') : RI B R W' vs L :=
  ⟨h.len, E.ownsRow_up h.row hb, fun i v l hv hl => E.ownsRow_up (h.each i v l hv hl) hb, h.dis⟩
theorem RI.slots {B R : Nat} {W : World} {vs : List Value} {L : List (List V)} (h : RI B R W vs L) {i : Nat} {v : Value} {l : List V} (hv : vs[i]? = some v) (hl : L[i]? = some l) : W.cell? ⟨R, i, none⟩ = some v ∧ W.frozen? ⟨R, i, none⟩ = false ∧ R < W.heap.size ∧ B ≤ R ∧ ∃ a c, v = .slice a l.length c := by
  have hi := lt_of_some hl
  refine ⟨(h.row.cellAt i (by omega)).trans hv, h.row.frozenAt i, (h.row.lt R rfl).2, (h.row.lt R rfl).1, ?_⟩
  obtain ⟨a, c, e, _⟩ := E.ownsRow_slice (h.each i v l hv hl)
  exact ⟨a, c, e⟩
theorem RI.ne {B R : Nat} {W : World} {vs : List Value} {L : List (List V)} (h : RI B R W vs L) {i : Nat} {v : Value} {l : List V} (hv : vs[i]? = some v) (hl : L[i]? = some l) : some R ≠ v.ownBlock := by
  intro e
  rcases (h.each i v l hv hl).2 with ⟨rfl, _⟩ | ⟨g, cap, cur, rfl, _, hh, _⟩
  · cases e
  · injection e with e
    subst e
    rcases h.row.2 with ⟨h', _⟩ | ⟨g', cap', cur', h', _, hh', _⟩
    · cases h'
    · injection h' with h1 _ _
      injection h1 with h1
      injection h1 with h1 _ _
      subst h1
      rw [hh] at hh'
      injection hh' with hh'
      injection hh' with _ hh' _
      exact absurd hh' (by decide)
theorem RI.step {B R : Nat} {W W' : World} {vs : List Value} {L : List (List V)} (h : RI B R W vs L) {i : Nat} {v : Value} {l : List V} {x : V} (hv : vs[i]? = some v) (hl : L[i]? = some l) {g cap : Nat}
    (ho : W'.ownsRow B 45 3 (.slice (some ⟨g, 0, none⟩) (l.length + 1) cap) (l.length + 1) (E.flatV l ++ E.flatV [x])) (hg : W.grownBy W' v.ownBlock) (hat : v.ownBlock = some g ∨ W.heap.size ≤ g) :
    RI B R (W'.setCell ⟨R, i, none⟩ (.slice (some ⟨g, 0, none⟩) (l.length + 1) cap)) (vs.set i (.slice (some ⟨g, 0, none⟩) (l.length + 1) cap)) (L.set i (l ++ [x])) := by
  have hi := lt_of_some hl
  have hrow' : W'.ownsRow B 57 1 (.slice (some ⟨R, 0, none⟩) L.length L.length) L.length vs := E.ownsRow_other h.row (h.each i v l hv hl) (by decide) hg
  obtain ⟨s1, s2⟩ := hrow'.stored i (.slice (some ⟨g, 0, none⟩) (l.length + 1) cap)
  have own : (Value.slice (some ⟨g, 0, none⟩) (l.length + 1) cap).ownBlock = some g := rfl
  refine ⟨by simp [h.len], by rw [List.length_set]; exact s1, fun j u m hu hm => ?_, fun j j' u u' hne hu hu' q hq => ?_⟩
  · by_cases e : j = i
    · subst e
      rw [List.getElem?_set_self (by rw [h.len]; exact hi)] at hu
      rw [List.getElem?_set_self hi] at hm
      injection hu with hu
      injection hm with hm
      subst hu hm
      rw [List.length_append, List.length_singleton, E.flatV_app]
      exact E.ownsRow_other ho hrow' (by decide) s2
    · rw [List.getElem?_set_ne (fun x => e x.symm)] at hu hm
      have h1 := h.each j u m hu hm
      have h2 : W'.ownsRow B 45 3 u m.length (E.flatV m) := by
        refine h1.kept hg ?_
        cases hub : u.ownBlock with
        | none => exact .inl rfl
        | some q => exact .inr (fun x => h.dis j i u v e hu hv q hub x.symm)
      exact E.ownsRow_other h2 hrow' (by decide) s2
  · by_cases e : j = i
    · subst e
      rw [List.getElem?_set_self (by rw [h.len]; exact hi)] at hu
      rw [List.getElem?_set_ne hne] at hu'
      injection hu with hu
      subst hu
      rw [own] at hq
      injection hq with hq
      subst hq
      rcases hat with ha | ha
      · exact h.dis j j' v u' hne hv hu' g ha
      · intro hx
        have hj' := lt_of_some hu'
        obtain ⟨m, hm⟩ : ∃ m, L[j']? = some m := ⟨_, List.getElem?_eq_getElem (by rw [← h.len]; exact hj')⟩
        have := ((h.each j' u' m hu' hm).lt g hx).2
        omega
    · rw [List.getElem?_set_ne (fun x => e x.symm)] at hu
      by_cases e' : j' = i
      · subst e'
        rw [List.getElem?_set_self (by rw [h.len]; exact hi)] at hu'
        injection hu' with hu'
        subst hu'
        rw [own]
        intro hx
        injection hx with hx
        subst hx
        rcases hat with ha | ha
        · exact h.dis j j' u v hne hu hv g hq ha
        · obtain ⟨m, hm⟩ : ∃ m, L[j]? = some m := ⟨_, List.getElem?_eq_getElem (by rw [← h.len]; exact lt_of_some hu)⟩
          have := ((h.each j u m hu hm).lt g hq).2
          omega
      · rw [List.getElem?_set_ne (fun x => e' x.symm)] at hu'
        exact h.dis j j' u u' hne hu hu' q hq
theorem flatR (vs : List Value) : vs.flatMap encR = vs := by
  induction vs with
  | nil => rfl
  | cons v vs ih => rw [List.flatMap_cons, ih]; rfl
theorem RI.rows {B R : Nat} {W : World} {vs : List Value} {L : List (List V)} (h : RI B R W vs L) : SlR W (.slice (some ⟨R, 0, none⟩) L.length L.length) L := by
  refine ⟨vs, ?_, h.len, fun j x r hx hr => E.Sl_of_owns (h.each j x r hx hr)⟩
  have hr := h.row
  rw [← flatR vs] at hr
  exact SlE.of_own (k := 1) (enc := encR) (fun _ => rfl) hr h.len.symm
/-- Rows in memory of somebody's own: the row of slices from base B on, each a row of values. -/
def SlO (B : Nat) (w : World) (v : Value) (rows : List (List V)) : Prop := ∃ vs : List Value, vs.length = rows.length ∧ w.ownsRow B 57 1 v rows.length vs ∧ ∀ (j : Nat) x r, vs[j]? = some x → rows[j]? = some r → w.ownsRow 0 45 3 x r.length (E.flatV r)
theorem SlO.up {B : Nat} {w W : World} {v : Value} {rows : List (List V)} (h : SlO B w v rows) (hb : Below w.heap.size w W) : SlO B W v rows := by
  obtain ⟨vs, h1, h2, h3⟩ := h
  exact ⟨vs, h1, E.ownsRow_up h2 hb, fun j x r hx hr => E.ownsRow_up (h3 j x r hx hr) hb⟩
theorem SlO.slr {B : Nat} {w : World} {v : Value} {rows : List (List V)} (h : SlO B w v rows) : SlR w v rows := by
  obtain ⟨vs, h1, h2, h3⟩ := h
  refine ⟨vs, ?_, h1, fun j x r hx hr => E.Sl_of_owns (h3 j x r hx hr)⟩
  rw [← flatR vs] at h2
  exact SlE.of_own (k := 1) (enc := encR) (fun _ => rfl) h2 h1.symm
theorem SlO.one {B : Nat} {w : World} {rows : List (List V)} {vs : List Value} (h1 : vs.length = rows.length) (h3 : ∀ (j : Nat) x r, vs[j]? = some x → rows[j]? = some r → w.ownsRow B 45 3 x r.length (E.flatV r)) : ∀ u ∈ vs, u.oneCell' = true := by
  intro u hu
  obtain ⟨j, hj, rfl⟩ := List.getElem_of_mem hu
  obtain ⟨a, c, e, _⟩ := E.ownsRow_slice (h3 j _ _ (List.getElem?_eq_getElem hj) (List.getElem?_eq_getElem (by omega)))
  rw [e]; rfl
theorem RI.owned {B R : Nat} {W : World} {vs : List Value} {L : List (List V)} (h : RI B R W vs L) : SlO 0 W (.slice (some ⟨R, 0, none⟩) L.length L.length) L :=
  ⟨vs, h.len, E.ownsRow_base h.row (Nat.zero_le _), fun j x r hx hr => E.ownsRow_base (h.each j x r hx hr) (Nat.zero_le _)⟩
/-- Rows behind rows. -/
theorem SlO.app {B : Nat} {w w' : World} {v v' : Value} {a b : List (List V)} {vs us : List Value} (h1 : vs.length = a.length) (h2 : us.length = b.length)
    (ho : w.ownsRow B 57 1 v a.length vs) (hva : ∀ (j : Nat) x r, vs[j]? = some x → a[j]? = some r → w.ownsRow 0 45 3 x r.length (E.flatV r)) (hub : ∀ (j : Nat) x r, us[j]? = some x → b[j]? = some r → w.ownsRow 0 45 3 x r.length (E.flatV r))
    (ho' : w'.ownsRow B 57 1 v' (a.length + b.length) (vs ++ us)) (hg : w.grownBy w' v.ownBlock) : SlO B w' v' (a ++ b) := by
  refine ⟨vs ++ us, by simp [h1, h2], by rw [List.length_append]; exact ho', fun j x r hx hr => ?_⟩
  by_cases hj : j < a.length
  · rw [List.getElem?_append_left (by omega)] at hx
    rw [List.getElem?_append_left hj] at hr
    exact E.ownsRow_other (hva j x r hx hr) ho (by decide) hg
  · rw [List.getElem?_append_right (by omega), h1] at hx
    rw [List.getElem?_append_right (by omega)] at hr
    exact E.ownsRow_other (hub _ x r hx hr) ho (by decide) hg
theorem SlO_nil (B : Nat) (w : World) : SlO B w (.slice none 0 0) [] := ⟨[], rfl, World.ownsRow_nil _ _ _ _, fun j x r hx => by simp at hx⟩
/-- The first i rows have one column more. -/
def mixR (vals : Col → List V) (now : List Col) (n j i : Nat) : List (List V) := (List.range n).map fun m => (now.take (if m < i then j + 1 else j)).map fun c => (vals c)[m]?.getD zV
theorem mixR_len (vals : Col → List V) (now : List Col) (n j i : Nat) : (mixR vals now n j i).length = n := by simp [mixR]
theorem mixR_zero (vals : Col → List V) (now : List Col) (n : Nat) : mixR vals now n 0 0 = List.replicate n [] := by
  rw [List.eq_replicate_iff]
  refine ⟨mixR_len _ _ _ _ _, fun b hb => ?_⟩
  simp only [mixR, List.mem_map] at hb
  obtain ⟨m, _, rfl⟩ := hb
  simp
theorem mixR_next (vals : Col → List V) (now : List Col) (n j : Nat) : mixR vals now n j n = mixR vals now n (j + 1) 0 := by
  unfold mixR
  apply List.map_congr_left
  intro m hm
  rw [List.mem_range] at hm
  simp [hm]
theorem mixR_at (vals : Col → List V) (now : List Col) {n j i : Nat} (hi : i < n) : (mixR vals now n j i)[i]? = some ((now.take j).map fun c => (vals c)[i]?.getD zV) := by
  simp [mixR, hi]
theorem mixR_set (vals : Col → List V) {now : List Col} {n j i : Nat} {c : Col} {x : V} (hi : i < n) (hc : now[j]? = some c) (hx : (vals c)[i]? = some x) :
    (mixR vals now n j i).set i (((now.take j).map fun c => (vals c)[i]?.getD zV) ++ [x]) = mixR vals now n j (i + 1) := by
  apply List.ext_getElem?
  intro m
  by_cases hm : m < n
  · by_cases e : m = i
    · subst e
      rw [List.getElem?_set_self (by rw [mixR_len]; exact hi)]
      simp only [mixR, List.getElem?_map, List.getElem?_range hm, Option.map_some, Nat.lt_succ_self, if_true]
      rw [E.take_next hc]
      simp [hx]
    · rw [List.getElem?_set_ne (fun y => e y.symm)]
      simp only [mixR, List.getElem?_map, List.getElem?_range hm, Option.map_some]
      congr 2
      by_cases h : m < i
      · rw [if_pos h, if_pos (by omega)]
      · rw [if_neg h, if_neg (by omega)]
  · rw [List.getElem?_eq_none (by rw [List.length_set, mixR_len]; omega), List.getElem?_eq_none (by rw [mixR_len]; omega)]
theorem mixR_all (cols : List Col) (g : Grp) (now : List Col) : mixR (valsOf cols g) now g.1 now.length 0 = rowsBy cols g now := by
  unfold mixR rowsBy
  simp
theorem RI_made {B R n : Nat} {W : World} (h : W.ownsRow B 57 1 (.slice (some ⟨R, 0, none⟩) n n) n (List.replicate n (.slice none 0 0))) : RI B R W (List.replicate n (.slice none 0 0)) (List.replicate n []) := by
  refine ⟨by simp, by rw [List.length_replicate]; exact h, fun i v l hv hl => ?_, fun i j v u _ hv _ q hq => ?_⟩
  · have e1 : v = .slice none 0 0 := List.eq_of_mem_replicate (List.mem_of_getElem? hv)
    have e2 : l = [] := List.eq_of_mem_replicate (List.mem_of_getElem? hl)
    subst e1 e2
    exact World.ownsRow_nil _ _ _ _
  · have e1 : v = .slice none 0 0 := List.eq_of_mem_replicate (List.mem_of_getElem? hv)
    subst e1
    cases hq
end Go.Proofs.YtodemklghajdeaaGreatDoor
