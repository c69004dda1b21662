/- Plain facts of trees that lie in memory and of a stack of them: how deep they are, and that they lie on when something else grows. -/
import Derived.Test.YtmghdphafepifaaDoorL2
import Derived.Deep.AppendLies
import Derived.Deep.RegionLawGrows
import Derived.Deep.RegionHeld3
namespace Go.Proofs.YtmghdphafepifaaDoor
open Go.RowKit Go.Proofs

def depthT : CT → Nat
  | .nil => 0
  | .node _ _ _ l r => 1 + max (depthT l) (depthT r)
theorem withinT_of_depth : ∀ (T : CT) (o : Nat), depthT T ≤ o + 1 → withinT T o = true
  | .nil, _, _ => rfl
  | .node _ _ _ l r, o, h => by
    simp only [depthT] at h
    have hl : withinT l ((o : Int) - 1) = true := by
      cases o with
      | zero =>
        have : depthT l = 0 := by omega
        cases l with
        | nil => rfl
        | node => simp [depthT] at this
      | succ o => rw [show ((o + 1 : Nat) : Int) - 1 = (o : Int) by omega]; exact withinT_of_depth l o (by omega)
    have hr : withinT r ((o : Int) - 1) = true := by
      cases o with
      | zero =>
        have : depthT r = 0 := by omega
        cases r with
        | nil => rfl
        | node => simp [depthT] at this
      | succ o => rw [show ((o + 1 : Nat) : Int) - 1 = (o : Int) by omega]; exact withinT_of_depth r o (by omega)
    simp [withinT, hl, hr]
theorem InC.grown {w w' : World} {row : Option Nat} (hg : w.grownBy w' row) (hrow : ∀ g, row = some g → ∃ cur, w.heap[g]? = some (.cells cur 32)) : ∀ {T : CT} {v : Value}, InC w T v → InC w' T v
  | .nil, _, h => h
  | .node _ _ ⟨_, _, _, _, _⟩ _ _, _, ⟨b, pl, pr, e, hh, hcd, hl, hr⟩ => ⟨b, pl, pr, e, by
      rw [hg.block b (by
        rcases Nat.lt_or_ge b w.heap.size with h' | h'
        · exact h'
        · rw [Array.getElem?_eq_none h'] at hh; cases hh) (fun e' => by
          obtain ⟨cur, hc⟩ := hrow b e'.symm
          rw [hh] at hc
          injection hc with hc
          injection hc with _ hc
          exact absurd hc (by decide))]
      exact hh, hcd, InC.grown hg hrow hl, InC.grown hg hrow hr⟩

/-- A stack of trees: its pointers lie in a row of the call's own. -/
structure Stack (w0 wr : World) (i : Nat) (v : Value) (n : Nat) (vs : List Value) (Ts : List CT) : Prop where
  own : wr.ownsRow w0.heap.size 32 1 v n vs
  len : Ts.length = n
  ins : ∀ (j : Nat) (T : CT) (u : Value), Ts[j]? = some T → vs[j]? = some u → InC wr T u ∧ 0 < depthT T
  dep : (Ts.map depthT).sum ≤ i
  bel : Below w0.heap.size w0 wr


theorem ownsRow_up {w W : World} {B e z n : Nat} {v : Value} {xs : List Value} (h : w.ownsRow B e z v n xs) (hb : Below w.heap.size w W) : W.ownsRow B e z v n xs := by
  refine ⟨h.1, ?_⟩
  rcases h.2 with h' | ⟨g, cap, cur, e1, e2, e3, e4⟩
  · exact .inl h'
  · refine .inr ⟨g, cap, cur, e1, e2, ?_, e4⟩
    rw [hb.block g (by
      rcases Nat.lt_or_ge g w.heap.size with h' | h'
      · exact h'
      · rw [Array.getElem?_eq_none h'] at e3; cases e3)]
    exact e3
theorem ownsRow_base {w : World} {B B' e z n : Nat} {v : Value} {xs : List Value} (h : w.ownsRow B e z v n xs) (hB : B' ≤ B) : w.ownsRow B' e z v n xs := by
  refine ⟨h.1, ?_⟩
  rcases h.2 with h' | ⟨g, cap, cur, e1, e2, e3⟩
  · exact .inl h'
  · exact .inr ⟨g, cap, cur, e1, Nat.le_trans hB e2, e3⟩
theorem ownsRow_slice {w : World} {B e z n : Nat} {v : Value} {xs : List Value} (h : w.ownsRow B e z v n xs) : ∃ ao cp, v = .slice ao n cp ∧ n ≤ cp ∧ cp ≤ maxLen := by
  rcases h.2 with ⟨rfl, rfl⟩ | ⟨g, cap, cur, e1, e2, e3, e4, e5, _⟩
  · exact ⟨none, 0, rfl, Nat.le_refl _, by unfold maxLen; omega⟩
  · exact ⟨_, _, e1, e4, e5⟩
theorem below_grown {w w' : World} (hg : w.grownBy w' none) : Below w.heap.size w w' :=
  ⟨hg.os, hg.tape, hg.output, hg.size, fun k hk => hg.block k hk (by simp)⟩

theorem sum_ge : ∀ (Ts : List CT), (∀ T ∈ Ts, 0 < depthT T) → Ts.length ≤ (Ts.map depthT).sum
  | [], _ => by simp
  | T :: Ts, h => by
    have h1 := h T (by simp)
    have h2 := sum_ge Ts (fun T' hT' => h T' (by simp [hT']))
    simp only [List.map_cons, List.sum_cons, List.length_cons]; omega
theorem Stack.vlen {w0 wr : World} {i : Nat} {v : Value} {n : Nat} {vs : List Value} {Ts : List CT} (h : Stack w0 wr i v n vs Ts) : vs.length = n := by
  have := h.own.1; omega
theorem Stack.pos {w0 wr : World} {i : Nat} {v : Value} {n : Nat} {vs : List Value} {Ts : List CT} (h : Stack w0 wr i v n vs Ts) : ∀ T ∈ Ts, 0 < depthT T := by
  intro T hT
  obtain ⟨j, hj, e⟩ := List.mem_iff_getElem.1 hT
  have hv : j < vs.length := by rw [h.vlen, ← h.len]; exact hj
  exact (h.ins j T vs[j] (by rw [List.getElem?_eq_getElem hj, e]) (List.getElem?_eq_getElem hv)).2
theorem Stack.n_le {w0 wr : World} {i : Nat} {v : Value} {n : Nat} {vs : List Value} {Ts : List CT} (h : Stack w0 wr i v n vs Ts) : n ≤ i := by
  have h1 := sum_ge Ts h.pos
  have h2 := h.dep
  have h3 := h.len
  omega
theorem Stack.up {w0 wr W : World} {i i' : Nat} {v : Value} {n : Nat} {vs : List Value} {Ts : List CT} (h : Stack w0 wr i v n vs Ts) (hb : Below wr.heap.size wr W) (hi : i ≤ i') : Stack w0 W i' v n vs Ts :=
  ⟨ownsRow_up h.own hb, h.len, fun j T u h1 h2 => ⟨(h.ins j T u h1 h2).1.up hb, (h.ins j T u h1 h2).2⟩, Nat.le_trans h.dep hi, Below.up h.bel hb⟩
theorem own_row {w : World} {B n : Nat} {v : Value} {xs : List Value} (h : w.ownsRow B 32 1 v n xs) : ∀ g, v.ownBlock = some g → ∃ cur, w.heap[g]? = some (.cells cur 32) := by
  intro g hg
  rcases h.2 with ⟨rfl, _⟩ | ⟨g', cap, cur, rfl, e2, e3, e4⟩
  · cases hg
  · cases hg; exact ⟨cur, e3⟩
theorem Stack.push {w0 wr w1 : World} {i : Nat} {v v' : Value} {n : Nat} {vs : List Value} {Ts : List CT} {T : CT} {u : Value} (h : Stack w0 wr i v n vs Ts) (hT : InC wr T u) (hd : depthT T = 1)
    (hg : wr.grownBy w1 v.ownBlock) (ho : w1.ownsRow w0.heap.size 32 1 v' (n + 1) (vs ++ [u])) : Stack w0 w1 (i + 1) v' (n + 1) (vs ++ [u]) (Ts ++ [T]) := by
  have hrow := own_row h.own
  refine ⟨ho, by simp [h.len], ?_, ?_, ?_⟩
  · intro j T' u' h1 h2
    have hl : Ts.length = vs.length := by rw [h.len, h.vlen]
    by_cases hj : j < Ts.length
    · rw [List.getElem?_append_left hj] at h1
      rw [List.getElem?_append_left (by omega)] at h2
      exact ⟨(h.ins j T' u' h1 h2).1.grown hg hrow, (h.ins j T' u' h1 h2).2⟩
    · rw [List.getElem?_append_right (by omega)] at h1
      rw [List.getElem?_append_right (by omega)] at h2
      have e : j - Ts.length = 0 := by
        rcases Nat.eq_zero_or_pos (j - Ts.length) with h0 | h0
        · exact h0
        · rw [List.getElem?_eq_none (by simp; omega)] at h1; cases h1
      rw [e] at h1
      rw [← hl, e] at h2
      simp at h1 h2
      subst h1 h2
      exact ⟨hT.grown hg hrow, by omega⟩
  · have := h.dep; simp; omega
  · exact Below.grown h.bel hg h.bel.size (fun k hk => (h.own.lt k hk).1)
theorem Stack.replace {w0 wr w1 : World} {i : Nat} {v v' : Value} {n : Nat} {vs : List Value} {Ts : List CT} {T : CT} {u : Value} (h : Stack w0 wr i v n vs Ts) (m : Nat) (hm : m ≤ n) (hT : InC wr T u) (hp : 0 < depthT T)
    (hd : ((Ts.take m).map depthT).sum + depthT T ≤ i + 1) (hg : wr.grownBy w1 none) (ho : w1.ownsRow wr.heap.size 32 1 v' (m + 1) (vs.take m ++ [u])) : Stack w0 w1 (i + 1) v' (m + 1) (vs.take m ++ [u]) (Ts.take m ++ [T]) := by
  have hb := below_grown hg
  have hl : (Ts.take m).length = m := by simp [h.len]; omega
  have hv : (vs.take m).length = m := by simp [h.vlen]; omega
  refine ⟨ownsRow_base ho h.bel.size, by simp [h.len]; omega, ?_, by rw [List.map_append, List.sum_append]; simp only [List.map_cons, List.map_nil, List.sum_cons, List.sum_nil]; omega, Below.up h.bel hb⟩
  intro j T' u' h1 h2
  by_cases hj : j < m
  · rw [List.getElem?_append_left (by omega), List.getElem?_take_of_lt hj] at h1
    rw [List.getElem?_append_left (by omega), List.getElem?_take_of_lt hj] at h2
    exact ⟨(h.ins j T' u' h1 h2).1.up hb, (h.ins j T' u' h1 h2).2⟩
  · rw [List.getElem?_append_right (by omega)] at h1
    rw [List.getElem?_append_right (by omega)] at h2
    have e : j - m = 0 := by
      rcases Nat.eq_zero_or_pos (j - m) with h0 | h0
      · exact h0
      · rw [List.getElem?_eq_none (by simp; omega)] at h1; cases h1
    rw [hl, e] at h1
    rw [hv, e] at h2
    simp at h1 h2
    subst h1 h2
    exact ⟨hT.up hb, hp⟩
theorem Stack.top1 {w0 wr : World} {i : Nat} {v : Value} {m : Nat} {vs : List Value} {Ts : List CT} (h : Stack w0 wr i v (m + 1) vs Ts) : ∃ u T, vs[m]? = some u ∧ InC wr T u ∧ ((Ts.take m).map depthT).sum + depthT T ≤ i := by
  have hv : m < vs.length := by rw [h.vlen]; omega
  have ht : m < Ts.length := by rw [h.len]; omega
  refine ⟨vs[m], Ts[m], List.getElem?_eq_getElem hv, (h.ins m _ _ (List.getElem?_eq_getElem ht) (List.getElem?_eq_getElem hv)).1, ?_⟩
  have e : Ts = Ts.take m ++ [Ts[m]] := by
    rw [← List.take_succ_eq_append_getElem ht, List.take_of_length_le (by rw [h.len]; omega)]
  have hd := h.dep
  have hs := congrArg (fun l => (l.map depthT).sum) e
  simp only [List.map_append, List.sum_append, List.map_cons, List.map_nil, List.sum_cons, List.sum_nil] at hs
  omega
theorem Stack.top2 {w0 wr : World} {i : Nat} {v : Value} {m : Nat} {vs : List Value} {Ts : List CT} (h : Stack w0 wr i v (m + 2) vs Ts) : ∃ u1 u2 T1 T2, vs[m]? = some u1 ∧ vs[m + 1]? = some u2 ∧ InC wr T1 u1 ∧ InC wr T2 u2 ∧ 0 < depthT T1 ∧ 0 < depthT T2 ∧ ((Ts.take m).map depthT).sum + depthT T1 + depthT T2 ≤ i := by
  have hv : m + 1 < vs.length := by rw [h.vlen]; omega
  have ht : m + 1 < Ts.length := by rw [h.len]; omega
  have g1 := h.ins m _ _ (List.getElem?_eq_getElem (Nat.lt_of_succ_lt ht)) (List.getElem?_eq_getElem (Nat.lt_of_succ_lt hv))
  have g2 := h.ins (m + 1) _ _ (List.getElem?_eq_getElem ht) (List.getElem?_eq_getElem hv)
  refine ⟨vs[m], vs[m + 1], Ts[m], Ts[m + 1], List.getElem?_eq_getElem _, List.getElem?_eq_getElem hv, g1.1, g2.1, g1.2, g2.2, ?_⟩
  have e : Ts = Ts.take m ++ [Ts[m]] ++ [Ts[m + 1]] := by
    rw [← List.take_succ_eq_append_getElem (Nat.lt_of_succ_lt ht), ← List.take_succ_eq_append_getElem ht, List.take_of_length_le (by rw [h.len]; omega)]
  have hd := h.dep
  have hs := congrArg (fun l => (l.map depthT).sum) e
  simp only [List.map_append, List.sum_append, List.map_cons, List.map_nil, List.sum_cons, List.sum_nil] at hs
  omega
theorem Stack.cells {w0 wr : World} {i : Nat} {g cp : Nat} {n : Nat} {vs : List Value} {Ts : List CT} (h : Stack w0 wr i (.slice (some ⟨g, 0, none⟩) n cp) n vs Ts) {j : Nat} {u : Value} (hu : vs[j]? = some u) : wr.cell? ⟨g, j, none⟩ = some u := by
  have := h.own.cells (g := g) rfl j u hu
  have hadd : (⟨g, 0, none⟩ : Addr).add j = ⟨g, j, none⟩ := by unfold Addr.add; split <;> simp_all
  rwa [hadd] at this
theorem Stack.some_of {w0 wr : World} {i : Nat} {ao : Option Addr} {cp n : Nat} {vs : List Value} {Ts : List CT} (h : Stack w0 wr i (.slice ao n cp) n vs Ts) (hn : 0 < n) : ∃ g, ao = some ⟨g, 0, none⟩ ∧ w0.heap.size ≤ g ∧ g < wr.heap.size := by
  rcases h.own.2 with ⟨e, e'⟩ | ⟨g, cap, cur, e1, e2, e3, _⟩
  · omega
  · injection e1 with e1 _ _
    refine ⟨g, e1, e2, ?_⟩
    rcases Nat.lt_or_ge g wr.heap.size with h' | h'
    · exact h'
    · rw [Array.getElem?_eq_none h'] at e3; cases e3
theorem Stack.last {w0 wr : World} {i : Nat} {v : Value} {n : Nat} {vs : List Value} {Ts : List CT} (h : Stack w0 wr i v n vs Ts) {j : Nat} (hj : j < n) : ∃ u T, vs[j]? = some u ∧ Ts[j]? = some T ∧ InC wr T u ∧ 0 < depthT T := by
  have hv : j < vs.length := by rw [h.vlen]; omega
  have ht : j < Ts.length := by rw [h.len]; omega
  exact ⟨vs[j], Ts[j], List.getElem?_eq_getElem hv, List.getElem?_eq_getElem ht, h.ins j _ _ (List.getElem?_eq_getElem ht) (List.getElem?_eq_getElem hv)⟩
end Go.Proofs.YtmghdphafepifaaDoor
