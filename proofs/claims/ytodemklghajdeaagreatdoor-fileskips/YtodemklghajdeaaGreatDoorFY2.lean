/- Groups that are being put behind each other: how they lie. -/
import Derived.Test.YtodemklghajdeaaGreatDoorFY0
import Derived.Test.YtodemklghajdeaaGreatDoorFY1
namespace Go.Proofs.YtodemklghajdeaaGreatDoor
open Go.RowKit Go.Proofs Go.Shelf Go.Joins

/-- One group's two slices, in memory of somebody's own. -/
def GrpO (w : World) (x : Int × Value × Value) (g : Grp) : Prop := x.1 = g.1 ∧ w.ownsRow 0 70 8 x.2.1 g.2.1.length (g.2.1.flatMap encS) ∧ w.ownsRow 0 9 1 x.2.2 g.2.2.length (g.2.2.flatMap encT)
theorem GrpO.at {w : World} {x : Int × Value × Value} {g : Grp} (h : GrpO w x g) : GrpAt w x g := ⟨h.1, SlE.of_own encS_len h.2.1 rfl, SlE.of_own (k := 1) (enc := encT) (fun _ => rfl) h.2.2 rfl⟩
theorem GrpO.up {w W : World} {x : Int × Value × Value} {g : Grp} (h : GrpO w x g) (hb : Below w.heap.size w W) : GrpO W x g := ⟨h.1, E.ownsRow_up h.2.1 hb, E.ownsRow_up h.2.2 hb⟩
/-- Nothing turns but a block that is no row of Stats, and none of texts. -/
theorem GrpO.other {w w' : World} {x : Int × Value × Value} {g : Grp} {row : Option Nat} (h : GrpO w x g) (hg : w.grownBy w' row) (hr : ∀ r cur fr, row = some r → w.heap[r]? ≠ some (.cells cur 70 fr) ∧ w.heap[r]? ≠ some (.cells cur 9 fr)) : GrpO w' x g := by
  refine ⟨h.1, h.2.1.kept hg ?_, h.2.2.kept hg ?_⟩
  · rcases h.2.1.2 with ⟨e, _⟩ | ⟨q, cap, cur, e, _, hh, _⟩
    · rw [e]; exact .inl rfl
    · rw [e]; exact .inr (fun e' => (hr q cur (0, 0) e'.symm).1 hh)
  · rcases h.2.2.2 with ⟨e, _⟩ | ⟨q, cap, cur, e, _, hh, _⟩
    · rw [e]; exact .inl rfl
    · rw [e]; exact .inr (fun e' => (hr q cur (0, 0) e'.symm).2 hh)
/-- Groups in a row of somebody's own, from base B on. -/
def SlGO (B : Nat) (w : World) (v : Value) (gs : List Grp) : Prop := ∃ xs : List (Int × Value × Value), xs.length = gs.length ∧ w.ownsRow B 88 3 v gs.length (xs.flatMap encG) ∧ ∀ (j : Nat) x g, xs[j]? = some x → gs[j]? = some g → GrpO w x g
theorem SlGO.slg {B : Nat} {w : World} {v : Value} {gs : List Grp} (h : SlGO B w v gs) : SlG w v gs := by
  obtain ⟨xs, h1, h2, h3⟩ := h
  exact ⟨xs, SlE.of_own (k := 3) (enc := encG) (fun _ => rfl) h2 h1.symm, h1, fun j x g hx hg => (h3 j x g hx hg).at⟩
theorem SlGO.up {B : Nat} {w W : World} {v : Value} {gs : List Grp} (h : SlGO B w v gs) (hb : Below w.heap.size w W) : SlGO B W v gs := by
  obtain ⟨xs, h1, h2, h3⟩ := h
  exact ⟨xs, h1, E.ownsRow_up h2 hb, fun j x g hx hg => (h3 j x g hx hg).up hb⟩
/-- Nothing turns but what is no cells, or a block that is none of theirs. -/
theorem SlGO.kept {B : Nat} {w w' : World} {v : Value} {gs : List Grp} {row : Option Nat} (h : SlGO B w v gs) (hg : w.grownBy w' row) (hr : ∀ r, row = some r → ∃ o : Obj, w.heap[r]? = some o ∧ (o.isCells = false ∨ ∃ cur, o = .cells cur 29 (0, 0))) : SlGO B w' v gs := by
  have key : ∀ (T : TypeId), T ≠ 29 → ∀ r cur fr, row = some r → w.heap[r]? ≠ some (.cells cur T fr) := by
    intro T hT r cur fr e hh
    obtain ⟨o, ho, hc⟩ := hr r e
    rw [hh] at ho
    injection ho with ho
    subst ho
    rcases hc with hc | ⟨cur', hc⟩
    · cases hc
    · injection hc with _ hc _
      exact hT hc
  obtain ⟨xs, h1, h2, h3⟩ := h
  refine ⟨xs, h1, h2.kept hg ?_, fun j x g hx hg' => (h3 j x g hx hg').other hg (fun r cur fr e => ⟨key _ (by decide) r cur fr e, key _ (by decide) r cur fr e⟩)⟩
  rcases h2.2 with ⟨e, _⟩ | ⟨q, cap, cur, e, _, hh, _⟩
  · rw [e]; exact .inl rfl
  · rw [e]; exact .inr (fun e' => key _ (by decide) q cur (0, 0) e'.symm hh)
theorem SlGO_nil (B : Nat) (w : World) : SlGO B w (.slice none 0 0) [] := ⟨[], rfl, World.ownsRow_nil _ _ _ _, fun j x g hx => by simp at hx⟩
theorem SlGO.app {B : Nat} {w w' : World} {v v' : Value} {gs : List Grp} {xs : List (Int × Value × Value)} {x : Int × Value × Value} {g : Grp} (h1 : xs.length = gs.length) (ho : w.ownsRow B 88 3 v gs.length (xs.flatMap encG)) (h3 : ∀ (j : Nat) x g, xs[j]? = some x → gs[j]? = some g → GrpO w x g) (hx : GrpO w x g)
    (ho' : w'.ownsRow B 88 3 v' (gs.length + 1) (xs.flatMap encG ++ encG x)) (hg : w.grownBy w' v.ownBlock) : SlGO B w' v' (gs ++ [g]) := by
  have hr : ∀ r cur fr, v.ownBlock = some r → w.heap[r]? ≠ some (.cells cur 70 fr) ∧ w.heap[r]? ≠ some (.cells cur 9 fr) := by
    intro r cur fr e
    rcases ho.2 with ⟨e', _⟩ | ⟨q, cap, cur', e', _, hh, _⟩
    · rw [e'] at e; cases e
    · rw [e'] at e
      injection e with e
      subst e
      rw [hh]
      constructor <;> (intro h; injection h with h; injection h with _ h _; revert h; decide)
  refine ⟨xs ++ [x], by simp [h1], by rw [List.length_append, List.flatMap_append]; simpa using ho', fun j y k hy hk => ?_⟩
  by_cases hj : j < gs.length
  · rw [List.getElem?_append_left (by omega)] at hy
    rw [List.getElem?_append_left hj] at hk
    exact (h3 j y k hy hk).other hg hr
  · rw [List.getElem?_append_right (by omega), h1] at hy
    rw [List.getElem?_append_right (by omega)] at hk
    have hj0 : j - gs.length = 0 := by have := lt_of_some hk; simp at this; omega
    rw [hj0] at hy hk
    simp at hy hk
    subst hy hk
    exact hx.other hg hr

/-- What lies when the chunks pre are done. -/
def MkI (l : List Col) (rows : List (List V)) (fb : Nat) (cv : Value) (w5 : World) (pre : List (CK rows.length)) (W : World) : Prop := (∃ gv, W.heap[fb]? = some (.cells #[cv, gv] 29) ∧ SlGO (fb + 3) W gv (pre.map fun k => groupOf l (part6 rows k.1))) ∧ Below fb w5 W ∧ fb + 3 ≤ W.heap.size
theorem MkI.own {l : List Col} {rows : List (List V)} {fb B : Nat} {cv : Value} {w5 : World} (hfb : fb ≤ w5.heap.size) (hB : fb ≤ B) : OwnFrom B (MkI l rows fb cv w5) := fun s A C row hs hg hr => by
  obtain ⟨⟨gv, hf, hgs⟩, hb, h3⟩ := hs
  refine ⟨⟨gv, (hg.block fb (E.blk_lt hf) (fun e => ?_)).trans hf, hgs.kept hg (fun r e => by obtain ⟨_, o, ho, hc⟩ := hr r e; exact ⟨o, ho, .inl hc⟩)⟩, hb.grown hg (Nat.le_trans hfb hb.size) (fun k e => Nat.le_trans hB (hr k e).1), Nat.le_trans h3 hg.size⟩
  obtain ⟨_, _, ho, hc⟩ := hr fb e.symm
  rw [hf] at ho
  injection ho with ho
  subst ho
  cases hc
theorem keeps_below {A B : World} (h : Below A.heap.size A B) : KeepsOthers A B := ⟨h.size, fun k _ hk _ => (h.block k (Array.getElem?_eq_some_iff.1 hk).1).trans hk⟩
theorem make_step {l : List Col} {rows : List (List V)} {fb B : Nat} {cv gv : Value} {w5 W w8 w9 : World} {xs : List (Int × Value × Value)} {pre : List (CK rows.length)} {k : CK rows.length} {sa ba : Option Addr} {sc bc g9 cap9 : Nat}
    (hb8 : Below W.heap.size W w8) (hxs : xs.length = pre.length) (hxo : W.ownsRow (fb + 3) 88 3 gv pre.length (xs.flatMap encG)) (hxg : ∀ (j : Nat) x g, xs[j]? = some x → (pre.map fun k => groupOf l (part6 rows k.1))[j]? = some g → GrpO W x g)
    (hsv : w8.ownsRow W.heap.size 70 8 (.slice sa l.length sc) l.length ((groupOf l (part6 rows k.1)).2.1.flatMap encS)) (hbv : w8.ownsRow W.heap.size 9 1 (.slice ba l.length bc) l.length ((groupOf l (part6 rows k.1)).2.2.flatMap encT))
    (ho9 : w9.ownsRow (fb + 3) 88 3 (.slice (some ⟨g9, 0, none⟩) (pre.length + 1) cap9) (pre.length + 1) (xs.flatMap encG ++ [.int .i64 (part6 rows k.1).length, .slice sa l.length sc, .slice ba l.length bc]))
    (hg9 : (w8.alloc (.cells #[.int .i64 (part6 rows k.1).length, .slice sa l.length sc, .slice ba l.length bc] 88)).grownBy w9 gv.ownBlock) (hf : W.heap[fb]? = some (.cells #[cv, gv] 29)) (h5 : Below fb w5 W) (h3 : fb + 3 ≤ W.heap.size) :
    w9.cell? ⟨fb, 1, none⟩ = some gv ∧ w9.frozen? ⟨fb, 1, none⟩ = false ∧ ∀ (Ix : Code → List (CK rows.length) → World → Prop) (a : Act), ownPostG B (KpC (fb + 1) (fb + 2)) (MkI l rows fb cv w5) Ix (pre ++ [k]) W .normal a (w9.setCell ⟨fb, 1, none⟩ (.slice (some ⟨g9, 0, none⟩) (pre.length + 1) cap9)) := by
  have hbA : Below W.heap.size W (w8.alloc (.cells #[.int .i64 (part6 rows k.1).length, .slice sa l.length sc, .slice ba l.length bc] 88)) := ups hb8 ((Below.refl _ _).alloc (Nat.le_refl _) _)
  have hsA : fb + 3 ≤ (w8.alloc (.cells #[.int .i64 (part6 rows k.1).length, .slice sa l.length sc, .slice ba l.length bc] 88)).heap.size := Nat.le_trans h3 hbA.size
  have hoA := E.ownsRow_up hxo hbA
  have far : ∀ q, q < fb + 3 → some q ≠ gv.ownBlock := fun q hq e => by have := (hxo.lt q e.symm).1; omega
  have hf9 : w9.heap[fb]? = some (.cells #[cv, gv] 29) := (hg9.block fb (by omega) (far fb (by omega))).trans ((hbA.block fb (by omega)).trans hf)
  have hcells : ∀ q, q < fb + 3 → w9.cell? ⟨q, 0, none⟩ = W.cell? ⟨q, 0, none⟩ := fun q hq => (hg9.cell_far ⟨q, 0, none⟩ (by show q < _; omega) (far q hq)).trans (hbA.cell (p := ⟨q, 0, none⟩) (by show q < _; omega))
  obtain ⟨c0, c1⟩ := row2 hf9
  refine ⟨c1, frozen_of_row w9 fb 1 _ _ hf9, fun Ix a => ⟨?_, ?_, ?_, ?_, Nat.le_trans (Nat.le_trans hsA hg9.size) (E.grown_set w9 fb 1 (.slice (some ⟨g9, 0, none⟩) (pre.length + 1) cap9)).size⟩⟩
  · refine KeepsOthers.from (((keeps_below hbA).trans (KeepsOthers.of_grownBy hg9 (fun j o e ho => ?_))).trans (KeepsOthers.setCell _ _ _)) _
    rcases hoA.2 with ⟨e', _⟩ | ⟨q, cap, cur, e', _, hh, _⟩
    · rw [e'] at e; cases e
    · rw [e'] at e
      injection e with e
      subst e
      rw [hh] at ho
      injection ho with ho
      subst ho
      rfl
  · have hs := E.grown_set w9 fb 1 (.slice (some ⟨g9, 0, none⟩) (pre.length + 1) cap9)
    have h9 := hg9.size
    exact ⟨(hs.cell_far ⟨fb + 1, 0, none⟩ (by show fb + 1 < _; omega) (by simp)).trans (hcells _ (by omega)), (hs.cell_far ⟨fb + 2, 0, none⟩ (by show fb + 2 < _; omega) (by simp)).trans (hcells _ (by omega))⟩
  · have hset := heap_setCell_same w9 fb 1 _ _ (.slice (some ⟨g9, 0, none⟩) (pre.length + 1) cap9) hf9
    refine ⟨_, hset, ?_⟩
    rw [List.map_append]
    have hx : GrpO (w8.alloc (.cells #[.int .i64 (part6 rows k.1).length, .slice sa l.length sc, .slice ba l.length bc] 88)) ((part6 rows k.1).length, .slice sa l.length sc, .slice ba l.length bc) (groupOf l (part6 rows k.1)) := by
      have e1 : (groupOf l (part6 rows k.1)).2.1.length = l.length := by simp [groupOf]
      have e2 : (groupOf l (part6 rows k.1)).2.2.length = l.length := by simp [groupOf]
      refine ⟨rfl, ?_, ?_⟩
      · rw [e1]; exact (E.ownsRow_base hsv (Nat.zero_le _)).alloc _
      · rw [e2]; exact (E.ownsRow_base hbv (Nat.zero_le _)).alloc _
    have happ := SlGO.app (v' := .slice (some ⟨g9, 0, none⟩) (pre.length + 1) cap9) (gs := pre.map fun k => groupOf l (part6 rows k.1)) (by simpa using hxs) (by rw [List.length_map]; exact hoA) (fun j x g hx hg => (hxg j x g hx hg).up hbA) hx (by rw [List.length_map]; exact ho9) hg9
    refine happ.kept (E.grown_set w9 fb 1 (.slice (some ⟨g9, 0, none⟩) (pre.length + 1) cap9)) (fun r e => ?_)
    injection e with e
    subst e
    exact ⟨_, hf9, .inr ⟨_, rfl⟩⟩
  · exact (E.below_grown_own (h5.trans (hbA.mono (by have := h5.size; omega))) (E.ownsRow_base hoA (Nat.le_add_right fb 3)) hg9 (by omega)).setCell (p := ⟨fb, 1, none⟩) (Nat.le_refl _) _
theorem slR_chunk {w : World} {b off n c : Nat} {rows : List (List V)} (h : SlR w (.slice (some ⟨b, off, none⟩) n c) rows) (hn : n = rows.length) (k : CK rows.length) : SlR w (ckV b off rows.length k) (part6 rows k.1) := by
  obtain ⟨vs, h1, h2, h3⟩ := h
  have hk := k.2
  obtain ⟨b', off', c', e, hc, hb, hcell⟩ := h1.cons (by omega)
  injection e with e1 _ _
  injection e1 with e1
  injection e1 with eb eo _
  subst eb eo
  have hl : (part6 rows k.1).length = ckL rows.length k.1 := by simp only [part6, List.length_take, List.length_drop, ckL]; split <;> omega
  have hl2 : ((vs.drop (6 * k.1)).take 6).length = ckL rows.length k.1 := by simp only [List.length_take, List.length_drop, ckL, h2]; split <;> omega
  refine ⟨(vs.drop (6 * k.1)).take 6, ⟨_, ckL rows.length k.1, by rw [hl2]; rfl, by rw [hl2]; exact Nat.le_refl _, fun _ => ⟨b, off + 6 * k.1, rfl, hb, fun j x hx i u hu => ?_⟩⟩, by rw [hl, hl2], fun j x r hx hr => ?_⟩
  · have hj : j < 6 := by have := lt_of_some hx; rw [List.length_take] at this; omega
    rw [List.getElem?_take_of_lt hj, List.getElem?_drop] at hx
    have := hcell (6 * k.1 + j) x hx i u hu
    rwa [show off + (6 * k.1 + j) * 1 + i = off + 6 * k.1 + j * 1 + i by omega] at this
  · have hj : j < 6 := by have := lt_of_some hx; rw [List.length_take] at this; omega
    rw [List.getElem?_take_of_lt hj, List.getElem?_drop] at hx
    unfold part6 at hr
    rw [List.getElem?_take_of_lt hj, List.getElem?_drop] at hr
    exact h3 _ x r hx hr
end Go.Proofs.YtodemklghajdeaaGreatDoor
