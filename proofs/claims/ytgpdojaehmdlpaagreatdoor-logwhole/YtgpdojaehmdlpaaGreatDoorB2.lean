/- What log.copied does, said of every call: the mathematics of its memory. -/
import Derived.Test.YtgpdojaehmdlpaaGreatDoorB1
namespace Go.Proofs.YtgpdojaehmdlpaaGreatDoor
open Go.RowKit Go.Proofs Go.Lib Go.Joins

theorem clone_own {e : Nat} {z by' : Nat} {F : Nat} {zv : Value} {ρ : Go.Shelf.Ren} (hL : SlLaysE0.n41 Tryz.prog ρ) (hF : ρ.f 41 = F) (hE : ρ.t 23 = e) (hinfo : (Tryz.prog.info? e).map (fun i => (i.zero, i.size, i.bytes)) = some (some zv, z, by')) (hzc : zv.cells.size = z) (hz0 : 0 < z) (hby : by' ≤ 1000) (hso : ∀ w, (Go.sizeOf e).run Tryz.prog w = .ok z w)
    (base : Nat) (v : Value) (n : Nat) (xs : List Value) (w : World) (h : w.ownsRow base e z v n xs) (h1 : ∀ u ∈ xs, u.oneCell' = true) (hn : n ≤ 1000) :
    Calls Tryz.prog F #[v] w fun en w' => ∃ a c, en = .returned (.slice a n c) ∧ w'.ownsRow w.heap.size e z (.slice a n c) n xs ∧ Below w.heap.size w w' := by
  subst hF hE
  rcases own_forms h with ⟨e1, e0⟩ | ⟨g, c, e1, _, hg, hc1, hc2⟩
  · subst e1 e0
    refine (AnyE.slices_Clone_nil hL 0 0 w).mono ?_
    rintro en w' ⟨rfl, rfl⟩
    refine ⟨none, 0, rfl, ?_, Below.refl _ _⟩
    have := h.1
    rw [Nat.zero_mul] at this
    rw [List.length_eq_zero_iff.1 this]
    exact World.ownsRow_nil _ _ _ _
  · subst e1
    obtain ⟨i0, hi0, hz0', hz1, hz2⟩ := info_parts hinfo
    refine (AnyE.slices_Clone hL i0 zv z by' hi0 hz0' hz1 hz2 hzc hz0 hso g 0 n c xs w h.1 (by unfold maxLen; omega) (by have := Nat.mul_le_mul hn hby; omega) (fun j u hj => ?_) h1).mono ?_
    · have hjl : j < n * z := by
        rcases Nat.lt_or_ge j xs.length with hh | hh
        · rw [h.1] at hh; exact hh
        · rw [List.getElem?_eq_none hh] at hj; cases hj
      rw [Nat.zero_add, h.cellAt j hjl]; exact hj
    · rintro en w' ⟨v', rfl, ho, _, hb⟩
      obtain ⟨a, c', rfl, _⟩ := own_slice ho
      exact ⟨a, c', rfl, ho, hb⟩

theorem cloneC_own (base : Nat) (v : Value) (n : Nat) (l : List Col) (w : World) (h : w.ownsRow base 80 7 v n (cellsC l)) (hn : n ≤ 1000) :
    Calls Tryz.prog 65 #[v] w fun en w' => ∃ a c, en = .returned (.slice a n c) ∧ w'.ownsRow w.heap.size 80 7 (.slice a n c) n (cellsC l) ∧ Below w.heap.size w w' :=
  clone_own Tryz.layClo rfl rfl info54 rfl (by decide) (by decide) Tryz.sizeOf80 base v n _ w h (cellsC_one l) hn
theorem cloneE_own (base : Nat) (v : Value) (n : Nat) (l : List EntV) (w : World) (h : w.ownsRow base 53 3 v n (cellsX l)) (hn : n ≤ 1000) :
    Calls Tryz.prog 66 #[v] w fun en w' => ∃ a c, en = .returned (.slice a n c) ∧ w'.ownsRow w.heap.size 53 3 (.slice a n c) n (cellsX l) ∧ Below w.heap.size w w' :=
  clone_own Tryz.layCloneE rfl rfl infoE rfl (by decide) (by decide) Tryz.sizeOf53 base v n _ w h (cellsX_one l) hn
theorem cloneI_own (base : Nat) (v : Value) (n : Nat) (l : List Int) (w : World) (h : w.ownsRow base 3 1 v n (l.map (.int .i64))) (hn : n ≤ 1000) :
    Calls Tryz.prog 19 #[v] w fun en w' => ∃ a c, en = .returned (.slice a n c) ∧ w'.ownsRow w.heap.size 3 1 (.slice a n c) n (l.map (.int .i64)) ∧ Below w.heap.size w w' :=
  clone_own Tryz.layCloneI rfl rfl infoI rfl (by decide) (by decide) Tryz.sizeOf3 base v n _ w h (by intro u hu; obtain ⟨y, _, rfl⟩ := List.mem_map.1 hu; rfl) hn

/-- A table lies where its two slices say. -/
structure SnapV (W : World) (s : Snap) (cv fv : Value) (L : List EntV) : Prop where
  cols : W.ownsRow 0 80 7 cv s.cols.length (cellsC s.cols)
  files : s.files = L.map (·.1)
  row : W.ownsRow 0 53 3 fv L.length (cellsX L)
  masks : ∀ x ∈ L, W.ownsRow 0 3 1 (sv x.2) x.1.2.2.length (x.1.2.2.map (.int .i64))
theorem SnapV.up {w W : World} {s : Snap} {cv fv : Value} {L : List EntV} (h : SnapV w s cv fv L) (hb : Below w.heap.size w W) : SnapV W s cv fv L :=
  ⟨own_up h.cols hb, h.files, own_up h.row hb, fun x hx => own_up (h.masks x hx) hb⟩
theorem SnapI.value {base b : Nat} {W : World} {s : Snap} {cv fv : Value} {L : List EntV} (h : SnapI base b W s cv fv L) : SnapV W s cv fv L :=
  ⟨own_base h.cols (Nat.zero_le _), h.files, own_base h.row (Nat.zero_le _), fun x hx => own_base (h.masks x hx) (Nat.zero_le _)⟩
theorem snapV_zero (W : World) : SnapV W zeroS (.slice none 0 0) (.slice none 0 0) [] :=
  ⟨World.ownsRow_nil _ _ _ _, rfl, World.ownsRow_nil _ _ _ _, fun x hx => by cases hx⟩

/-- Half way through the copy. -/
structure Cop (w wr : World) (s : Snap) (L : List EntV) (cv fv : Value) (k : Nat) (L' : List EntV) : Prop where
  b1 : wr.heap[w.heap.size]? = some (.cells #[.int .i64 s.ver, cv, .int .i64 s.next, fv] 41 (0, 0))
  b2 : wr.heap[w.heap.size + 1]? = some (.cells #[.int .i64 0, .slice none 0 0, .int .i64 0, .slice none 0 0] 41 (0, 0))
  cols : wr.ownsRow (w.heap.size + 2) 80 7 cv s.cols.length (cellsC s.cols)
  len : L'.length = L.length
  ents : L'.map (·.1) = L.map (·.1)
  row : wr.ownsRow (w.heap.size + 2) 53 3 fv L.length (cellsX L')
  did : ∀ j, j < k → wr.ownsRow (w.heap.size + 2) 3 1 (sv L'[j]!.2) L'[j]!.1.2.2.length (L'[j]!.1.2.2.map (.int .i64))
  left : ∀ j, k ≤ j → j < L.length → L'[j]! = L[j]!
  apart : ∀ i j, i < j → j < k → ∀ q, (sv L'[i]!.2).ownBlock = some q → (sv L'[j]!.2).ownBlock ≠ some q
  low : Below w.heap.size w wr
  size : w.heap.size + 2 ≤ wr.heap.size

theorem getX_set {l : List EntV} {k j : Nat} {c : EntV} (hk : k < l.length) : (l.set k c)[j]! = if j = k then c else l[j]! := by
  by_cases e : j = k
  · subst e; simp [hk]
  · have e' : ¬ k = j := fun x => e x.symm
    simp [List.getElem!_eq_getElem?_getD, e, e']

theorem Cop.next {w wr w4 : World} {s : Snap} {L L' : List EntV} {cv : Value} {g n c k : Nat} (h : Cop w wr s L cv (.slice (some ⟨g, 0, none⟩) n c) k L') (hk : k < L.length) (hb : Below wr.heap.size wr w4) (v : Sv)
    (hv : w4.ownsRow wr.heap.size 3 1 (sv v) L[k]!.1.2.2.length (L[k]!.1.2.2.map (.int .i64))) : Cop w (w4.setCell ⟨g, k * 3 + 2, none⟩ (sv v)) s L cv (.slice (some ⟨g, 0, none⟩) n c) (k + 1) (L'.set k (L'[k]!.1, v)) := by
  have hk' : k < L'.length := by rw [h.len]; exact hk
  have hsz := h.size
  have hn : n = L.length := by
    rcases own_forms h.row with ⟨e, _⟩ | ⟨_, _, e, _⟩
    · cases e
    · cases e; rfl
  subst hn
  have hgl := h.row.lt g rfl
  have hgs := grown_setC w4 g (k * 3 + 2) (sv v)
  have hrow := own_up h.row hb
  have hcols := own_up h.cols hb
  have hst := (hrow.stored (k * 3 + 2) (sv v)).1
  rw [cellsX_set v L' k hk'] at hst
  have hgb : (Value.slice (some ⟨g, 0, none⟩) L.length c).ownBlock = some g := rfl
  have hbk := h.left k (Nat.le_refl _) hk
  have hB1 := (hb.block w.heap.size (by omega)).trans h.b1
  have hB2 := (hb.block (w.heap.size + 1) (by omega)).trans h.b2
  refine ⟨?_, ?_, ?_, ?_, ?_, hst, ?_, ?_, ?_, ?_, ?_⟩
  · exact (hgs.block _ (blk_lt hB1) (fun e => by injection e with e; omega)).trans hB1
  · exact (hgs.block _ (blk_lt hB2) (fun e => by injection e with e; omega)).trans hB2
  · exact own_keep hcols hgs (fun q hq e => own_ne hcols hrow (by decide) q hq (by rw [hgb]; exact e))
  · rw [List.length_set]; exact h.len
  · rw [List.map_set, ← h.ents]
    apply List.ext_getElem
    · simp
    · intro i h1 h2
      rw [List.getElem_set]
      split
      · rename_i e; subst e; rw [List.getElem_map, getElem!_pos L' k hk']
      · rfl
  · intro j hj
    rw [getX_set hk']
    split
    · rename_i e
      have e2 : (L'[k]!.1, v).1 = L[k]!.1 := by rw [hbk]
      rw [e2]
      exact own_base (own_keep hv hgs (fun q hq e => own_ne hv hrow (by decide) q hq (by rw [hgb]; exact e))) hsz
    · rename_i e
      have h1 := own_up (h.did j (by omega)) hb
      exact own_keep h1 hgs (fun q hq e => own_ne h1 hrow (by decide) q hq (by rw [hgb]; exact e))
  · intro j hj hjl
    rw [getX_set hk', if_neg (by omega)]
    exact h.left j (by omega) hjl
  · intro i j hij hj q hq
    rw [getX_set hk', if_neg (by omega)] at hq
    rw [getX_set hk']
    split
    · intro hq'
      have h1 := ((h.did i (by omega)).lt q hq).2
      have h2 := (hv.lt q hq').1
      omega
    · exact h.apart i j hij (by omega) q hq
  · exact (h.low.trans (hb.mono h.low.size)).setCell (p := ⟨g, k * 3 + 2, none⟩) (by show w.heap.size ≤ g; omega) _
  · have := hb.size; have := hgs.size; omega

/-- The copy, whole. -/
structure SnapO (base : Nat) (W : World) (s : Snap) (cv fv : Value) (L : List EntV) : Prop where
  cols : W.ownsRow base 80 7 cv s.cols.length (cellsC s.cols)
  files : s.files = L.map (·.1)
  row : W.ownsRow base 53 3 fv L.length (cellsX L)
  masks : ∀ x ∈ L, W.ownsRow base 3 1 (sv x.2) x.1.2.2.length (x.1.2.2.map (.int .i64))
  apart : L.Pairwise (fun x y => ∀ k, (sv x.2).ownBlock = some k → (sv y.2).ownBlock ≠ some k)
theorem Cop.whole {w wr : World} {s : Snap} {L L' : List EntV} {cv fv : Value} (h : Cop w wr s L cv fv L.length L') (hf : s.files = L.map (·.1)) {W : World} (hg : wr.grownBy W (some (w.heap.size + 1))) : SnapO w.heap.size W s cv fv L' := by
  have keep : ∀ {e z : Nat} {v : Value} {n : Nat} {xs : List Value}, wr.ownsRow (w.heap.size + 2) e z v n xs → W.ownsRow w.heap.size e z v n xs := fun ho =>
    own_base (own_keep ho hg (fun q hq e => by have := (ho.lt q hq).1; injection e with e; omega)) (by omega)
  refine ⟨keep h.cols, by rw [hf, h.ents], by rw [h.len]; exact keep h.row, ?_, ?_⟩
  · intro x hx
    obtain ⟨j, hj, rfl⟩ := List.getElem_of_mem hx
    have := h.did j (by rw [← h.len]; exact hj)
    rw [getElem!_pos L' j hj] at this
    exact keep this
  · rw [List.pairwise_iff_getElem]
    intro i j hi hj hij q hq
    have := h.apart i j hij (by rw [← h.len]; exact hj) q
    rw [getElem!_pos L' i hi, getElem!_pos L' j hj] at this
    exact this hq
theorem SnapO.box {base b : Nat} {w W : World} {s : Snap} {cv fv : Value} {L : List EntV} (h : SnapO base w s cv fv L) (hb : Below w.heap.size w W) (hlow : base ≤ b) (hbox : W.heap[b]? = some (.cells #[.int .i64 s.ver, cv, .int .i64 s.next, fv] 41 (0, 0))) : SnapI base b W s cv fv L :=
  ⟨hbox, hlow, own_up h.cols hb, h.files, own_up h.row hb, fun x hx => own_up (h.masks x hx) hb, h.apart⟩
end Go.Proofs.YtgpdojaehmdlpaaGreatDoor
