/- What log.mask does, said of every call. -/
import Derived.Test.YtfppidnfomelpaaGreatDoorA6
import Derived.Test.YtfppidnfomelpaaGreatDoorP1
import Derived.Test.YtfppidnfomelpaaGreatDoorX0
namespace Go.Proofs.YtfppidnfomelpaaGreatDoor
open Go.RowKit Go.Proofs Go.Lib Go.Joins

def zeroI : Value := .int .i64 0
theorem infoI : (Tryz.prog.info? 3).map (fun i => (i.zero, i.size, i.bytes)) = some (some zeroI, 1, 8) := by kernel_rfl

theorem LiI.of_own {w : World} {base : Nat} {v : Value} {l : List Int} (h : w.ownsRow base 3 1 v l.length (l.map (.int .i64))) : LiI w v l := by
  rcases own_forms h with ⟨e, e0⟩ | ⟨g, c, e, _, hg, hc, _⟩
  · exact .inl ⟨⟨_, _, e⟩, List.length_eq_zero_iff.1 e0⟩
  · subst e
    refine .inr ⟨g, 0, c, rfl, hg, hc, fun j hj => ?_⟩
    rw [Nat.zero_add, h.cellAt j (by omega), List.getElem?_map, List.getElem?_eq_getElem hj, getElem!_pos l j hj]
    rfl

/-- A mask that was put at its place. -/
theorem SnapI.masked {base b : Nat} {w W : World} {s : Snap} {cv : Value} {g n cap : Nat} {L : List EntV} (h : SnapI base b w s cv (.slice (some ⟨g, 0, none⟩) n cap) L) (k : Nat) (hk : k < L.length) (m : List Int) (v : Sv)
    (hg : w.grownBy W (sv L[k]!.2).ownBlock) (hv : W.ownsRow base 3 1 (sv v) m.length (m.map (.int .i64))) (hat : (sv L[k]!.2).ownBlock = (sv v).ownBlock ∨ ∃ q, (sv v).ownBlock = some q ∧ w.heap.size ≤ q) :
    SnapI base b (W.setCell ⟨g, k * 3 + 2, none⟩ (sv v)) ⟨s.ver, s.cols, s.next, s.files.set k (L[k]!.1.1, L[k]!.1.2.1, m)⟩ cv (.slice (some ⟨g, 0, none⟩) n cap) (L.set k ((L[k]!.1.1, L[k]!.1.2.1, m), v)) := by
  have hx : L[k]! ∈ L := by rw [getElem!_pos L k hk]; exact List.getElem_mem hk
  have hmk := h.masks _ hx
  have hn : n = L.length := by
    rcases own_forms h.row with ⟨e, _⟩ | ⟨_, _, e, _⟩
    · cases e
    · cases e; rfl
  have hrow : W.ownsRow base 70 3 (.slice (some ⟨g, 0, none⟩) n cap) L.length (cellsX L) := own_keep h.row hg (fun q hq e => own_ne hmk h.row (by decide) q e hq)
  have hs := grown_setC W g (k * 3 + 2) (sv v)
  have hbox : W.heap[b]? = some (.cells #[.int .i64 s.ver, cv, .int .i64 s.next, .slice (some ⟨g, 0, none⟩) n cap] 47 (0, 0)) := (hg.block b (blk_lt h.box) (fun e => own_box hmk h.box (by decide) e.symm)).trans h.box
  have hgb : (Value.slice (some ⟨g, 0, none⟩) n cap).ownBlock = some g := rfl
  subst hn
  have hst := (hrow.stored (k * 3 + 2) (sv v)).1
  rw [cellsX_set v L k hk] at hst
  have hcell : cellsX (L.set k (L[k]!.1, v)) = cellsX (L.set k ((L[k]!.1.1, L[k]!.1.2.1, m), v)) := by
    simp only [cellsX, List.flatMap_def, List.map_set]
    rfl
  rw [hcell] at hst
  refine ⟨?_, h.low, ?_, ?_, ?_, ?_, ?_⟩
  · exact (hs.block b (blk_lt hbox) (fun e => own_box hrow hbox (by decide) (by rw [hgb]; exact e.symm))).trans hbox
  · have h1 := own_keep h.cols hg (fun q hq e => own_ne hmk h.cols (by decide) q e hq)
    exact own_keep h1 hs (fun q hq e => own_ne h1 hrow (by decide) q hq (by rw [hgb]; exact e))
  · rw [h.files, List.map_set]
  · rw [List.length_set]; exact hst
  · intro x hx
    obtain ⟨j, hj, rfl⟩ := List.getElem_of_mem hx
    have hj' : j < L.length := by simpa using hj
    rw [List.getElem_set]
    split
    · exact own_keep hv hs (fun q hq e => own_ne hv hrow (by decide) q hq (by rw [hgb]; exact e))
    · rename_i hne
      have hjm := h.masks _ (List.getElem_mem hj')
      have hap : ∀ q, (sv L[k]!.2).ownBlock = some q → (sv L[j].2).ownBlock ≠ some q := by
        intro q hq hq'
        rw [getElem!_pos L k hk] at hq
        rcases Nat.lt_or_gt_of_ne hne with hlt | hgt
        · exact List.pairwise_iff_getElem.1 h.apart k j hk hj' hlt q hq hq'
        · exact List.pairwise_iff_getElem.1 h.apart j k hj' hk hgt q hq' hq
      have h1 := own_keep hjm hg (fun q hq e => hap q e hq)
      exact own_keep h1 hs (fun q hq e => own_ne h1 hrow (by decide) q hq (by rw [hgb]; exact e))
  · rw [List.pairwise_iff_getElem]
    intro i j hi hj hij q hq hq'
    have hi' : i < L.length := by simpa using hi
    have hj' : j < L.length := by simpa using hj
    have old : ∀ t (ht : t < L.length), t ≠ k → (sv L[t].2).ownBlock = some q → (sv v).ownBlock ≠ some q := by
      intro t ht htk h1 h2
      rcases hat with hat | ⟨q', e', hq'⟩
      · rw [h2, getElem!_pos L k hk] at hat
        rcases Nat.lt_or_gt_of_ne htk with hlt | hgt
        · exact List.pairwise_iff_getElem.1 h.apart t k ht hk hlt q h1 hat
        · exact List.pairwise_iff_getElem.1 h.apart k t hk ht hgt q hat h1
      · rw [h2] at e'
        cases e'
        have := ((h.masks _ (List.getElem_mem ht)).lt q h1).2
        omega
    rw [List.getElem_set] at hq hq'
    split at hq
    · rename_i e
      split at hq'
      · omega
      · rename_i hne
        exact old j hj' (fun e => hne e.symm) hq' hq
    · rename_i hne
      split at hq'
      · exact old i hi' (fun e => hne e.symm) hq hq'
      · exact List.pairwise_iff_getElem.1 h.apart i j hi' hj' hij q hq hq'
end Go.Proofs.YtfppidnfomelpaaGreatDoor
