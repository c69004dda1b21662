/- What log.add and log.remove do, said of every call. -/
import Derived.Test.YtfppidnfomelpaaGreatDoorA4
namespace Go.Proofs.YtfppidnfomelpaaGreatDoor
open Go.RowKit Go.Proofs Go.Lib Go.Joins

/-- What an action's function tells: 0, and the table is t; or another number, and it may not be done. -/
def StPost (base b : Nat) (w : World) (ok : Prop) (t : Snap) (e : Ending) (w' : World) : Prop :=
  ∃ c : Int, e = .returned (.int .i64 c) ∧ Below base w w' ∧ ((c = 0 ∧ ok ∧ SnapAt base b w' t) ∨ (c ≠ 0 ∧ ¬ ok))
theorem st_no {base b : Nat} {w w' : World} {ok : Prop} {t : Snap} {c : Int} (hc : c ≠ 0) (hb : Below base w w') (h : ¬ ok) : StPost base b w ok t (.returned (.int .i64 c)) w' := ⟨c, rfl, hb, .inr ⟨hc, h⟩⟩
theorem st_yes {base b : Nat} {w w' : World} {ok : Prop} {t : Snap} (hb : Below base w w') (h : ok) (hs : SnapAt base b w' t) : StPost base b w ok t (.returned (.int .i64 0)) w' := ⟨0, rfl, hb, .inl ⟨rfl, h, hs⟩⟩
theorem rfB_iff (p : ByteArray) (r : Int) : rfB p r = true ↔ nameB p = true ∧ 1 ≤ r ∧ r ≤ 60 := by simp [rfB]
theorem SnapI.size {base b : Nat} {w : World} {s : Snap} {cv fv : Value} {L : List EntV} (h : SnapI base b w s cv fv L) : base ≤ w.heap.size := by have := h.low; have := blk_lt h.box; omega

theorem SnapI.more {base b : Nat} {w W : World} {s : Snap} {cv fv : Value} {L : List EntV} (h : SnapI base b w s cv fv L) (hg : w.grownBy W fv.ownBlock) (k : Int) (p : ByteArray) (r : Int) (m : List Int) (cl : List Col) (nx : Int) (g cap : Nat)
    (ho : W.ownsRow base 70 3 (.slice (some ⟨g, 0, none⟩) (L.length + 1) cap) (L.length + 1) (cellsX L ++ [.string p, .int .i64 r, .slice none 0 0])) :
    SnapAt base b (W.setCell ⟨b, 3, none⟩ (.slice (some ⟨g, 0, none⟩) (L.length + 1) cap)) (addS s (k, p, r, m, cl, nx)) := by
  refine ⟨cv, _, L ++ [((p, r, []), (none, 0, 0))], h.put _ _ hg ?_ rfl rfl rfl ?_ ?_ ?_⟩
  · rw [cellsX_append]
    simp only [List.length_append, List.length_cons, List.length_nil]
    exact ho
  · simp only [addS]
    rw [h.files]
    simp
  · intro x hx
    rcases List.mem_append.1 hx with hx | hx
    · exact own_keep (h.masks x hx) hg (fun k hk e => own_ne (h.masks x hx) h.row (by decide) k hk e)
    · simp at hx; subst hx; exact World.ownsRow_nil _ _ _ _
  · rw [List.pairwise_append]
    refine ⟨h.apart, List.pairwise_singleton _ _, ?_⟩
    intro x _ y hy k _
    simp at hy; subst hy
    simp [Value.ownBlock]

set_option maxHeartbeats 4000000 in
set_option maxRecDepth 100000 in
theorem add_any (base b : Nat) (s : Snap) (k : Int) (p : ByteArray) (r : Int) (m : List Int) (cl : List Col) (nx : Int) (ma : Option Addr) (mn mc : Nat) (ca : Option Addr) (cn cc : Nat) (w : World) (h : SnapAt base b w s) (hp : p.size ≤ maxLen) (h40 : s.files.length ≤ 40) :
    Calls Tryz.prog 72 #[.pointer (some ⟨b, 0, none⟩), .agg #[.int .i64 k, .string p, .int .i64 r, .slice ma mn mc, .slice ca cn cc, .int .i64 nx]] w (StPost base b w (addOk nameB s (k, p, r, m, cl, nx)) (addS s (k, p, r, m, cl, nx))) := by
  obtain ⟨cv, fv, L, hI⟩ := h
  obtain ⟨iE, hiE, hzE, hz1E, hz2E⟩ := info_parts infoE
  have HIE := mkH (And.intro hiE (And.intro hzE (And.intro hz1E hz2E)))
  obtain ⟨va, vc, e1, _⟩ := own_slice hI.cols
  obtain ⟨fa, fc, e2, _⟩ := own_slice hI.row
  subst e1 e2
  have hbl := blk_lt hI.box
  have hbase := hI.size
  have hlen := hI.len
  have HRF := mkH (fun W => rightFile_any k p r ma mn mc ca cn cc nx W hp)
  have HB0 : Hid (Below w.heap.size w (w.alloc (.cells #[.int .i64 k, .string p, .int .i64 r, .slice ma mn mc, .slice ca cn cc, .int .i64 nx] 62))) := (Below.refl _ _).alloc (Nat.le_refl _) _
  have HBX : Hid (∀ W, Below (w.heap.size + 1) (w.alloc (.cells #[.int .i64 k, .string p, .int .i64 r, .slice ma mn mc, .slice ca cn cc, .int .i64 nx] 62)) W → W.cell? ⟨w.heap.size, 1, none⟩ = some (.string p) ∧ W.cell? ⟨w.heap.size, 2, none⟩ = some (.int .i64 r) ∧ SnapI base b W s (.slice va s.cols.length vc) (.slice fa L.length fc) L ∧ Below w.heap.size w W) := fun W hW =>
    ⟨(hW.cell (p := ⟨w.heap.size, 1, none⟩) (Nat.lt_succ_self _)).trans (by simp), (hW.cell (p := ⟨w.heap.size, 2, none⟩) (Nat.lt_succ_self _)).trans (by simp), hI.up (HB0.out.trans (hW.mono (Nat.le_succ _))), HB0.out.trans (hW.mono (Nat.le_succ _))⟩
  have HWH : Hid (∀ W, SnapI base b W s (.slice va s.cols.length vc) (.slice fa L.length fc) L → Calls Tryz.prog 103 #[.pointer (some ⟨b, 0, none⟩), .string p] W fun e w' => e = .returned (.int .i64 (whereF s.files p)) ∧ Below W.heap.size W w') := fun W hW => where_any base b s _ _ L p W hW
  have HOK : Hid (addOk nameB s (k, p, r, m, cl, nx) ↔ rfB p r = true ∧ whereF s.files p < 0 ∧ s.cols ≠ [] ∧ L.length < 40) := by
    show addOk nameB s (k, p, r, m, cl, nx) ↔ _
    rw [rfB_iff, ← hlen]; simp only [addOk]
    constructor
    · rintro ⟨a, b, c, d, e, f⟩; exact ⟨⟨a, b, c⟩, d, e, f⟩
    · rintro ⟨⟨a, b, c⟩, d, e, f⟩; exact ⟨a, b, c, d, e, f⟩
  have hne : b ≠ w.heap.size := by omega
  rw [hlen] at h40
  clear hI hlen hiE hzE hz1E hz2E
  generalize whereF s.files p = wh at HWH HOK
  cases hrf : rfB p r with
  | false =>
    rw [hrf] at HRF HOK
    go_enter Tryz.func72, Tryz.ntmps72
    go_wp2_with (go_at_call 52; refine (HRF.out _).mono ?_; rintro e w1 ⟨rfl, hb1⟩)
    go_ret
    exact st_no (by decide) (HB0.out.trans (hb1.mono (by simp)) |>.mono hbase) (fun hh => by have := HOK.out.1 hh; simp at this)
  | true =>
    rw [hrf] at HRF HOK
    by_cases hwh : 0 ≤ wh
    · go_enter Tryz.func72, Tryz.ntmps72
      go_wp2_with (first
        | (go_at_call 52; refine (HRF.out _).mono ?_; rintro e w1 ⟨rfl, hb1⟩; simp only [World.size_alloc] at hb1; obtain ⟨q1, q2, HI1, HW1⟩ := HBX.out _ hb1)
        | (go_at_call 103; refine (HWH.out _ HI1).mono ?_; rintro e w2 ⟨rfl, hb2⟩))
      go_ret
      exact st_no (by decide) ((Below.ups HW1 hb2).mono hbase) (fun hh => by have := (HOK.out.1 hh).2.1; omega)
    · by_cases hc : s.cols = []
      · have hc0 : s.cols.length = 0 := by rw [hc]; rfl
        go_enter Tryz.func72, Tryz.ntmps72
        go_wp2_with (first
          | (go_at_call 52; refine (HRF.out _).mono ?_; rintro e w1 ⟨rfl, hb1⟩; simp only [World.size_alloc] at hb1; obtain ⟨q1, q2, HI1, HW1⟩ := HBX.out _ hb1)
          | (go_at_call 103; refine (HWH.out _ HI1).mono ?_; rintro e w2 ⟨rfl, hb2⟩; obtain ⟨_, k1, _, k3, kf⟩ := (HI1.up hb2).cells))
        go_ret
        exact st_no (by decide) ((Below.ups HW1 hb2).mono hbase) (fun hh => (HOK.out.1 hh).2.2.1 hc)
      · have hc0 : ¬ s.cols.length = 0 := fun e => hc (List.length_eq_zero_iff.1 e)
        have hc0z : ¬ (s.cols.length : Int) = 0 := by omega
        by_cases hf : 40 ≤ L.length
        · have hfz : (40 : Int) ≤ (L.length : Int) := by omega
          go_enter Tryz.func72, Tryz.ntmps72
          go_wp2_with (first
            | (go_at_call 52; refine (HRF.out _).mono ?_; rintro e w1 ⟨rfl, hb1⟩; simp only [World.size_alloc] at hb1; obtain ⟨q1, q2, HI1, HW1⟩ := HBX.out _ hb1)
            | (go_at_call 103; refine (HWH.out _ HI1).mono ?_; rintro e w2 ⟨rfl, hb2⟩; obtain ⟨_, k1, _, k3, kf⟩ := (HI1.up hb2).cells))
          go_ret
          exact st_no (by decide) ((Below.ups HW1 hb2).mono hbase) (fun hh => by have := (HOK.out.1 hh).2.2.2; omega)
        · have hfz : ¬ (40 : Int) ≤ (L.length : Int) := by omega
          go_enter Tryz.func72, Tryz.ntmps72
          go_wp2_with (first
            | (go_at_call 52; refine (HRF.out _).mono ?_; rintro e w1 ⟨rfl, hb1⟩; simp only [World.size_alloc] at hb1; obtain ⟨q1, q2, HI1, HW1⟩ := HBX.out _ hb1)
            | (go_at_call 103; refine (HWH.out _ HI1).mono ?_; rintro e w2 ⟨rfl, hb2⟩; obtain ⟨_, k1, _, k3, kf⟩ := (HI1.up hb2).cells))
          have HI2 := mkH (HI1.up hb2)
          have HW2 := mkH (Below.ups HW1 hb2)
          have hs2 := HW2.out.size
          have hs1 := hb1.size
          simp only [World.size_alloc] at hs1
          have hs21 := hb2.size
          have p1 := (hb2.cell (p := ⟨w.heap.size, 1, none⟩) (by show w.heap.size < _; omega)).trans q1
          have p2 := (hb2.cell (p := ⟨w.heap.size, 2, none⟩) (by show w.heap.size < _; omega)).trans q2
          have kf3 := kf 3
          have hne2 : b ≠ w2.heap.size := by omega
          have hne3 : w.heap.size ≠ w2.heap.size := by omega
          have HDA : Hid (Below w2.heap.size w2 (w2.alloc (.cells #[.string p, .int .i64 r, .slice none 0 0] 70))) := (Below.refl _ _).alloc (Nat.le_refl _) _
          have HOD : Hid ((w2.alloc (.cells #[.string p, .int .i64 r, .slice none 0 0] 70)).drew.ownsRow base 70 3 (.slice fa L.length fc) L.length (cellsX L)) := (HI2.out.up HDA.out).row
          have HDB : Hid (((w2.alloc (.cells #[.string p, .int .i64 r, .slice none 0 0] 70)).drew).heap[w2.heap.size]? = some (.cells #[.string p, .int .i64 r, .slice none 0 0] 70)) := heap_alloc_new w2 _
          have k3a := (HI2.out.up HDA.out).cells.2.2.2.1
          clear HI1 HW1 hb1 hb2 hs1 hs21 q1 q2 k1 kf HBX HWH HRF HB0
          go_region_law
            (first
              | (refine step_append_lies _ (by rfl) (.tmp 33) (.tmp 39) 45 (by rfl) base 70 iE zeroEn 3 48 Tryz.underlying45 HIE.out.1 HIE.out.2.1 HIE.out.2.2.1 HIE.out.2.2.2 rfl (by decide) (.slice fa L.length fc) L.length _ (by rfl) HOD.out ⟨w2.heap.size, 0, none⟩ 1 1 [.string p, .int .i64 r, .slice none 0 0] (by rfl) rfl (fun j u hj => World.news_of_block HDB.out j u hj) (by intro u hu; simp only [List.mem_cons, List.not_mem_nil, or_false] at hu; rcases hu with rfl | rfl | rfl <;> rfl) (by omega) (by unfold maxLen; omega) (by omega) (by simp; omega) _ rfl ?_
                 intro g cap w5 ho5 hg5 hat5 hlt5
                 have HI5 : Hid (SnapI base b (w2.alloc (.cells #[.string p, .int .i64 r, .slice none 0 0] 70)).drew s (.slice va s.cols.length vc) (.slice fa L.length fc) L) := mkH (HI2.out.up HDA.out.drew)
                 have HNE : Hid (some b ≠ (Value.slice fa L.length fc).ownBlock) := mkH (fun e => own_box HI5.out.row HI5.out.box (by decide) e.symm)
                 have r1 := (hg5.cell_far ⟨b, 3, none⟩ (by simp; omega) HNE.out).trans HI5.out.cells.2.2.2.1
                 have r2 := (hg5.frozen_far ⟨b, 3, none⟩ (by simp; omega) HNE.out).trans (HI5.out.cells.2.2.2.2 3))
              | fail)
          all_goals
            go_wp2
            go_ret
            refine st_yes ?_ (HOK.out.2 ⟨by first | trivial | rfl, by omega, hc, by omega⟩) (HI5.out.more hg5 k p r m cl nx g cap ho5)
            have hb5 : Below base w w5 := ((HW2.out.mono hbase).trans (HDA.out.drew.mono (by omega))).grown hg5 (by have := HDA.out.size; show base ≤ (w2.alloc _).heap.size; omega) (fun j hj => (HI5.out.row.lt j hj).1)
            exact hb5.setCell (p := ⟨b, 3, none⟩) HI5.out.low _
end Go.Proofs.YtfppidnfomelpaaGreatDoor
