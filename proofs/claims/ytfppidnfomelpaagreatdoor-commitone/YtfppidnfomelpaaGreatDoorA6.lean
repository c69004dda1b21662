/- What log.remove and log.change do, said of every call. -/
import Derived.Test.YtfppidnfomelpaaGreatDoorA5
namespace Go.Proofs.YtfppidnfomelpaaGreatDoor
open Go.RowKit Go.Proofs Go.Lib Go.Joins

theorem map_erase (l : List EntV) (k : Nat) : (l.eraseIdx k).map (·.1) = (l.map (·.1)).eraseIdx k := by
  rw [List.eraseIdx_eq_take_drop_succ, List.eraseIdx_eq_take_drop_succ, List.map_append, List.map_take, List.map_drop]
theorem where_nat {l : List Ent} {p : ByteArray} (h : 0 ≤ whereF l p) : ∃ k : Nat, k < l.length ∧ whereF l p = k ∧ l[k]!.1 = p := by
  rcases where_cases l p with ⟨h0, _⟩ | ⟨k, hk, hf, hp, _⟩
  · omega
  · exact ⟨k, hk, hf, hp⟩

theorem SnapI.less {base b : Nat} {w W : World} {s : Snap} {cv : Value} {g n cap : Nat} {L : List EntV} (h : SnapI base b w s cv (.slice (some ⟨g, 0, none⟩) n cap) L) (hg : w.grownBy W (some g)) (a : Actn) (k : Nat) (hk : k < L.length) (hw : whereF s.files a.2.1 = k)
    (ho : W.ownsRow base 70 3 (.slice (some ⟨g, 0, none⟩) (L.length - 1) cap) (L.length - 1) (cellsX (L.eraseIdx k))) :
    SnapAt base b (W.setCell ⟨b, 3, none⟩ (.slice (some ⟨g, 0, none⟩) (L.length - 1) cap)) (remS s a) := by
  have hl := List.length_eraseIdx_of_lt hk
  refine ⟨cv, _, L.eraseIdx k, h.put _ _ hg ?_ rfl rfl rfl ?_ ?_ ?_⟩
  · rw [hl]; exact ho
  · simp only [remS]
    rw [hw, h.files, map_erase]
    rfl
  · intro x hx
    have hx' := List.mem_of_mem_eraseIdx hx
    exact own_keep (h.masks x hx') hg (fun k hk e => own_ne (h.masks x hx') h.row (by decide) k hk e)
  · exact h.apart.sublist (List.eraseIdx_sublist _ _)

theorem delete_int (B g cap i : Nat) (l : List EntV) (w : World) (h : w.ownsRow B 70 3 (.slice (some ⟨g, 0, none⟩) l.length cap) l.length (cellsX l)) (hi : i < l.length) :
    Calls Tryz.prog 104 #[.slice (some ⟨g, 0, none⟩) l.length cap, .int .i64 i, .int .i64 ((i : Int) + 1)] w fun e w' => e = .returned (.slice (some ⟨g, 0, none⟩) (l.length - 1) cap) ∧ w'.ownsRow B 70 3 (.slice (some ⟨g, 0, none⟩) (l.length - 1) cap) (l.length - 1) (cellsX (l.eraseIdx i)) ∧ w.grownBy w' (some g) := by
  have := delete_any B g cap i l w h hi
  rwa [show ((i + 1 : Nat) : Int) = (i : Int) + 1 by omega] at this

set_option maxHeartbeats 4000000 in
set_option maxRecDepth 100000 in
theorem remove_any (base b : Nat) (s : Snap) (k : Int) (p : ByteArray) (r : Int) (m : List Int) (cl : List Col) (nx : Int) (ma : Option Addr) (mn mc : Nat) (ca : Option Addr) (cn cc : Nat) (w : World) (h : SnapAt base b w s) (h40 : s.files.length ≤ 40) :
    Calls Tryz.prog 73 #[.pointer (some ⟨b, 0, none⟩), .agg #[.int .i64 k, .string p, .int .i64 r, .slice ma mn mc, .slice ca cn cc, .int .i64 nx]] w (StPost base b w (0 ≤ whereF s.files p) (remS s (k, p, r, m, cl, nx))) := by
  obtain ⟨cv, fv, L, hI⟩ := h
  obtain ⟨va, vc, e1, _⟩ := own_slice hI.cols
  subst e1
  have hbl := blk_lt hI.box
  have hbase := hI.size
  have hlen := hI.len
  have HB0 : Hid (Below w.heap.size w (w.alloc (.cells #[.int .i64 k, .string p, .int .i64 r, .slice ma mn mc, .slice ca cn cc, .int .i64 nx] 62))) := (Below.refl _ _).alloc (Nat.le_refl _) _
  have HWH : Hid (Calls Tryz.prog 103 #[.pointer (some ⟨b, 0, none⟩), .string p] (w.alloc (.cells #[.int .i64 k, .string p, .int .i64 r, .slice ma mn mc, .slice ca cn cc, .int .i64 nx] 62)) fun e w' => e = .returned (.int .i64 (whereF s.files p)) ∧ Below (w.heap.size + 1) (w.alloc (.cells #[.int .i64 k, .string p, .int .i64 r, .slice ma mn mc, .slice ca cn cc, .int .i64 nx] 62)) w') := by
    have := where_any base b s _ _ L p _ (hI.up HB0.out)
    rw [World.size_alloc] at this
    exact this
  have hne : b ≠ w.heap.size := by omega
  by_cases hwh : 0 ≤ whereF s.files p
  · obtain ⟨i, hi, hf, _⟩ := where_nat hwh
    rw [hlen] at hi h40
    rcases own_forms hI.row with ⟨_, e0⟩ | ⟨g, c, e2, hgb, hgl, hc1, hc2⟩
    · omega
    · subst e2
      have HI := mkH hI
      have hiz : ¬ ((i : Int) < 0) := by omega
      have hi40 : (i : Int) < 40 := by omega
      have HF := mkH hf
      rw [hf] at HWH
      clear hI hlen hf hwh
      go_enter Tryz.func73, Tryz.ntmps73
      go_wp2_with (first
        | (go_at_call 103; refine HWH.out.mono ?_; rintro e w1 ⟨rfl, hb1⟩
           have HW1 := mkH (HB0.out.trans (hb1.mono (Nat.le_succ _)))
           have HI1 := mkH (HI.out.up HW1.out)
           obtain ⟨_, _, _, k3, kf⟩ := HI1.out.cells
           have hs1 := HW1.out.size)
        | (go_at_call 104; refine (delete_int base g c i L _ HI1.out.row hi).mono ?_; rintro e w2 ⟨rfl, ho2, hg2⟩
           have HNE : Hid (some b ≠ some g) := mkH (fun e => own_box HI1.out.row HI1.out.box (by decide) e.symm)
           have r1 := (hg2.cell_far ⟨b, 3, none⟩ (by show b < _; omega) HNE.out).trans k3
           have r2 := (hg2.frozen_far ⟨b, 3, none⟩ (by show b < _; omega) HNE.out).trans (kf 3)))
      go_ret
      refine st_yes ?_ (by rw [HF.out]; omega) (HI1.out.less hg2 (k, p, r, m, cl, nx) i hi HF.out ho2)
      have hb5 : Below base w w2 := (HW1.out.mono hbase).grown hg2 (by omega) (fun j hj => by cases hj; exact hgb)
      exact hb5.setCell (p := ⟨b, 3, none⟩) HI1.out.low _
  · have hwz : whereF s.files p < 0 := by omega
    generalize whereF s.files p = wh at *
    clear hI hlen
    go_enter Tryz.func73, Tryz.ntmps73
    go_wp2_with (go_at_call 103; refine HWH.out.mono ?_; rintro e w1 ⟨rfl, hb1⟩)
    go_ret
    exact st_no (by decide) ((HB0.out.trans (hb1.mono (Nat.le_succ _))).mono hbase) (by omega)
end Go.Proofs.YtfppidnfomelpaaGreatDoor
