/- What log.copied does, said of every call. -/
import Derived.Test.YtfppidnfomelpaaGreatDoorB2
namespace Go.Proofs.YtfppidnfomelpaaGreatDoor
open Go.RowKit Go.Proofs Go.Lib Go.Joins

theorem cells4 {W : World} {b : Nat} {x0 x1 x2 x3 : Value} {t : TypeId} (h : W.heap[b]? = some (.cells #[x0, x1, x2, x3] t (0, 0))) :
    W.cell? ⟨b, 0, none⟩ = some x0 ∧ W.cell? ⟨b, 1, none⟩ = some x1 ∧ W.cell? ⟨b, 2, none⟩ = some x2 ∧ W.cell? ⟨b, 3, none⟩ = some x3 ∧ ∀ i, W.frozen? ⟨b, i, none⟩ = false := by
  refine ⟨?_, ?_, ?_, ?_, fun i => ?_⟩ <;> simp [World.cell?, World.frozen?, h]
theorem two_alloc (w : World) (x y : Obj) : ((w.alloc x).alloc y).heap.size = w.heap.size + 2 ∧ ((w.alloc x).alloc y).heap[w.heap.size]? = some x ∧ ((w.alloc x).alloc y).heap[w.heap.size + 1]? = some y ∧ Below w.heap.size w ((w.alloc x).alloc y) := by
  refine ⟨by simp, ?_, ?_, ((Below.refl _ _).alloc (Nat.le_refl _) _).alloc (by simp) _⟩
  · rw [((Below.refl (w.alloc x).heap.size (w.alloc x)).alloc (Nat.le_refl _) y).block w.heap.size (by simp)]
    exact heap_alloc_new w x
  · have := heap_alloc_new (w.alloc x) y
    rwa [World.size_alloc] at this

def CopPost (w : World) (s : Snap) (n : Nat) (e : Ending) (w' : World) : Prop :=
  ∃ a1 c1 a2 c2 L', e = .returned (.agg #[.int .i64 s.ver, .slice a1 s.cols.length c1, .int .i64 s.next, .slice a2 n c2]) ∧ SnapO w.heap.size w' s (.slice a1 s.cols.length c1) (.slice a2 n c2) L' ∧ Below w.heap.size w w'

set_option maxHeartbeats 8000000 in
set_option maxRecDepth 100000 in
theorem copied_any (s : Snap) (va : Option Addr) (vn vc : Nat) (fa : Option Addr) (fn fc : Nat) (L : List EntV) (w : World) (h : SnapV w s (.slice va vn vc) (.slice fa fn fc) L) (hg : Good colB fitB s) :
    Calls Tryz.prog 41 #[.agg #[.int .i64 s.ver, .slice va vn vc, .int .i64 s.next, .slice fa fn fc]] w (CopPost w s L.length) := by
  have hc8 : s.cols.length ≤ 8 := by
    rcases hg.cols with e | e
    · rw [e]; simp
    · exact e.2.1
  have hlen : s.files.length = L.length := by rw [h.files]; simp
  have h40 : L.length ≤ 40 := by rw [← hlen]; exact hg.few
  have hm60 : ∀ j, j < L.length → L[j]!.1.2.2.length ≤ 60 := fun j hj => by
    have hx : L[j]! ∈ L := by rw [getElem!_pos L j hj]; exact List.getElem_mem hj
    exact good_mask_len hg (by rw [h.files]; exact List.mem_map_of_mem hx)
  have HM60 := mkH hm60
  have HFI := mkH h.files
  have HCC : Hid (∀ W, Below w.heap.size w W → Calls Tryz.prog 70 #[.slice va vn vc] W fun en w' => ∃ a c, en = .returned (.slice a s.cols.length c) ∧ w'.ownsRow W.heap.size 67 7 (.slice a s.cols.length c) s.cols.length (cellsC s.cols) ∧ Below W.heap.size W w') := fun W hW => cloneC_own 0 _ _ s.cols W (own_up h.cols hW) (by omega)
  have HCE : Hid (∀ W, Below w.heap.size w W → Calls Tryz.prog 71 #[.slice fa fn fc] W fun en w' => ∃ a c, en = .returned (.slice a L.length c) ∧ w'.ownsRow W.heap.size 70 3 (.slice a L.length c) L.length (cellsX L) ∧ Below W.heap.size W w') := fun W hW => cloneE_own 0 _ _ L W (own_up h.row hW) (by omega)
  have HCI : Hid (∀ j, j < L.length → ∀ W, Below w.heap.size w W → Calls Tryz.prog 30 #[sv L[j]!.2] W fun en w' => ∃ a c, en = .returned (.slice a L[j]!.1.2.2.length c) ∧ w'.ownsRow W.heap.size 3 1 (.slice a L[j]!.1.2.2.length c) L[j]!.1.2.2.length (L[j]!.1.2.2.map (.int .i64)) ∧ Below W.heap.size W w') := fun j hj W hW => by
    have hx : L[j]! ∈ L := by rw [getElem!_pos L j hj]; exact List.getElem_mem hj
    exact cloneI_own 0 _ _ _ W (own_up (h.masks _ hx) hW) (by have := hm60 j hj; omega)
  have e18 : ∀ args w, (callFunc 30 args).run Tryz.prog w = .ok (.enter 30 args) w := enters_of Tryz.func30 (by kernel_rfl) rfl
  have HE18 := mkH e18
  obtain ⟨t0, t1, t2, t3⟩ := two_alloc w (.cells #[.int .i64 s.ver, .slice va vn vc, .int .i64 s.next, .slice fa fn fc] 47) (.cells #[.int .i64 0, .slice none 0 0, .int .i64 0, .slice none 0 0] 47)
  have T0 := mkH t0
  have T1 := mkH t1
  have T2 := mkH t2
  have T3 := mkH t3
  clear t0 t1 t2 t3 e18 h hg hm60 hlen
  go_enter Tryz.func41, Tryz.ntmps41
  go_wp2_with fail
  obtain ⟨wa, hwa⟩ : ∃ wa, wa = (w.alloc (.cells #[.int .i64 s.ver, .slice va vn vc, .int .i64 s.next, .slice fa fn fc] 47)).alloc (.cells #[.int .i64 0, .slice none 0 0, .int .i64 0, .slice none 0 0] 47) := ⟨_, rfl⟩
  rw [← hwa] at T0 T1 T2 T3 ⊢
  clear hwa
  refine (HCC.out _ T3.out).mono ?_
  rintro e w1 ⟨a1, c1, rfl, ho1, hb1⟩
  rw [T0.out] at ho1 hb1
  have t10 := hb1.size
  rw [T0.out] at t10
  have B1 := mkH ((hb1.block w.heap.size (by omega)).trans T1.out)
  have B2 := mkH ((hb1.block (w.heap.size + 1) (by omega)).trans T2.out)
  have HW1 := mkH (T3.out.trans (hb1.mono (by omega)))
  have HO1 := mkH ho1
  clear ho1 hb1 T0 T1 T2 T3
  obtain ⟨k0, k1, k2, k3, kf⟩ := cells4 B1.out
  have kf1 := kf 1
  have B1' := mkH (heap_setC w1 w.heap.size 1 _ _ (.slice a1 s.cols.length c1) B1.out)
  have HG1 := mkH (grown_setC w1 w.heap.size 1 (.slice a1 s.cols.length c1))
  have HW1' := mkH (HW1.out.setCell (p := ⟨w.heap.size, 1, none⟩) (Nat.le_refl _) (.slice a1 s.cols.length c1))
  have HO1' := mkH (own_keep HO1.out HG1.out (fun q hq e => by have := (HO1.out.lt q hq).1; injection e with e; omega))
  have B2' := mkH ((HG1.out.block (w.heap.size + 1) (blk_lt B2.out) (fun e => by injection e with e; omega)).trans B2.out)
  have t10' : w.heap.size + 2 ≤ (w1.setCell ⟨w.heap.size, 1, none⟩ (.slice a1 s.cols.length c1)).heap.size := by have := HG1.out.size; omega
  clear k0 k2 kf HG1 HW1 HO1 B1 B2 t10
  go_wp2_with fail
  generalize w1.setCell ⟨w.heap.size, 1, none⟩ (.slice a1 s.cols.length c1) = w2 at *
  clear k1 kf1 k3
  refine (HCE.out _ HW1'.out).mono ?_
  rintro e w3 ⟨a2, c2, rfl, ho2, hb2⟩
  have t30 := hb2.size
  have B1 := mkH ((hb2.block w.heap.size (by omega)).trans B1'.out)
  have B2 := mkH ((hb2.block (w.heap.size + 1) (by omega)).trans B2'.out)
  have HW3 := mkH (HW1'.out.trans (hb2.mono (by omega)))
  have HO1 := mkH (own_up HO1'.out hb2)
  have HO2 := mkH (own_base ho2 t10')
  clear ho2 hb2 B1' B2' HW1' HO1'
  simp only [List.setIfInBounds_toArray, List.set_cons_succ, List.set_cons_zero] at B1
  obtain ⟨k0, k1, k2, k3, kf⟩ := cells4 B1.out
  have kf3 := kf 3
  have B1' := mkH (heap_setC w3 w.heap.size 3 _ _ (.slice a2 L.length c2) B1.out)
  have HG3 := mkH (grown_setC w3 w.heap.size 3 (.slice a2 L.length c2))
  have HW3' := mkH (HW3.out.setCell (p := ⟨w.heap.size, 3, none⟩) (Nat.le_refl _) (.slice a2 L.length c2))
  have HO1' := mkH (own_keep HO1.out HG3.out (fun q hq e => by have := (HO1.out.lt q hq).1; injection e with e; omega))
  have HO2' := mkH (own_keep HO2.out HG3.out (fun q hq e => by have := (HO2.out.lt q hq).1; injection e with e; omega))
  have B2' := mkH ((HG3.out.block (w.heap.size + 1) (blk_lt B2.out) (fun e => by injection e with e; omega)).trans B2.out)
  have t30' : w.heap.size + 2 ≤ (w3.setCell ⟨w.heap.size, 3, none⟩ (.slice a2 L.length c2)).heap.size := by have := HG3.out.size; omega
  have HC0 : Hid (Cop w (w3.setCell ⟨w.heap.size, 3, none⟩ (.slice a2 L.length c2)) s L (.slice a1 s.cols.length c1) (.slice a2 L.length c2) 0 L) :=
    mkH ⟨B1'.out, B2'.out, HO1'.out, rfl, rfl, HO2'.out, fun j hj => absurd hj (Nat.not_lt_zero _), fun _ _ _ => rfl, fun _ _ _ hj => absurd hj (Nat.not_lt_zero _), HW3'.out, t30'⟩
  clear k0 k1 k2 kf HG3 HW3 HO1 HO2 B1 B2 t30 t10' HO1' HO2' B1' B2' HW3' t30' HCC HCE
  go_wp2_with fail
  go_loopw [15] (fun vi wr => ∃ k : Nat, k ≤ L.length ∧ vi = .int .i64 k ∧ ∃ L', Hid (Cop w wr s L (.slice a1 s.cols.length c1) (.slice a2 L.length c2) k L')) (fun vi _ => L.length - (intOf vi).toNat)
  case atStart => exact ⟨0, Nat.zero_le _, rfl, L, HC0⟩
  case round =>
    clear k3 kf3 HC0
    obtain ⟨k, hk, rfl, L', HC⟩ := hrel
    obtain ⟨q0, q1, q2, q3, qf⟩ := cells4 HC.out.b1
    by_cases hlt : k < L.length
    · have hltz : (k : Int) < (L.length : Int) := by omega
      rcases own_forms HC.out.row with ⟨_, e0⟩ | ⟨g, cg, eg, hgb, hgl, _, _⟩
      · omega
      · injection eg with eg1 _ eg2
        subst eg1 eg2
        have hrx := rowX HC.out.row HC.out.len.symm k (by rw [HC.out.len]; exact hlt) 2 (sv L'[k]!.2) rfl
        rw [Nat.zero_add, HC.out.left k (Nat.le_refl _) hlt] at hrx
        have hfz := HC.out.row.frozenAt (k * 3 + 2)
        have HCK := mkH (HCI.out k hlt)
        have HNX : Hid (∀ w4, Below wr.heap.size wr w4 → w4.cell? ⟨w.heap.size, 3, none⟩ = some (.slice (some ⟨g, 0, none⟩) L.length c2) ∧ w4.cell? ⟨g, k * 3 + 2, none⟩ = some (sv L[k]!.2) ∧ w4.frozen? ⟨g, k * 3 + 2, none⟩ = false) := fun w4 hb4 => by
          refine ⟨(hb4.cell (p := ⟨w.heap.size, 3, none⟩) (by have := HC.out.size; show w.heap.size < _; omega)).trans q3, (hb4.cell (p := ⟨g, k * 3 + 2, none⟩) hgl).trans hrx, (hb4.frozen (p := ⟨g, k * 3 + 2, none⟩) hgl).trans hfz⟩
        obtain ⟨⟨xe, xa, xn, xc⟩, hxe⟩ : ∃ x, L[k]! = x := ⟨_, rfl⟩
        have HXE := mkH hxe
        rw [hxe] at hrx HCK HNX
        clear hxe q0 q1 q2 qf hfz
        go_wp2_with fail
        go_region_law
          (first
            | (refine step_call1 (by rfl) 30 (.tmp 26) 38 (by rfl) (.slice xa xn xc) (by rfl) HE18.out _ (HCK.out _ (HC.out.low.drew)) ?_
               rintro e w4 ⟨a4, c4, rfl, ho4, hb4'⟩
               have hb4 : Below wr.heap.size wr w4 := Below.ups (Below.refl _ _).drew hb4'
               refine ⟨_, rfl, ?_⟩
               obtain ⟨p1, p2, p3⟩ := HNX.out w4 hb4)
            | fail)
        all_goals
          go_wp2
          go_roundw
          case rel =>
            refine ⟨k + 1, by omega, by go_num, _, mkH (HC.out.next hlt hb4 (a4, xe.2.2.length, c4) ?_)⟩
            rw [HXE.out]
            exact ho4
          case measure => simp [intOf]; omega
    · have hkl : k = L.length := by omega
      subst hkl
      obtain ⟨z0, z1, z2, z3, zf⟩ := cells4 HC.out.b2
      have zf0 := zf 0
      have zf1 := zf 1
      have zf2 := zf 2
      have zf3 := zf 3
      clear qf zf
      go_wp2
      refine bodyPost_ret (v := .agg #[.int .i64 s.ver, .slice a1 s.cols.length c1, .int .i64 s.next, .slice a2 L.length c2]) (by simp [results, Tryz.results41, go_sem, z0, z1, z2, z3]) rfl ?_
      refine ⟨a1, c1, a2, c2, L', rfl, HC.out.whole HFI.out ?_, ?_⟩
      · exact grown_two (grown_two (grown_two (grown_setC _ _ _ _) (grown_setC _ _ _ _)) (grown_setC _ _ _ _)) (grown_setC _ _ _ _)
      · exact (((HC.out.low.setCell (p := ⟨w.heap.size + 1, _, none⟩) (Nat.le_succ _) _).setCell (p := ⟨w.heap.size + 1, _, none⟩) (Nat.le_succ _) _).setCell (p := ⟨w.heap.size + 1, _, none⟩) (Nat.le_succ _) _).setCell (p := ⟨w.heap.size + 1, _, none⟩) (Nat.le_succ _) _
end Go.Proofs.YtfppidnfomelpaaGreatDoor
