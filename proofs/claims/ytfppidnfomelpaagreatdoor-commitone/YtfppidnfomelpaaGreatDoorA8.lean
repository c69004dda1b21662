/- What log.mask does, said of every call (the walk). -/
import Derived.Test.YtfppidnfomelpaaGreatDoorA7
namespace Go.Proofs.YtfppidnfomelpaaGreatDoor
open Go.RowKit Go.Proofs Go.Lib Go.Joins
open Go.Sort (grow)

/-- A mask that turned where it lies. -/
theorem SnapI.sorted {base b : Nat} {w W : World} {s : Snap} {cv fv : Value} {L : List EntV} (h : SnapI base b w s cv fv L) (k : Nat) (hk : k < L.length) (m : List Int)
    (hg : w.grownBy W (sv L[k]!.2).ownBlock) (hv : W.ownsRow base 3 1 (sv L[k]!.2) m.length (m.map (.int .i64))) :
    SnapI base b W ⟨s.ver, s.cols, s.next, s.files.set k (L[k]!.1.1, L[k]!.1.2.1, m)⟩ cv fv (L.set k ((L[k]!.1.1, L[k]!.1.2.1, m), L[k]!.2)) := by
  have hx : L[k]! ∈ L := by rw [getElem!_pos L k hk]; exact List.getElem_mem hk
  have hmk := h.masks _ hx
  have hrow : W.ownsRow base 70 3 fv L.length (cellsX L) := own_keep h.row hg (fun q hq e => own_ne hmk h.row (by decide) q e hq)
  have hcell : cellsX (L.set k ((L[k]!.1.1, L[k]!.1.2.1, m), L[k]!.2)) = cellsX L := by
    simp only [cellsX, List.flatMap_def, List.map_set]
    congr 1
    have e : encX ((L[k]!.1.1, L[k]!.1.2.1, m), L[k]!.2) = (L.map encX)[k]'(by simpa using hk) := by
      rw [List.getElem_map, getElem!_pos L k hk]; rfl
    rw [e, List.set_getElem_self]
  refine ⟨(hg.block b (blk_lt h.box) (fun e => own_box hmk h.box (by decide) e.symm)).trans h.box, h.low, own_keep h.cols hg (fun q hq e => own_ne hmk h.cols (by decide) q e hq), ?_, ?_, ?_, ?_⟩
  · rw [h.files, List.map_set]
  · rw [List.length_set, hcell]; exact hrow
  · intro x hx
    obtain ⟨j, hj, rfl⟩ := List.getElem_of_mem hx
    have hj' : j < L.length := by simpa using hj
    rw [List.getElem_set]
    split
    · exact hv
    · rename_i hne
      have hjm := h.masks _ (List.getElem_mem hj')
      refine own_keep hjm hg (fun q hq e => ?_)
      rw [getElem!_pos L k hk] at e
      rcases Nat.lt_or_gt_of_ne hne with hlt | hgt
      · exact List.pairwise_iff_getElem.1 h.apart k j hk hj' hlt q e hq
      · exact List.pairwise_iff_getElem.1 h.apart j k hj' hk hgt q hq e
  · rw [List.pairwise_iff_getElem]
    intro i j hi hj hij q hq hq'
    have hi' : i < L.length := by simpa using hi
    have hj' : j < L.length := by simpa using hj
    have same : ∀ t (ht : t < L.length), (sv ((L.set k ((L[k]!.1.1, L[k]!.1.2.1, m), L[k]!.2))[t]'(by simpa using ht)).2) = sv L[t].2 := by
      intro t ht
      rw [List.getElem_set]
      split
      · rename_i e; subst e; rw [getElem!_pos L k ht]
      · rfl
    rw [same i hi'] at hq
    rw [same j hj'] at hq'
    exact List.pairwise_iff_getElem.1 h.apart i j hi' hj' hij q hq hq'

theorem SnapI.at {base b : Nat} {w : World} {s : Snap} {cv fv : Value} {L : List EntV} (h : SnapI base b w s cv fv L) {k : Nat} (hk : k < L.length) : s.files[k]! = L[k]!.1 := by
  rw [h.files, getElem!_pos _ k (by simpa using hk), getElem!_pos L k hk, List.getElem_map]

theorem SnapI.final {base b : Nat} {w W w5 : World} {s : Snap} {cv : Value} {g n cap : Nat} {L : List EntV} (h : SnapI base b w s cv (.slice (some ⟨g, 0, none⟩) n cap) L) (i : Nat) (hi : i < L.length) (a : Actn) (hw : whereF s.files a.2.1 = i) (g5 cap5 : Nat)
    (hg : w.grownBy w5 (sv L[i]!.2).ownBlock) (hv : w5.ownsRow base 3 1 (.slice (some ⟨g5, 0, none⟩) (L[i]!.1.2.2.length + a.2.2.2.1.length) cap5) (L[i]!.1.2.2.length + a.2.2.2.1.length) (L[i]!.1.2.2.map (.int .i64) ++ a.2.2.2.1.map (.int .i64)))
    (hat : (sv L[i]!.2).ownBlock = some g5 ∨ g5 = w.heap.size) (hgs : (w5.setCell ⟨g, i * 3 + 2, none⟩ (.slice (some ⟨g5, 0, none⟩) (L[i]!.1.2.2.length + a.2.2.2.1.length) cap5)).grownBy W (some g5))
    (hvs : W.ownsRow base 3 1 (.slice (some ⟨g5, 0, none⟩) (L[i]!.1.2.2.length + a.2.2.2.1.length) cap5) (L[i]!.1.2.2.length + a.2.2.2.1.length) ((sortR (L[i]!.1.2.2 ++ a.2.2.2.1)).map (.int .i64))) : SnapAt base b W (mskS s a) := by
  have hl : (L[i]!.1.2.2 ++ a.2.2.2.1).length = L[i]!.1.2.2.length + a.2.2.2.1.length := by simp
  have h1 := h.masked i hi (L[i]!.1.2.2 ++ a.2.2.2.1) (some ⟨g5, 0, none⟩, L[i]!.1.2.2.length + a.2.2.2.1.length, cap5) hg (by rw [hl, List.map_append]; exact hv)
    (by rcases hat with e | e
        · exact .inl e
        · exact .inr ⟨g5, rfl, by omega⟩)
  have e : (L.set i ((L[i]!.1.1, L[i]!.1.2.1, L[i]!.1.2.2 ++ a.2.2.2.1), (some ⟨g5, 0, none⟩, L[i]!.1.2.2.length + a.2.2.2.1.length, cap5)))[i]! = ((L[i]!.1.1, L[i]!.1.2.1, L[i]!.1.2.2 ++ a.2.2.2.1), (some ⟨g5, 0, none⟩, L[i]!.1.2.2.length + a.2.2.2.1.length, cap5)) := by
    rw [getElem!_pos _ i (by simpa using hi), List.getElem_set_self]
  have h2 := h1.sorted i (by simpa using hi) (sortR (L[i]!.1.2.2 ++ a.2.2.2.1)) (by rw [e]; exact hgs) (by rw [e, sortR_len, hl]; exact hvs)
  rw [e] at h2
  have e2 : mskS s a = ⟨s.ver, s.cols, s.next, (s.files.set i (L[i]!.1.1, L[i]!.1.2.1, L[i]!.1.2.2 ++ a.2.2.2.1)).set i (L[i]!.1.1, L[i]!.1.2.1, sortR (L[i]!.1.2.2 ++ a.2.2.2.1))⟩ := by
    simp only [mskS, hw, Int.toNat_natCast, h.at hi, maskE, List.set_set]
  rw [e2]
  exact ⟨_, _, _, h2⟩

theorem LiI.len {w : World} {ma : Option Addr} {mn mc : Nat} {l : List Int} (h : LiI w (.slice ma mn mc) l) : mn = l.length ∧ l.length ≤ mc := by
  rcases h with ⟨⟨_, _, e⟩, e0⟩ | ⟨g, o, c, e, _, hc, _⟩
  · cases e; subst e0; exact ⟨rfl, Nat.zero_le _⟩
  · cases e; exact ⟨rfl, hc⟩

set_option maxHeartbeats 8000000 in
set_option maxRecDepth 100000 in
theorem mask_any (base b : Nat) (s : Snap) (k : Int) (p : ByteArray) (r : Int) (m : List Int) (cl : List Col) (nx : Int) (ma : Option Addr) (mn mc : Nat) (ca : Option Addr) (cn cc : Nat) (w : World) (h : SnapAt base b w s)
    (hm : LiI w (.slice ma mn mc) m) (h100 : m.length ≤ 600000) (h60 : ∀ e ∈ s.files, e.2.2.length ≤ 60) :
    Calls Tryz.prog 74 #[.pointer (some ⟨b, 0, none⟩), .agg #[.int .i64 k, .string p, .int .i64 r, .slice ma mn mc, .slice ca cn cc, .int .i64 nx]] w (StPost base b w (mskOk s (k, p, r, m, cl, nx)) (mskS s (k, p, r, m, cl, nx))) := by
  obtain ⟨cv, fv, L, hI⟩ := h
  obtain ⟨va, vc, e1, _⟩ := own_slice hI.cols
  subst e1
  have hbl := blk_lt hI.box
  have hbase := hI.size
  have hlen := hI.len
  have HB0 : Hid (Below w.heap.size w (w.alloc (.cells #[.int .i64 k, .string p, .int .i64 r, .slice ma mn mc, .slice ca cn cc, .int .i64 nx] 62))) := (Below.refl _ _).alloc (Nat.le_refl _) _
  have HWH : Hid (Calls Tryz.prog 103 #[.pointer (some ⟨b, 0, none⟩), .string p] (w.alloc (.cells #[.int .i64 k, .string p, .int .i64 r, .slice ma mn mc, .slice ca cn cc, .int .i64 nx] 62)) fun e w' => e = .returned (.int .i64 (whereF s.files p)) ∧ Below (w.heap.size + 1) (w.alloc (.cells #[.int .i64 k, .string p, .int .i64 r, .slice ma mn mc, .slice ca cn cc, .int .i64 nx] 62)) w') := by
    have := where_any base b s _ _ L p _ (hI.up HB0.out)
    rw [World.size_alloc] at this
    exact this
  have hne : b ≠ w.heap.size := by omega
  by_cases hwh : 0 ≤ whereF s.files p
  · obtain ⟨i, hi, hf, _⟩ := where_nat hwh
    have h60' : L[i]!.1.2.2.length ≤ 60 := by rw [← hI.at (by omega)]; exact h60 _ (mem_ent hi)
    rw [hlen] at hi
    rcases own_forms hI.row with ⟨_, e0⟩ | ⟨g, c, e2, hgb, hgl, hc1, hc2⟩
    · omega
    · subst e2
      have HI := mkH hI
      have hiz : ¬ ((i : Int) < 0) := by omega
      have hiL : (i : Int) < (L.length : Int) := by omega
      have HF := mkH hf
      have HOK : Hid (mskOk s (k, p, r, m, cl, nx) ↔ risingB m L[i]!.1.2.1 = true ∧ anyB m L[i]!.1.2.2 = false) := by
        show mskOk s (k, p, r, m, cl, nx) ↔ _
        simp only [mskOk, hf, Int.toNat_natCast, hI.at hi]
        constructor
        · rintro ⟨_, a, b⟩; exact ⟨a, b⟩
        · rintro ⟨a, b⟩; exact ⟨by omega, a, b⟩
      rw [hf] at HWH
      have hx : L[i]! ∈ L := by rw [getElem!_pos L i hi]; exact List.getElem_mem hi
      have HLX := mkH hx
      obtain ⟨⟨⟨xp, xr, xm⟩, xa, xn, xc⟩, hxe⟩ : ∃ x, L[i]! = x := ⟨_, rfl⟩
      have HXE := mkH hxe
      have HK : Hid (∀ W, Below (w.heap.size + 1) (w.alloc (.cells #[.int .i64 k, .string p, .int .i64 r, .slice ma mn mc, .slice ca cn cc, .int .i64 nx] 62)) W → W.cell? ⟨w.heap.size, 3, none⟩ = some (.slice ma mn mc) ∧ W.cell? ⟨g, i * 3 + 1, none⟩ = some (.int .i64 xr) ∧ W.cell? ⟨g, i * 3 + 2, none⟩ = some (.slice xa xn xc) ∧ SnapI base b W s (.slice va s.cols.length vc) (.slice (some ⟨g, 0, none⟩) L.length c) L ∧ Below w.heap.size w W ∧ LiI W (.slice ma mn mc) m ∧ LiI W (.slice xa xn xc) xm ∧ W.frozen? ⟨g, i * 3 + 2, none⟩ = false ∧ w.heap.size + 1 ≤ W.heap.size) := fun W hW => by
        have hBW := HB0.out.trans (hW.mono (Nat.le_succ _))
        have hIW := hI.up hBW
        have h1 := rowX hIW.row rfl i hi
        rw [hxe] at h1
        have hmk := hIW.masks _ hx
        rw [hxe] at hmk
        have hsz := hW.size
        rw [World.size_alloc] at hsz
        refine ⟨(hW.cell (p := ⟨w.heap.size, 3, none⟩) (Nat.lt_succ_self _)).trans (by simp), ?_, ?_, hIW, hBW, hm.below hBW, LiI.of_own hmk, hIW.row.frozenAt _, hsz⟩
        · have := h1 1 _ rfl; rwa [Nat.zero_add] at this
        · have := h1 2 _ rfl; rwa [Nat.zero_add] at this
      have HRI : Hid (∀ W, LiI W (.slice ma mn mc) m → Calls Tryz.prog 53 #[.slice ma mn mc, .int .i64 xr] W fun e w' => e = .returned (.bool (risingB m xr)) ∧ Below W.heap.size W w') := fun W hW => rising_any _ m xr W hW (by unfold maxLen; omega)
      rw [hxe] at h60' HOK
      simp only at h60' HOK
      have HAN : Hid (∀ W, LiI W (.slice ma mn mc) m → LiI W (.slice xa xn xc) xm → Calls Tryz.prog 105 #[.slice ma mn mc, .slice xa xn xc] W fun e w' => e = .returned (.bool (anyB m xm)) ∧ Below W.heap.size W w') := fun W h1 h2 => anyOf_any _ _ m xm W h1 h2 (by unfold maxLen; omega) (by unfold maxLen; omega)
      have e46 : ∀ args w, (callFunc 53 args).run Tryz.prog w = .ok (.enter 53 args) w := enters_of Tryz.func53 (by kernel_rfl) rfl
      have e81 : ∀ args w, (callFunc 105 args).run Tryz.prog w = .ok (.enter 105 args) w := enters_of Tryz.func105 (by kernel_rfl) rfl
      have HE46 := mkH e46
      have HE81 := mkH e81
      obtain ⟨iI, hiI, hzI, hz1I, hz2I⟩ := info_parts infoI
      have HII := mkH (And.intro hiI (And.intro hzI (And.intro hz1I hz2I)))
      have HM0 : Hid (0 < m.length → ∃ mg mo, ma = some ⟨mg, mo, none⟩ ∧ mn = m.length ∧ mg < w.heap.size ∧ ∀ j, j < m.length → w.cell? ⟨mg, mo + j, none⟩ = some (.int .i64 m[j]!)) := fun h0 => by
        rcases hm with ⟨_, e⟩ | ⟨mg, mo, mc', e, hmg, _, hmc⟩
        · subst e; simp at h0
        · cases e; exact ⟨mg, mo, rfl, rfl, hmg, hmc⟩
      have hxn : xn = xm.length := by
        have := (LiI.of_own (by have := hI.masks _ hx; rw [hxe] at this; exact this) : LiI w (sv (xa, xn, xc)) xm).len
        exact this.1
      have HXN := mkH hxn
      clear hI hlen hf hwh hx hxe hiI hzI hz1I hz2I e46 e81 hm h60 hxn
      go_enter Tryz.func74, Tryz.ntmps74
      go_wp2_with (go_at_call 103; refine HWH.out.mono ?_; rintro e w1 ⟨rfl, hb1⟩; obtain ⟨c1, c2, c3, c4, c5, c6, c7, c8, c9⟩ := HK.out _ hb1; obtain ⟨_, _, _, k3, kf⟩ := c4.cells)
      clear k3 kf c3 c8 c4 c5 c7
      have HB1 := mkH hb1
      have HR1 : Hid (∀ d os, Calls Tryz.prog 53 #[.slice ma mn mc, .int .i64 xr] (grow (redrawn w1 d) os) fun e w'' => e = .returned (.bool (risingB m xr)) ∧ ∃ p : Regrown, w'' = grow (redrawn w1 p.d) p.os) := fun d os => Calls.regrown_of (HRI.out _ (c6.below (below_regrown w1 d os)))
      clear hb1 c6
      replace c1 := cell_regrown c1
      replace c2 := cell_regrown c2
      have HRN := mkH (rfl : risingB m xr = risingB m xr)
      cases hri : risingB m xr with
      | false =>
        rw [hri] at HR1 HOK
        refine wp_region_quiet_below (by kernel_rfl) (by kernel_rfl) ?_
        repeat (go_big_quiet_step (first
          | (go_at_call_of 53 (#[.slice ma mn mc, .int .i64 xr] : Array Value); exact HR1.out _ _)))
        refine wpQuiet_nil ?_
        intro _ hw'
        obtain ⟨⟨dq, osq⟩, hw''⟩ := hw'
        subst hw''
        go_wp2
        go_ret
        refine st_no (by decide) ?_ (fun hh => by have := (HOK.out.1 hh).1; simp at this)
        exact ((HB0.out.trans (HB1.out.mono (Nat.le_succ _))).mono hbase).trans ((below_regrown w1 dq osq).mono (by omega))
      | true =>
        rw [hri] at HR1 HOK
        refine wp_region_quiet_below (by kernel_rfl) (by kernel_rfl) ?_
        repeat (go_big_quiet_step (first
          | (go_at_call_of 53 (#[.slice ma mn mc, .int .i64 xr] : Array Value); exact HR1.out _ _)))
        refine wpQuiet_nil ?_
        intro _ hw'
        obtain ⟨⟨dq, osq⟩, hw''⟩ := hw'
        subst hw''
        have HB2 := mkH (HB1.out.trans ((below_regrown w1 dq osq).mono c9))
        clear c1 c2 c9 HB1
        generalize grow (redrawn w1 dq) osq = w2 at *
        go_wp2_with fail
        obtain ⟨c1, _, c3, _, _, c6, c7, _, c9⟩ := HK.out _ HB2.out
        have HA1 : Hid (∀ d os, Calls Tryz.prog 105 #[.slice ma mn mc, .slice xa xn xc] (grow (redrawn w2 d) os) fun e w'' => e = .returned (.bool (anyB m xm)) ∧ ∃ p : Regrown, w'' = grow (redrawn w2 p.d) p.os) := fun d os => Calls.regrown_of (HAN.out _ (c6.below (below_regrown w2 d os)) (c7.below (below_regrown w2 d os)))
        clear c6 c7
        replace c1 := cell_regrown c1
        replace c3 := cell_regrown c3
        cases han : anyB m xm with
        | true =>
          rw [han] at HA1 HOK
          refine wp_region_quiet_below (by kernel_rfl) (by kernel_rfl) ?_
          repeat (go_big_quiet_step (first
            | (go_at_call_of 105 (#[.slice ma mn mc, .slice xa xn xc] : Array Value); exact HA1.out _ _)))
          refine wpQuiet_nil ?_
          intro _ hw'
          obtain ⟨⟨dr, osr⟩, hw''⟩ := hw'
          subst hw''
          go_wp2
          go_ret
          refine st_no (by decide) ?_ (fun hh => by have := (HOK.out.1 hh).2; simp at this)
          exact ((HB0.out.trans (HB2.out.mono (Nat.le_succ _))).mono hbase).trans ((below_regrown w2 dr osr).mono (by omega))
        | false =>
          rw [han] at HA1 HOK
          refine wp_region_quiet_below (by kernel_rfl) (by kernel_rfl) ?_
          repeat (go_big_quiet_step (first
            | (go_at_call_of 105 (#[.slice ma mn mc, .slice xa xn xc] : Array Value); exact HA1.out _ _)))
          refine wpQuiet_nil ?_
          intro _ hw'
          obtain ⟨⟨dr, osr⟩, hw''⟩ := hw'
          subst hw''
          have HB3 := mkH (HB2.out.trans ((below_regrown w2 dr osr).mono c9))
          clear c1 c3 c9 HB2
          generalize grow (redrawn w2 dr) osr = w3 at *
          go_wp2_with fail
          obtain ⟨c1, _, c3, c4, c5, _, _, c8, c9⟩ := HK.out _ HB3.out
          have C4 := mkH c4
          have C5 := mkH c5
          have hm0 : 0 < m.length := by
            rcases Nat.eq_zero_or_pos m.length with e | e
            · rw [List.length_eq_zero_iff.1 e] at hri; simp [risingB] at hri
            · exact e
          obtain ⟨mg, mo, rfl, rfl, hmg, hmc⟩ := HM0.out hm0
          have HMC : Hid (∀ j u, (m.map (Value.int .i64))[j]? = some u → w3.cell? ⟨mg, mo + j, none⟩ = some u) := fun j u hj => by
            rw [List.getElem?_map] at hj
            have hjl : j < m.length := by
              rcases Nat.lt_or_ge j m.length with h | h
              · exact h
              · rw [List.getElem?_eq_none h] at hj; cases hj
            rw [List.getElem?_eq_getElem hjl] at hj
            rw [(C5.out.cell (p := ⟨mg, mo + j, none⟩) hmg).trans (hmc j hjl), getElem!_pos m j hjl]
            exact hj
          have hxn := HXN.out
          subst hxn
          have HMK : Hid (w3.ownsRow base 3 1 (.slice xa xm.length xc) xm.length (xm.map (.int .i64))) := by
            have := C4.out.masks _ HLX.out
            rw [HXE.out] at this
            exact this
          clear c4 c5 hmc HA1 HAN HRI HR1 HWH HM0 HK hri han
          have hs3 := C5.out.size
          go_region_law
            (first
              | (refine step_append_lies _ (by rfl) (.tmp 40) (.tmp 42) 38 (by rfl) base 3 iI zeroI 1 8 Tryz.underlying38 HII.out.1 HII.out.2.1 HII.out.2.2.1 HII.out.2.2.2 rfl (by decide) (.slice xa xm.length xc) xm.length (xm.map (.int .i64)) (by rfl) HMK.out ⟨mg, mo, none⟩ m.length mc (m.map (.int .i64)) (by rfl) (by simp) (fun j u hj => by rw [Addr.add_lit]; exact HMC.out j u hj) (by intro u hu; obtain ⟨y, _, rfl⟩ := List.mem_map.1 hu; rfl) hm0 (by unfold maxLen; omega) (by omega) (by show base ≤ w3.heap.size; omega) _ rfl ?_
                 intro g5 cap5 w5 ho5 hg5 hat5 hlt5
                 have HNE : Hid (some g ≠ (Value.slice xa xm.length xc).ownBlock) := mkH (fun e => own_ne HMK.out C4.out.row (by decide) g e.symm rfl)
                 have r1 := (hg5.cell_far ⟨g, i * 3 + 2, none⟩ (by show g < w3.heap.size; omega) HNE.out).trans c3
                 have r2 := (hg5.frozen_far ⟨g, i * 3 + 2, none⟩ (by show g < w3.heap.size; omega) HNE.out).trans c8)
              | fail)
          all_goals
            have HG5 : Hid (w3.grownBy w5 (Value.slice xa xm.length xc).ownBlock) := mkH ⟨hg5.os, hg5.tape, hg5.output, hg5.size, hg5.block⟩
            have HW5 : Hid (Below base w w5) := ((C5.out.mono hbase)).grown HG5.out (by omega) (fun j hj => (HMK.out.lt j hj).1)
            have hs5 := HG5.out.size
            have HIX := mkH (own_ne ho5 (own_keep C4.out.row HG5.out (fun q hq e => own_ne HMK.out C4.out.row (by decide) q e hq)) (by decide))
            have HO6 := mkH (own_keep ho5 (grown_setC w5 g (i * 3 + 2) (.slice (some ⟨g5, 0, none⟩) (xm.length + m.length) cap5)) (fun q hq e => HIX.out q hq e))
            have HW6 := mkH (HW5.out.setCell (p := ⟨g, i * 3 + 2, none⟩) hgb (.slice (some ⟨g5, 0, none⟩) (xm.length + m.length) cap5))
            have k6 := World.cell?_setCell_same' w5 ⟨g, i * 3 + 2, none⟩ (.slice (some ⟨g5, 0, none⟩) (xm.length + m.length) cap5) (by rw [r1]; rfl)
            have hs6 : (w5.setCell ⟨g, i * 3 + 2, none⟩ (.slice (some ⟨g5, 0, none⟩) (xm.length + m.length) cap5)).heap.size = w5.heap.size := by simp [World.setCell]
            have HS6 := mkH hs6
            obtain ⟨w6, hw6⟩ : ∃ w6, w6 = w5.setCell ⟨g, i * 3 + 2, none⟩ (.slice (some ⟨g5, 0, none⟩) (xm.length + m.length) cap5) := ⟨_, rfl⟩
            have HSO : Hid (Calls Tryz.prog 106 #[.slice (some ⟨g5, 0, none⟩) (xm.length + m.length) cap5] w6 fun e w' => e = .returned (.tuple #[]) ∧ w'.ownsRow base 3 1 (.slice (some ⟨g5, 0, none⟩) (xm.length + m.length) cap5) (xm.length + m.length) ((sortR (xm ++ m)).map (.int .i64)) ∧ w6.grownBy w' (some g5)) := by
              have h6 := HO6.out
              rw [← hw6] at h6
              have := sort_own base g5 cap5 (xm ++ m) w6 (by rw [List.length_append, List.map_append]; exact h6) (by rw [List.length_append]; omega)
              rw [List.length_append] at this
              exact this
            rw [← hw6] at k6 ⊢
            have HW6E := mkH hw6
            clear r1 r2 hs6 hw6 c1 c3 c8
            go_wp2_with (go_at_call 106; refine HSO.out.mono ?_; rintro e w7 ⟨rfl, ho7, hg7⟩)
            go_ret
            have hb6 : Below base w w6 := by rw [HW6E.out]; exact HW6.out
            refine st_yes ?_ (HOK.out.2 ⟨by first | trivial | rfl, by first | trivial | rfl⟩) ?_
            · exact hb6.grown hg7 (by have := hb6.size; rw [HW6E.out, HS6.out]; omega) (fun j hj => by cases hj; exact (ho7.lt g5 rfl).1)
            · have hg7' := hg7
              rw [HW6E.out] at hg7'
              refine C4.out.final i hi (k, p, r, m, cl, nx) HF.out g5 cap5 (w5 := w5) ?_ ?_ ?_ ?_ ?_
              · rw [HXE.out]; exact HG5.out
              · rw [HXE.out]; exact ho5
              · rw [HXE.out]; exact hat5
              · rw [HXE.out]; exact hg7'
              · rw [HXE.out]; exact ho7
  · have hwz : whereF s.files p < 0 := by omega
    have HNO : Hid (¬ mskOk s (k, p, r, m, cl, nx)) := fun hh => hwh hh.1
    generalize whereF s.files p = wh at *
    clear hI hlen
    go_enter Tryz.func74, Tryz.ntmps74
    go_wp2_with (go_at_call 103; refine HWH.out.mono ?_; rintro e w1 ⟨rfl, hb1⟩)
    go_ret
    exact st_no (by decide) ((HB0.out.trans (hb1.mono (Nat.le_succ _))).mono hbase) HNO.out
end Go.Proofs.YtfppidnfomelpaaGreatDoor
