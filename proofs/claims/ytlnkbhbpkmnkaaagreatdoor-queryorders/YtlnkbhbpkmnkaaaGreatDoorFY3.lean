/- What file.Make does, said of every call. -/
import Derived.Test.YtlnkbhbpkmnkaaaGreatDoorFX1
import Derived.Test.YtlnkbhbpkmnkaaaGreatDoorFX2
import Derived.Test.YtlnkbhbpkmnkaaaGreatDoorCT1
namespace Go.Proofs.YtlnkbhbpkmnkaaaGreatDoor.F
open Go.RowKit Go.Proofs Go.Shelf Go.Joins

attribute [local go_sem] Oper.semAt_some

def MakePost (r : Option Fil) (w : World) (e : Ending) (w' : World) : Prop := match r with
  | none => ∃ T v, e = .returned (.tuple #[.agg #[.slice none 0 0, .slice none 0 0], .iface T v]) ∧ Below w.heap.size w w'
  | some f => ∃ cv gv, e = .returned (.tuple #[.agg #[cv, gv], .nilIface]) ∧ FilAt w' cv gv f ∧ Below w.heap.size w w'
theorem makeR_no {l : List Col} {rows : List (List V)} (h : makeOk l rows = false) : makeR l rows = none := by unfold makeR; rw [if_neg (by simp [h])]
theorem makeR_yes {l : List Col} {rows : List (List V)} (h : makeOk l rows = true) : makeR l rows = some (l, groupsOf l rows) := by unfold makeR; rw [if_pos h]

theorem zeroG_ : (Tryz.prog.info? 101).map (fun i => (i.zero, i.size, i.bytes)) = some (some (.agg #[.int .i64 0, .slice none 0 0, .slice none 0 0]), 3, 56) := by kernel_rfl
set_option maxHeartbeats 8000000 in
set_option maxRecDepth 100000 in
theorem make_any (lv rv : Value) (l : List Col) (rows : List (List V)) (w : World) (hl : SlE 7 C.encC w lv l) (hr : SlR w rv rows) (hlen : l.length ≤ 1000) (hrl : rows.length ≤ 100000)
    (hsz : ∀ x ∈ l, x.2.1.size ≤ maxLen ∧ x.2.2.2.2.2.2.size ≤ maxLen) (ht : ∀ r ∈ rows, ∀ v ∈ r, v.2.2.size ≤ maxLen) (h64 : All64 rows) (hw : C.NcB w) (hg : C.EtB w) :
    Calls Tryz.prog 20 #[lv, rv] w (MakePost (makeR l rows) w) := by
  have HL := mkH hl
  have HR := mkH hr
  have HT := mkH ht
  have H64 := mkH h64
  have HG := mkH hg
  obtain ⟨la, lc, rfl, hlc⟩ := hl.slice
  obtain ⟨ra, rc, rfl, hrc⟩ := hr.slice
  obtain ⟨hs2, hX, hY, hB⟩ := two_new w (.cells #[.slice la l.length lc] 22) (.cells #[.slice none 0 0, .slice none 0 0] 60)
  have hlb : ((w.alloc (.cells #[.slice la l.length lc] 22)).alloc (.cells #[.slice none 0 0, .slice none 0 0] 60)).cell? ⟨w.heap.size, 0, none⟩ = some (.slice la l.length lc) := by simp [World.cell?, hX]
  have HRT := mkH (right_all (.slice la l.length lc) l 1099511627777 _ (hl.up hB) hlen hsz (hw.below hB))
  have HX := mkH hX
  have HY := mkH hY
  have HB := mkH hB
  have HS2 := mkH hs2
  clear hl hr ht h64 hw hg hsz hX hY hB hs2
  cases hR : rightB l 1099511627777 with
  | false =>
    rw [hR] at HRT
    have HE : Hid (makeR l rows = none) := mkH (makeR_no (by unfold makeOk next40; rw [hR]; rfl))
    obtain ⟨y0, y1⟩ := row2 HY.out
    refine callsIn_wide (n := 5).1 ?_
    refine callsIn_of_wp_marks Tryz.func20 rfl trivial ?_ rfl
    simp only [Tryz.ntmps20, List.size_toArray, List.length_cons, List.length_nil, Nat.reduceAdd, Nat.reduceSub, Array.replicate_succ, Array.replicate_zero, List.push_toArray, List.append_toArray, List.nil_append, List.cons_append]
    refine wpIn_wide.2 ?_
    go_wp2_with fail
    refine HRT.out.mono ?_
    rintro e w1 ⟨rfl, hb1⟩
    have hY1 := (hb1.block (w.heap.size + 1) (by have := HS2.out; omega)).trans HY.out
    obtain ⟨z0, z1⟩ := row2 hY1
    have f0 := frozen_of_row w1 (w.heap.size + 1) 0 _ _ hY1
    have f1 := frozen_of_row w1 (w.heap.size + 1) 1 _ _ hY1
    go_wp2
    refine ⟨.tuple #[.agg #[.slice none 0 0, .slice none 0 0], .iface 89 (.int .i64 1)], by simp [results, Tryz.results20, go_sem, z0, z1], ?_⟩
    rw [HE.out]
    exact ⟨_, _, rfl, ((ups HB.out hb1).setCell (p := ⟨w.heap.size + 1, 0, none⟩) (Nat.le_succ _) _).setCell (p := ⟨w.heap.size + 1, 1, none⟩) (Nat.le_succ _) _⟩
  | true =>
    rw [hR] at HRT
    have hRF := right_iff.1 hR
    have hl1 := hRF.one
    have hl8 := hRF.eight
    have HRF := mkH hRF
    clear hRF hlb
    have HKW : Hid (∀ W, Below (w.heap.size + 2) ((w.alloc (.cells #[.slice la l.length lc] 22)).alloc (.cells #[.slice none 0 0, .slice none 0 0] 60)) W → W.cell? ⟨w.heap.size, 0, none⟩ = some (.slice la l.length lc) ∧ W.heap[w.heap.size + 1]? = some (.cells #[.slice none 0 0, .slice none 0 0] 60) ∧ Below w.heap.size w W) := mkH (fun W hW => by
      have hW' : Below ((w.alloc (.cells #[.slice la l.length lc] 22)).alloc (.cells #[.slice none 0 0, .slice none 0 0] 60)).heap.size ((w.alloc (.cells #[.slice la l.length lc] 22)).alloc (.cells #[.slice none 0 0, .slice none 0 0] 60)) W := by rw [HS2.out]; exact hW
      have hc : ((w.alloc (.cells #[.slice la l.length lc] 22)).alloc (.cells #[.slice none 0 0, .slice none 0 0] 60)).cell? ⟨w.heap.size, 0, none⟩ = some (.slice la l.length lc) := by simp [World.cell?, HX.out]
      exact ⟨cell_up hW' hc, (hW'.block (w.heap.size + 1) (by rw [HS2.out]; omega)).trans HY.out, ups HB.out hW'⟩)
    have hs2 := HS2.out
    by_cases h60 : 1 ≤ rows.length ∧ rows.length ≤ 60
    · obtain ⟨hr1, hr60⟩ := h60
      have hr1' : ¬ (rows.length : Int) < 1 := by omega
      have hr60' : ¬ (60 : Int) < (rows.length : Int) := by omega
      refine (callsIn_wide (n := 5)).1 ?_
      refine callsIn_of_wp_marks Tryz.func20 rfl trivial ?_ rfl
      simp only [Tryz.ntmps20, List.size_toArray, List.length_cons, List.length_nil, Nat.reduceAdd, Nat.reduceSub, Array.replicate_succ, Array.replicate_zero, List.push_toArray, List.append_toArray, List.nil_append, List.cons_append]
      refine wpIn_wide.2 ?_
      go_wp2_with fail
      refine HRT.out.mono ?_
      rintro e w1 ⟨rfl, hb1⟩
      have HB1 : Hid (Below (w.heap.size + 2) ((w.alloc (.cells #[.slice la l.length lc] 22)).alloc (.cells #[.slice none 0 0, .slice none 0 0] 60)) w1) := mkH (by rw [← hs2]; exact hb1)
      clear hb1 HRT
      generalize (w.alloc (.cells #[.slice la l.length lc] 22)).alloc (.cells #[.slice none 0 0, .slice none 0 0] 60) = W2 at *
      go_wp2
      go_loopw [28] (fun vi wr => ∃ i : Nat, i ≤ rows.length ∧ vi = .int .i64 i ∧ Hid (∀ j r, j < i → rows[j]? = some r → rowE l r = 0) ∧ Hid (Below (w.heap.size + 2) W2 wr)) (fun vi _ => rows.length - (intOf vi).toNat)
      case atStart => exact ⟨0, Nat.zero_le _, rfl, mkH (fun j r hj => absurd hj (Nat.not_lt_zero _)), HB1⟩
      case round =>
        obtain ⟨i, hi, rfl, hok, hbR⟩ := hrel
        obtain ⟨q0, hres, hbw⟩ := HKW.out wr hbR.out
        have hszr := hbR.out.size
        rw [hs2] at hszr
        by_cases hlt : i < rows.length
        · obtain ⟨r, hr⟩ : ∃ r, rows[i]? = some r := ⟨_, List.getElem?_eq_getElem hlt⟩
          obtain ⟨rb, ro, rc', xv, er, hrb, hcell, hSl⟩ := (HR.out.up hbw).at hr
          injection er with er1 _ er2
          subst er1 er2
          have HROW := mkH (row_any (.slice la l.length lc) xv l r wr (HL.out.up hbw) hSl hlen (HT.out r (List.mem_of_getElem? hr)))
          obtain ⟨xa, xc, rfl, _, _⟩ := hSl
          have hili : (i : Int) < (rows.length : Int) := by omega
          have HRI := mkH hr
          clear hr
          by_cases hz : rowE l r = 0
          · have he : errV (rowE l r) = .nilIface := by unfold errV; rw [if_pos hz]
            rw [he] at HROW
            have HOK : Hid (∀ j r, j < i + 1 → rows[j]? = some r → rowE l r = 0) := mkH (fun j r' hj hr' => by
              by_cases e : j = i
              · subst e; rw [HRI.out] at hr'; injection hr' with hr'; rw [← hr']; exact hz
              · exact hok.out j r' (by omega) hr')
            clear he hz
            go_wp2_with fail
            refine HROW.out.mono ?_
            rintro e w3 ⟨rfl, hb3⟩
            have hbf := hbR.out.trans (hb3.mono hszr)
            go_wp2
            exact ⟨⟨i + 1, by omega, by go_num, HOK, mkH hbf⟩, by simp [intOf]; omega⟩
          · have he : errV (rowE l r) = .iface 89 (.int .i64 (rowE l r)) := by unfold errV; rw [if_neg hz]
            rw [he] at HROW
            have HE : Hid (makeR l rows = none) := mkH (makeR_no (by
              cases h : makeOk l rows with
              | false => rfl
              | true => exact absurd ((makeOk_iff.1 h).2.2.2 r (List.mem_of_getElem? HRI.out)) hz))
            generalize rowE l r = x at *
            clear he hz
            go_wp2_with fail
            refine HROW.out.mono ?_
            rintro e w3 ⟨rfl, hb3⟩
            have HTL := mkH (C.tell_any x w3 (HG.out.below (ups hbw hb3)))
            go_wp2_with fail
            refine HTL.out.mono ?_
            rintro e w4 ⟨rfl, hb4⟩
            have hb45 : Below w4.heap.size w4 (w4.alloc (.cells #[.int .i64 x, .int .i64 i] 94)) := (Below.refl _ _).alloc (Nat.le_refl _) _
            have hY4 := ((ups (ups hb3 hb4) hb45).block (w.heap.size + 1) (by omega)).trans hres
            obtain ⟨z0, z1⟩ := row2 hY4
            have f0 := frozen_of_row _ (w.heap.size + 1) 0 _ _ hY4
            have f1 := frozen_of_row _ (w.heap.size + 1) 1 _ _ hY4
            have hb04 := ups hbw (ups (ups hb3 hb4) hb45)
            clear hY4
            go_wp2
            refine ⟨.tuple #[.agg #[.slice none 0 0, .slice none 0 0], .iface 91 (.pointer (some ⟨w4.heap.size, 0, none⟩))], by simp [results, Tryz.results20, go_sem, z0, z1], ?_⟩
            rw [HE.out]
            exact ⟨_, _, rfl, (hb04.setCell (p := ⟨w.heap.size + 1, 0, none⟩) (Nat.le_succ _) _).setCell (p := ⟨w.heap.size + 1, 1, none⟩) (Nat.le_succ _) _⟩
        · have ei : i = rows.length := by omega
          have hili : ¬ (i : Int) < (rows.length : Int) := by omega
          have HMK : Hid (makeOk l rows = true) := mkH (makeOk_iff.2 ⟨HRF.out, hr1, hr60, fun r hr => by
            obtain ⟨j, hj, rfl⟩ := List.getElem_of_mem hr
            exact hok.out j _ (by omega) (List.getElem?_eq_getElem hj)⟩)
          obtain ⟨g, o, c, eC, hcc, hSC⟩ := slC_of (HL.out.up hbw) hl1
          injection eC with eC1 _ eC2
          subst eC1 eC2
          obtain ⟨rb, ro, hra⟩ : ∃ rb ro, ra = some ⟨rb, ro, none⟩ := by
            obtain ⟨vs, hv1, hv2, hv3⟩ := HR.out
            obtain ⟨rb, ro, rc', er, _, _, _⟩ := hv1.cons (by omega)
            injection er with er1 _ _
            exact ⟨rb, ro, er1⟩
          subst hra
          have HCL := mkH (C.clone_any g o lc l wr hSC hl8)
          clear ei hok hSC
          go_wp2_with fail
          refine HCL.out.mono ?_
          rintro e w5 ⟨g5, c5, rfl, ho5, hb5⟩
          have HCK := mkH (chunk_any (some ⟨rb, ro, none⟩) rows.length rc (w5.alloc (.cells #[.slice (some ⟨g5, 0, none⟩) l.length c5, .slice none 0 0] 60)))
          simp only [World.size_alloc, Nat.add_assoc, Nat.reduceAdd] at HCK
          have HO5 := mkH ho5
          have HB5 := mkH hb5
          have hs5 := hb5.size
          clear ho5 hb5 HCL
          go_wp2_with fail
          refine HCK.out.mono ?_
          rintro e w6 ⟨rfl, rfl⟩
          clear HCK
          obtain ⟨hs7, hF7, hS7, hN7, hb7⟩ := three_new w5 (.cells #[.slice (some ⟨g5, 0, none⟩) l.length c5, .slice none 0 0] 60) (.cells #[.slice (some ⟨rb, ro, none⟩) rows.length rc] 23) (.cells #[.int .i64 6] 3)
          go_wp2_with fail
          generalize ((w5.alloc (.cells #[.slice (some ⟨g5, 0, none⟩) l.length c5, .slice none 0 0] 60)).alloc (.cells #[.slice (some ⟨rb, ro, none⟩) rows.length rc] 23)).alloc (.cells #[.int .i64 6] 3) = W7 at *
          have hcS : W7.cell? ⟨w5.heap.size + 1, 0, none⟩ = some (.slice (some ⟨rb, ro, none⟩) rows.length rc) := by simp [World.cell?, hS7]
          have hcN : W7.cell? ⟨w5.heap.size + 2, 0, none⟩ = some (.int .i64 6) := by simp [World.cell?, hN7]
          obtain ⟨iG, hiG, hzG, hz1G, hz2G⟩ := info_parts zeroG_
          have HIG := mkH (And.intro hiG (And.intro hzG (And.intro hz1G hz2G)))
          have HE42 : Hid (∀ args w, (callFunc 51 args).run Tryz.prog w = .ok (.enter 51 args) w) := mkH (enters_of Tryz.func51 (by kernel_rfl) rfl)
          have HW : Hid (∀ W, Below w5.heap.size w5 W → SlE 7 C.encC W (.slice (some ⟨g, o, none⟩) l.length lc) l ∧ SlR W (.slice (some ⟨rb, ro, none⟩) rows.length rc) rows ∧ W.cell? ⟨w.heap.size, 0, none⟩ = some (.slice (some ⟨g, o, none⟩) l.length lc) ∧ W.heap[w.heap.size + 1]? = some (.cells #[.slice none 0 0, .slice none 0 0] 60) ∧ Below w.heap.size w W) := mkH (fun W hW => by
            have hb := ups HB5.out hW
            have hbb := ups hbw hb
            exact ⟨HL.out.up hbb, HR.out.up hbb, cell_up hb q0, (hb.block (w.heap.size + 1) (by omega)).trans hres, hbb⟩)
          have HPT : Hid (∀ k, k < nGr rows.length → RowsOk l (part6 rows k) ∧ 1 ≤ (part6 rows k).length ∧ (part6 rows k).length ≤ 6) := mkH (fun k hk => ⟨fun r hr => rowsOk_of (makeOk_iff.1 HMK.out).2.2.2 H64.out r (List.mem_of_mem_drop (List.mem_of_mem_take hr)), part6_len hk⟩)
          have HKD : Hid (Kinds l) := mkH (HRF.out.kinds)
          clear hiG hzG hz1G hz2G hS7 hN7 q0 hres hbw
          refine (wpIn_wide (n := 5)).1 ?_
          refine wpIn_rangeFunc_ownG (w0 := W7) rfl (by decide) (gf := 88) (lb := #[.pointer (some ⟨w5.heap.size + 1, 0, none⟩), .pointer (some ⟨w5.heap.size + 2, 0, none⟩)]) (by rfl) trivial (enters_of Tryz.func88 (by kernel_rfl) rfl)
            (chunk_stops _ (by decide) (w5.heap.size + 1) (w5.heap.size + 2) rb ro rows.length rc (by omega) hrc W7 (by omega) (by omega) hcS hcN) KpC.t ?hKb (Below.refl _ _) (fun _ => rfl) (MkI l rows w5.heap.size (.slice (some ⟨g5, 0, none⟩) l.length c5) w5) (fun _ _ _ => False) (MkI.own (Nat.le_refl _) (by omega)) (fun _ _ _ _ _ h _ _ => h) ⟨⟨_, hF7, SlGO_nil _ _⟩, hb7, by omega⟩ ?a1 ?assign ?body ?done ?stop
          case hKb =>
            intro W q o1 o2 hq hq1 _ _
            constructor
            · unfold World.cell?; rw [World.putObj_heap_other (by show w5.heap.size + 1 ≠ q; omega)]
            · unfold World.cell?; rw [World.putObj_heap_other (by show w5.heap.size + 2 ≠ q; omega)]
          case assign =>
            intro q x W K hK
            gi_wp2
            exact hK
          case stop =>
            rintro D c pre W _ _ h _
            exact h.elim
          case body =>
            rintro q pre k W ⟨⟨gv, hfW, ⟨xs, hxs, hxo, hxg⟩⟩, hfb, hfbs3⟩ hpl
            simp only [List.length_map] at hxs hxo
            have hk6 := k.2
            have hkg : k.1 < nGr rows.length := by unfold nGr; omega
            have hlen10 : nGr rows.length ≤ 10 := by unfold nGr; omega
            obtain ⟨hok6, hp1, hp6⟩ := HPT.out k.1 hkg
            obtain ⟨hWl, hWr, hWc, _, _⟩ := HW.out W hfb
            have hfbs := hfb.size
            have HGR : Hid (∀ W', Below W.heap.size W W' → Calls Tryz.prog 51 #[.slice (some ⟨g, o, none⟩) l.length lc, ckV rb ro rows.length k] W' _) := mkH (fun W' hW' => group_any _ _ l (part6 rows k.1) W' (hWl.up hW') (SlR.up (slR_chunk hWr rfl k) hW') hl8 hp1 hp6 hok6 HKD.out)
            have HKF : Hid (∀ W', Below W.heap.size W W' → W'.cell? ⟨w5.heap.size, 1, none⟩ = some gv) := mkH (fun W' hW' => cell_up hW' (row2 hfW).2)
            have q1 : W.drew.cell? ⟨w5.heap.size, 1, none⟩ = some gv := (row2 hfW).2
            have q2 : W.drew.cell? ⟨w.heap.size, 0, none⟩ = some (.slice (some ⟨g, o, none⟩) l.length lc) := hWc
            clear hWl hWr hok6 HW HPT
            refine wpIn_block ?_
            refine wpIn_region_any (by kernel_rfl) (any_round ?hops ?hQ _ _ _ _ ?_)
            case hops =>
              intro i o h c hc
              have h := Array.mem_of_getElem? h
              simp only [List.mem_toArray, List.mem_cons, List.not_mem_nil, or_false] at h
              rcases h with rfl | rfl | rfl | rfl | rfl | rfl | rfl | rfl | rfl <;> simp at hc
            case hQ =>
              rintro ⟨a, W', h⟩
              exact h
            refine wpAny_take (i := 0) (v := .pointer (some ⟨w5.heap.size, 1, none⟩)) rfl (by kernel_rfl) (by kernel_rfl) (by kernel_rfl) (fun _ _ _ h => h) (Or.inl ⟨by rfl, ?t0⟩) ?_
            case t0 => (intro w; go_simp)
            refine wpAny_take (i := 3) (v := ckV rb ro rows.length k) rfl (by kernel_rfl) (by kernel_rfl) (by kernel_rfl) (fun _ _ _ h => h) (Or.inl ⟨by rfl, ?t3⟩) ?_
            case t3 => (intro w; go_simp)
            refine wpAny_ready (rs := [1, 2]) (by kernel_rfl) (by simp) ?_
            refine AllReady.cons rfl (fun K hK => ?_) ?_
            · go_simp
              refine hK _ _ ?_
              clear hK K
              refine wpAny_ready (rs := [2]) (by kernel_rfl) (by simp) ?_
              refine AllReady.cons rfl (fun K hK => ?_) ?_
              · go_simp
                refine hK _ _ ?_
                clear hK K
                refine wpAny_ready (rs := [4]) (by kernel_rfl) (by simp) ?_
                refine AllReady.cons rfl (fun K hK => ?_) ?_
                · refine step_call2 (by rfl) 51 (.tmp 54) (.tmp 55) 22 23 (by rfl) (.slice (some ⟨g, o, none⟩) l.length lc) (ckV rb ro rows.length k) (by rfl) (by rfl) HE42.out _ (HGR.out _ (Below.refl _ _).drew) ?_
                  rintro e w8 ⟨sv, bv, rfl, hsv, hbv, hb8'⟩
                  have hb8 : Below W.heap.size W w8 := ups (Below.refl _ _).drew hb8'
                  have hs8 := hb8.size
                  obtain ⟨sa, sc, esv, _⟩ := E.ownsRow_slice hsv
                  obtain ⟨ba, bc, ebv, _⟩ := E.ownsRow_slice hbv
                  subst esv ebv
                  refine ⟨_, rfl, ?_⟩
                  have p1 := HKF.out w8 hb8
                  have p1a : (w8.alloc (.cells #[.int .i64 (part6 rows k.1).length, .slice sa l.length sc, .slice ba l.length bc] 101)).cell? ⟨w5.heap.size, 1, none⟩ = some gv := cell_up ((Below.refl w8.heap.size w8).alloc (Nat.le_refl _) _) p1
                  try go_simp
                  refine hK _ _ ?_
                  clear hK K
                  refine wpAny_ready (rs := [5]) (by kernel_rfl) (by simp) ?_
                  refine AllReady.cons rfl (fun K hK => ?_) ?_
                  · go_simp
                    refine hK _ _ ?_
                    clear hK K
                    refine wpAny_ready (rs := [6]) (by kernel_rfl) (by simp) ?_
                    refine AllReady.cons rfl (fun K hK => ?_) ?_
                    · refine step_append_lies _ (by rfl) (.tmp 53) (.tmp 57) 58 (by rfl) (w5.heap.size + 3) 101 iG (.agg #[.int .i64 0, .slice none 0 0, .slice none 0 0]) 3 56 Tryz.underlying58 HIG.out.1 HIG.out.2.1 HIG.out.2.2.1 HIG.out.2.2.2 rfl (by decide) gv pre.length (xs.flatMap encG) (by rfl) ((E.ownsRow_up hxo hb8).alloc _) ⟨w8.heap.size, 0, none⟩ 1 1 [.int .i64 (part6 rows k.1).length, .slice sa l.length sc, .slice ba l.length bc] (by rfl) rfl (fun j u hj => World.news_of_block (heap_alloc_new _ _) j u hj) (by simp [Value.oneCell']) (by omega) (by unfold maxLen; omega) (by omega) (by simp; omega) _ rfl ?_
                      intro g9 cap9 w9 ho9 hg9 hat9 hlt9
                      have HFIN := mkH (make_step (B := W7.heap.size) (l := l) (rows := rows) (pre := pre) (k := k) hb8 hxs hxo hxg hsv hbv ho9 hg9 hfW hfb hfbs3)
                      obtain ⟨r1, r2, _⟩ := HFIN.out
                      try go_simp
                      refine hK _ _ ?_
                      clear hK K
                      refine wpAny_take (i := 7) (v := .pointer (some ⟨w5.heap.size, 1, none⟩)) rfl (by kernel_rfl) (by kernel_rfl) (by kernel_rfl) (fun _ _ _ h => h) (Or.inl ⟨by rfl, ?t7⟩) ?_
                      case t7 => (intro w; go_simp)
                      refine wpAny_ready (rs := [8]) (by kernel_rfl) (by simp) ?_
                      refine AllReady.cons rfl (fun K hK => ?_) ?_
                      · go_simp
                        refine hK _ _ ?_
                        clear hK K
                        refine wpAny_done (by kernel_rfl) ?_ _
                        exact HFIN.out.2.2 (fun _ _ _ => False) { tmps := #[], defers := [] }
                      · exact AllReady.nil
                    · exact AllReady.nil
                  · exact AllReady.nil
                · exact AllReady.nil
              · exact AllReady.nil
            · refine AllReady.cons rfl (fun K hK => ?_) ?_
              · go_simp
                refine hK _ _ ?_
                clear hK K
                refine wpAny_ready (rs := [1, 4]) (by kernel_rfl) (by simp) ?_
                refine AllReady.cons rfl (fun K hK => ?_) ?_
                · go_simp
                  refine hK _ _ ?_
                  clear hK K
                  refine wpAny_ready (rs := [4]) (by kernel_rfl) (by simp) ?_
                  refine AllReady.cons rfl (fun K hK => ?_) ?_
                  · refine step_call2 (by rfl) 51 (.tmp 54) (.tmp 55) 22 23 (by rfl) (.slice (some ⟨g, o, none⟩) l.length lc) (ckV rb ro rows.length k) (by rfl) (by rfl) HE42.out _ (HGR.out _ (Below.refl _ _).drew) ?_
                    rintro e w8 ⟨sv, bv, rfl, hsv, hbv, hb8'⟩
                    have hb8 : Below W.heap.size W w8 := ups (Below.refl _ _).drew hb8'
                    have hs8 := hb8.size
                    obtain ⟨sa, sc, esv, _⟩ := E.ownsRow_slice hsv
                    obtain ⟨ba, bc, ebv, _⟩ := E.ownsRow_slice hbv
                    subst esv ebv
                    refine ⟨_, rfl, ?_⟩
                    have p1 := HKF.out w8 hb8
                    have p1a : (w8.alloc (.cells #[.int .i64 (part6 rows k.1).length, .slice sa l.length sc, .slice ba l.length bc] 101)).cell? ⟨w5.heap.size, 1, none⟩ = some gv := cell_up ((Below.refl w8.heap.size w8).alloc (Nat.le_refl _) _) p1
                    try go_simp
                    refine hK _ _ ?_
                    clear hK K
                    refine wpAny_ready (rs := [5]) (by kernel_rfl) (by simp) ?_
                    refine AllReady.cons rfl (fun K hK => ?_) ?_
                    · go_simp
                      refine hK _ _ ?_
                      clear hK K
                      refine wpAny_ready (rs := [6]) (by kernel_rfl) (by simp) ?_
                      refine AllReady.cons rfl (fun K hK => ?_) ?_
                      · refine step_append_lies _ (by rfl) (.tmp 53) (.tmp 57) 58 (by rfl) (w5.heap.size + 3) 101 iG (.agg #[.int .i64 0, .slice none 0 0, .slice none 0 0]) 3 56 Tryz.underlying58 HIG.out.1 HIG.out.2.1 HIG.out.2.2.1 HIG.out.2.2.2 rfl (by decide) gv pre.length (xs.flatMap encG) (by rfl) ((E.ownsRow_up hxo hb8).alloc _) ⟨w8.heap.size, 0, none⟩ 1 1 [.int .i64 (part6 rows k.1).length, .slice sa l.length sc, .slice ba l.length bc] (by rfl) rfl (fun j u hj => World.news_of_block (heap_alloc_new _ _) j u hj) (by simp [Value.oneCell']) (by omega) (by unfold maxLen; omega) (by omega) (by simp; omega) _ rfl ?_
                        intro g9 cap9 w9 ho9 hg9 hat9 hlt9
                        have HFIN := mkH (make_step (B := W7.heap.size) (l := l) (rows := rows) (pre := pre) (k := k) hb8 hxs hxo hxg hsv hbv ho9 hg9 hfW hfb hfbs3)
                        obtain ⟨r1, r2, _⟩ := HFIN.out
                        try go_simp
                        refine hK _ _ ?_
                        clear hK K
                        refine wpAny_take (i := 7) (v := .pointer (some ⟨w5.heap.size, 1, none⟩)) rfl (by kernel_rfl) (by kernel_rfl) (by kernel_rfl) (fun _ _ _ h => h) (Or.inl ⟨by rfl, ?t7⟩) ?_
                        case t7 => (intro w; go_simp)
                        refine wpAny_ready (rs := [8]) (by kernel_rfl) (by simp) ?_
                        refine AllReady.cons rfl (fun K hK => ?_) ?_
                        · go_simp
                          refine hK _ _ ?_
                          clear hK K
                          refine wpAny_done (by kernel_rfl) ?_ _
                          exact HFIN.out.2.2 (fun _ _ _ => False) { tmps := #[], defers := [] }
                        · exact AllReady.nil
                      · exact AllReady.nil
                    · exact AllReady.nil
                  · exact AllReady.nil
                · refine AllReady.cons rfl (fun K hK => ?_) ?_
                  · refine step_call2 (by rfl) 51 (.tmp 54) (.tmp 55) 22 23 (by rfl) (.slice (some ⟨g, o, none⟩) l.length lc) (ckV rb ro rows.length k) (by rfl) (by rfl) HE42.out _ (HGR.out _ (Below.refl _ _).drew) ?_
                    rintro e w8 ⟨sv, bv, rfl, hsv, hbv, hb8'⟩
                    have hb8 : Below W.heap.size W w8 := ups (Below.refl _ _).drew hb8'
                    have hs8 := hb8.size
                    obtain ⟨sa, sc, esv, _⟩ := E.ownsRow_slice hsv
                    obtain ⟨ba, bc, ebv, _⟩ := E.ownsRow_slice hbv
                    subst esv ebv
                    refine ⟨_, rfl, ?_⟩
                    have p1 := HKF.out w8 hb8
                    have p1a : (w8.alloc (.cells #[.int .i64 (part6 rows k.1).length, .slice sa l.length sc, .slice ba l.length bc] 101)).cell? ⟨w5.heap.size, 1, none⟩ = some gv := cell_up ((Below.refl w8.heap.size w8).alloc (Nat.le_refl _) _) p1
                    try go_simp
                    refine hK _ _ ?_
                    clear hK K
                    refine wpAny_ready (rs := [1, 5]) (by kernel_rfl) (by simp) ?_
                    refine AllReady.cons rfl (fun K hK => ?_) ?_
                    · go_simp
                      refine hK _ _ ?_
                      clear hK K
                      refine wpAny_ready (rs := [5]) (by kernel_rfl) (by simp) ?_
                      refine AllReady.cons rfl (fun K hK => ?_) ?_
                      · go_simp
                        refine hK _ _ ?_
                        clear hK K
                        refine wpAny_ready (rs := [6]) (by kernel_rfl) (by simp) ?_
                        refine AllReady.cons rfl (fun K hK => ?_) ?_
                        · refine step_append_lies _ (by rfl) (.tmp 53) (.tmp 57) 58 (by rfl) (w5.heap.size + 3) 101 iG (.agg #[.int .i64 0, .slice none 0 0, .slice none 0 0]) 3 56 Tryz.underlying58 HIG.out.1 HIG.out.2.1 HIG.out.2.2.1 HIG.out.2.2.2 rfl (by decide) gv pre.length (xs.flatMap encG) (by rfl) ((E.ownsRow_up hxo hb8).alloc _) ⟨w8.heap.size, 0, none⟩ 1 1 [.int .i64 (part6 rows k.1).length, .slice sa l.length sc, .slice ba l.length bc] (by rfl) rfl (fun j u hj => World.news_of_block (heap_alloc_new _ _) j u hj) (by simp [Value.oneCell']) (by omega) (by unfold maxLen; omega) (by omega) (by simp; omega) _ rfl ?_
                          intro g9 cap9 w9 ho9 hg9 hat9 hlt9
                          have HFIN := mkH (make_step (B := W7.heap.size) (l := l) (rows := rows) (pre := pre) (k := k) hb8 hxs hxo hxg hsv hbv ho9 hg9 hfW hfb hfbs3)
                          obtain ⟨r1, r2, _⟩ := HFIN.out
                          try go_simp
                          refine hK _ _ ?_
                          clear hK K
                          refine wpAny_take (i := 7) (v := .pointer (some ⟨w5.heap.size, 1, none⟩)) rfl (by kernel_rfl) (by kernel_rfl) (by kernel_rfl) (fun _ _ _ h => h) (Or.inl ⟨by rfl, ?t7⟩) ?_
                          case t7 => (intro w; go_simp)
                          refine wpAny_ready (rs := [8]) (by kernel_rfl) (by simp) ?_
                          refine AllReady.cons rfl (fun K hK => ?_) ?_
                          · go_simp
                            refine hK _ _ ?_
                            clear hK K
                            refine wpAny_done (by kernel_rfl) ?_ _
                            exact HFIN.out.2.2 (fun _ _ _ => False) { tmps := #[], defers := [] }
                          · exact AllReady.nil
                        · exact AllReady.nil
                      · exact AllReady.nil
                    · refine AllReady.cons rfl (fun K hK => ?_) ?_
                      · go_simp
                        refine hK _ _ ?_
                        clear hK K
                        refine wpAny_ready (rs := [1]) (by kernel_rfl) (by simp) ?_
                        refine AllReady.cons rfl (fun K hK => ?_) ?_
                        · go_simp
                          refine hK _ _ ?_
                          clear hK K
                          refine wpAny_ready (rs := [6]) (by kernel_rfl) (by simp) ?_
                          refine AllReady.cons rfl (fun K hK => ?_) ?_
                          · refine step_append_lies _ (by rfl) (.tmp 53) (.tmp 57) 58 (by rfl) (w5.heap.size + 3) 101 iG (.agg #[.int .i64 0, .slice none 0 0, .slice none 0 0]) 3 56 Tryz.underlying58 HIG.out.1 HIG.out.2.1 HIG.out.2.2.1 HIG.out.2.2.2 rfl (by decide) gv pre.length (xs.flatMap encG) (by rfl) ((E.ownsRow_up hxo hb8).alloc _) ⟨w8.heap.size, 0, none⟩ 1 1 [.int .i64 (part6 rows k.1).length, .slice sa l.length sc, .slice ba l.length bc] (by rfl) rfl (fun j u hj => World.news_of_block (heap_alloc_new _ _) j u hj) (by simp [Value.oneCell']) (by omega) (by unfold maxLen; omega) (by omega) (by simp; omega) _ rfl ?_
                            intro g9 cap9 w9 ho9 hg9 hat9 hlt9
                            have HFIN := mkH (make_step (B := W7.heap.size) (l := l) (rows := rows) (pre := pre) (k := k) hb8 hxs hxo hxg hsv hbv ho9 hg9 hfW hfb hfbs3)
                            obtain ⟨r1, r2, _⟩ := HFIN.out
                            try go_simp
                            refine hK _ _ ?_
                            clear hK K
                            refine wpAny_take (i := 7) (v := .pointer (some ⟨w5.heap.size, 1, none⟩)) rfl (by kernel_rfl) (by kernel_rfl) (by kernel_rfl) (fun _ _ _ h => h) (Or.inl ⟨by rfl, ?t7⟩) ?_
                            case t7 => (intro w; go_simp)
                            refine wpAny_ready (rs := [8]) (by kernel_rfl) (by simp) ?_
                            refine AllReady.cons rfl (fun K hK => ?_) ?_
                            · go_simp
                              refine hK _ _ ?_
                              clear hK K
                              refine wpAny_done (by kernel_rfl) ?_ _
                              exact HFIN.out.2.2 (fun _ _ _ => False) { tmps := #[], defers := [] }
                            · exact AllReady.nil
                          · exact AllReady.nil
                        · exact AllReady.nil
                      · exact AllReady.nil
                  · exact AllReady.nil
              · exact AllReady.nil
          case done =>
            rintro D ys W hD hys ⟨⟨gv, hfW, hgs⟩, hfb, hfb3⟩ hK
            obtain ⟨_, _, _, hresW, hbW⟩ := HW.out W hfb
            obtain ⟨f0, f1⟩ := row2 hfW
            obtain ⟨z0, z1⟩ := row2 hresW
            have y0 := frozen_of_row W (w.heap.size + 1) 0 _ _ hresW
            have y1 := frozen_of_row W (w.heap.size + 1) 1 _ _ hresW
            obtain ⟨ga, gc, rfl, _⟩ := SlG.slice hgs.slg
            gi_wp2
            go_wp2
            have hD7 : w5.heap.size + 3 ≤ D := by omega
            have hDs := E.blk_lt hK
            have hg2 : W.grownBy ((W.setCell ⟨w.heap.size + 1, 0, none⟩ (.slice (some ⟨g5, 0, none⟩) l.length c5)).setCell ⟨w.heap.size + 1, 1, none⟩ (.slice ga ys.length gc)) (some (w.heap.size + 1)) := E.grown_trans (E.grown_set W (w.heap.size + 1) 0 _) (E.grown_set _ (w.heap.size + 1) 1 _)
            have hK2 := (hg2.block D hDs (by simp; omega)).trans hK
            have hres2 := heap_setCell_same _ (w.heap.size + 1) 1 _ _ (.slice ga ys.length gc) (heap_setCell_same W (w.heap.size + 1) 0 _ _ (.slice (some ⟨g5, 0, none⟩) l.length c5) hresW)
            have hbS : Below w.heap.size w ((W.setCell ⟨w.heap.size + 1, 0, none⟩ (.slice (some ⟨g5, 0, none⟩) l.length c5)).setCell ⟨w.heap.size + 1, 1, none⟩ (.slice ga ys.length gc)) := (hbW.setCell (p := ⟨w.heap.size + 1, 0, none⟩) (Nat.le_succ _) _).setCell (p := ⟨w.heap.size + 1, 1, none⟩) (Nat.le_succ _) _
            have hown := E.ownsRow_rd (E.ownsRow_up HO5.out (Below.mono hfb (Nat.le_refl _))) (show w.heap.size + 1 < wr.heap.size by omega) hg2
            have hgs2 := hgs.kept hg2 (fun r e => by injection e with e; subst e; exact ⟨_, hresW, .inr ⟨_, rfl⟩⟩)
            refine ⟨by simp, .inl ⟨_, _, rfl, run_takeDeferred hK2, ?_⟩⟩
            generalize (W.setCell ⟨w.heap.size + 1, 0, none⟩ (.slice (some ⟨g5, 0, none⟩) l.length c5)).setCell ⟨w.heap.size + 1, 1, none⟩ (.slice ga ys.length gc) = W9 at *
            have hr9 := (World.putObj_heap_other (w := W9) (r := D) (k := w.heap.size + 1) (o := .deferred none) (by omega)).trans hres2
            obtain ⟨x0, x1⟩ := row2 hr9
            refine ⟨.tuple #[.agg #[.slice (some ⟨g5, 0, none⟩) l.length c5, .slice ga ys.length gc], .nilIface], by simp [results, Tryz.results20, go_sem, x0, x1], ?_⟩
            rw [makeR_yes HMK.out]
            refine ⟨_, _, rfl, ⟨SlE.of_own (k := 7) (enc := C.encC) (fun _ => rfl) (ownsRow_putObj hown _ hK2 rfl) rfl, ?_⟩, hbS.trans (belowK_b (w := w) (Nat.le_refl _) W9 D _ _ (by omega) hK2 rfl rfl)⟩
            have hgr := (hgs2.kept (grownBy_putObj' W9 D (.deferred none)) (fun r e => by injection e with e; subst e; exact ⟨_, hK2, .inl rfl⟩)).slg
            have egr : (ys.map fun k => groupOf l (part6 rows k.1)) = groupsOf l rows := by unfold groupsOf parts; rw [← hys]; simp [List.map_map, ckN, Function.comp_def]
            show SlG _ _ (groupsOf l rows)
            rw [← egr]
            simpa only [List.length_map] using hgr
    · have HE : Hid (makeR l rows = none) := mkH (makeR_no (by
        cases h : makeOk l rows with
        | false => rfl
        | true => exact absurd ⟨(makeOk_iff.1 h).2.1, (makeOk_iff.1 h).2.2.1⟩ h60))
      have hY := HY.out
      have HKW2 : Hid (∀ W, Below (w.heap.size + 2) ((w.alloc (.cells #[.slice la l.length lc] 22)).alloc (.cells #[.slice none 0 0, .slice none 0 0] 60)) W → W.cell? ⟨w.heap.size, 0, none⟩ = some (.slice la l.length lc) ∧ W.heap[w.heap.size + 1]? = some (.cells #[.slice none 0 0, .slice none 0 0] 60) ∧ Below w.heap.size w W) := HKW
      have hcase : rows.length < 1 ∨ 60 < rows.length := by omega
      have hi60 : (rows.length : Int) < 1 ∨ (60 : Int) < (rows.length : Int) := by omega
      refine (callsIn_wide (n := 5)).1 ?_
      refine callsIn_of_wp_marks Tryz.func20 rfl trivial ?_ rfl
      simp only [Tryz.ntmps20, List.size_toArray, List.length_cons, List.length_nil, Nat.reduceAdd, Nat.reduceSub, Array.replicate_succ, Array.replicate_zero, List.push_toArray, List.append_toArray, List.nil_append, List.cons_append]
      refine wpIn_wide.2 ?_
      go_wp2_with fail
      refine HRT.out.mono ?_
      rintro e w1 ⟨rfl, hb1⟩
      obtain ⟨_, hY1, hb01⟩ := HKW2.out w1 (by rw [← hs2]; exact hb1)
      obtain ⟨z0, z1⟩ := row2 hY1
      have f0 := frozen_of_row w1 (w.heap.size + 1) 0 _ _ hY1
      have f1 := frozen_of_row w1 (w.heap.size + 1) 1 _ _ hY1
      have HY1 := mkH hY1
      have HB01 := mkH hb01
      clear hY1 hb01 hb1 HRT HKW HKW2 hY HY hs2 HS2 HB HX h60 hcase
      rcases hi60 with hi60 | hi60
      all_goals go_wp2
      all_goals
        refine ⟨.tuple #[.agg #[.slice none 0 0, .slice none 0 0], .iface 89 (.int .i64 4)], by simp [results, Tryz.results20, go_sem, z0, z1], ?_⟩
        rw [HE.out]
        exact ⟨_, _, rfl, (HB01.out.setCell (p := ⟨w.heap.size + 1, 0, none⟩) (Nat.le_succ _) _).setCell (p := ⟨w.heap.size + 1, 1, none⟩) (Nat.le_succ _) _⟩
end Go.Proofs.YtlnkbhbpkmnkaaaGreatDoor.F
