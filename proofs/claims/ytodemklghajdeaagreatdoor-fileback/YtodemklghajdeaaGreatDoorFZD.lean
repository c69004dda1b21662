/- What millpondkeep.FileBack does, said of every call: it answers true, if filed does. -/
import Derived.Test.YtodemklghajdeaaGreatDoorFZ9
import Derived.Test.YtodemklghajdeaaGreatDoorFZA
import Derived.Test.YtodemklghajdeaaGreatDoorFZB
namespace Go.Proofs.YtodemklghajdeaaGreatDoor
open Go.RowKit Go.Proofs Go.Shelf Go.Joins

theorem parseR_file {s : List UInt8} {f : Fil} (h : parseR s = some f) : (rdFile s).1 = f := by
  unfold parseR at h
  split at h
  · cases h
  · split at h
    · injection h
    · cases h
theorem own_pos (l : List Col) : ∀ c ∈ l, pos l c.1 < l.length := fun c hc => by
  have hi : c.1 ∈ ids l := List.mem_map.2 ⟨c, hc, rfl⟩
  have := List.idxOf_lt_length_of_mem hi
  unfold pos
  simpa [ids] using this
theorem writeB_pos (f : Fil) : 0 < (writeB f).length := by
  have := uv_pos f.1.length
  simp only [writeB, List.length_append]; omega
def FiledOk : Prop := ∀ W, C.NcB W → C.EtB W → Calls Tryz.prog 8 #[] W fun e w' => e = .returned (.bool true) ∧ Below W.heap.size W w'
set_option maxHeartbeats 16000000 in
set_option maxRecDepth 100000 in
theorem fileBack_any (hfiled : FiledOk) (lv rv : Value) (l : List Col) (rows : List (List V)) (s : List UInt8) (cut : Int) (w : World) (hl : SlE 7 C.encC w lv l) (hr : SlR w rv rows) (hms : ∀ c ∈ l, c.2.1.size ≤ maxLen ∧ c.2.2.2.2.2.2.size ≤ maxLen)
    (hrs : ∀ r ∈ rows, ∀ v ∈ r, v.2.2.size ≤ maxLen) (h64 : All64 rows) (hw : C.NcB w) (hg : C.EtB w) :
    Calls Tryz.prog 3 #[lv, rv, .string (E.str s), .int .i64 cut] w fun e w' => e = .returned (.bool true) ∧ Below w.heap.size w w' := by
  have HL := mkH hl
  have HR := mkH hr
  have HMS := mkH hms
  have HRS := mkH hrs
  have H64 := mkH h64
  have HNC := mkH hw
  have HET := mkH hg
  have HC1 := mkH (columns_any lv l w hl hms)
  have HC2 := mkH (fun W (hW : Below w.heap.size w W) => keepRows_any rv rows W (hr.up hW) hrs)
  have HFD := mkH (fun W (hW : Below w.heap.size w W) => hfiled W (hw.below hW) (hg.below hW))
  obtain ⟨la, lc, rfl, _⟩ := hl.slice
  obtain ⟨ra, rc, rfl, _⟩ := hr.slice
  have hss := str_size s
  clear hl hr hms hrs h64 hw hg
  go_enter Tryz.func3, Tryz.ntmps3
  go_wp2_with fail
  refine HC1.out.mono ?_
  rintro e w1 ⟨b1, rfl, hf1, hb1⟩
  cases b1 with
  | false =>
    go_wp2
    go_ret
    exact ⟨rfl, hb1⟩
  | true =>
    have HF1 := mkH (hf1 rfl)
    clear hf1
    go_wp2_with fail
    refine (HC2.out w1 (by first | exact hb1 | exact hb1.drew)).mono ?_
    rintro e w2 ⟨b2, rfl, hf2, hb2⟩
    have hb02 := ups hb1 hb2
    cases b2 with
    | false =>
      go_wp2
      go_ret
      exact ⟨rfl, hb02⟩
    | true =>
      have HF2 := mkH (hf2 rfl)
      have HB2 := mkH hb02
      clear hf2 hb1 hb2
      by_cases h2000 : 2000 < (E.str s).size
      · have h2000' : (2000 : Int) < ((E.str s).size : Int) := by omega
        go_wp2
        go_ret
        exact ⟨rfl, hb02⟩
      · have h2000' : ¬ (2000 : Int) < ((E.str s).size : Int) := by omega
        have hsl : s.length ≤ 1000000 := by omega
        have hl20 := HF1.out.1
        have hr70 := HF2.out.1
        clear hss
        go_wp2_with fail
        refine (HFD.out w2 (by first | exact hb02 | exact hb02.drew)).mono ?_
        rintro e w3 ⟨rfl, hb3⟩
        have hb03 := ups hb02 hb3
        have HPS := mkH (parse_any s w3 hsl (HNC.out.below hb03) (HET.out.below hb03))
        go_wp2_with fail
        cases hp : parseR s with
        | none =>
          rw [hp] at HPS
          clear hp
          refine HPS.out.mono ?_
          rintro e w4 ⟨rfl, hb4⟩
          have hbA : Below w.heap.size w (w4.alloc (.cells #[.slice none 0 0, .slice none 0 0] 29)) := (ups hb03 hb4).alloc (by have := hb03.size; have := hb4.size; omega) _
          go_wp2_with fail
          generalize w4.alloc (.cells #[.slice none 0 0, .slice none 0 0] 29) = wA at *
          have HMK := mkH (make_any (.slice la l.length lc) (.slice ra rows.length rc) l rows wA (HL.out.up hbA) (HR.out.up hbA) (by omega) (by omega) HMS.out HRS.out H64.out (HNC.out.below hbA) (HET.out.below hbA))
          cases hm : makeR l rows with
          | none =>
            rw [hm] at HMK
            clear hm
            refine HMK.out.mono ?_
            rintro e w6 ⟨T6, v6, rfl, hb6⟩
            have hbf := (ups hbA hb6).alloc (by have := hbA.size; have := hb6.size; omega) (.cells #[.slice none 0 0, .slice none 0 0] 29)
            go_wp2
            go_ret
            exact ⟨rfl, hbf⟩
          | some f =>
            have hok : makeOk l rows = true := by
              cases h : makeOk l rows with
              | true => rfl
              | false => rw [makeR_no h] at hm; cases hm
            rw [makeR_yes hok] at hm
            injection hm with hm
            subst hm
            rw [makeR_yes hok] at HMK
            have HOK := mkH hok
            have HRF := mkH (makeOk_iff.1 hok).1
            have hl8 := HRF.out.eight
            have hl1 := HRF.out.one
            have hgl : (groupsOf l rows).length = nGr rows.length := by unfold groupsOf; rw [List.length_map, parts_len]
            have hr60 := (makeOk_iff.1 hok).2.2.1
            have hg10 := nGr_le hr60
            have HWL := mkH (write_len hok H64.out)
            have HWP := mkH (writeB_pos (l, groupsOf l rows))
            have HSZ : Hid (∀ g ∈ groupsOf l rows, ∀ b ∈ g.2.2, b.length ≤ 1000000) := mkH (fun g hg b hb => Nat.le_trans (byte_len (f := (l, groupsOf l rows)) hg hb) (by have := HWL.out; omega))
            have HWR : Hid (writeR (l, groupsOf l rows) = some (writeB (l, groupsOf l rows))) := mkH (by unfold writeR; rw [if_pos (made_ok hok (sameIK_refl l) H64.out)])
            have HPW := mkH (parse_write hok H64.out)
            have HPC := mkH (fun k hk => parse_cut hok H64.out (k := k) hk)
            have HAB := mkH (fun cols (hs : SameIK cols l) => all_back hok hs H64.out)
            have HRSUM := mkH (rows_sum l rows)
            have HG6 : Hid (∀ g ∈ groupsOf l rows, g.1 ≤ 6) := mkH (fun g hg => by
              obtain ⟨p, hp, rfl⟩ := List.mem_map.1 hg
              exact (parts_mem hp).2.1)
            clear hok
            generalize hwb : writeB (l, groupsOf l rows) = t at *
            clear hwb
            refine HMK.out.mono ?_
            rintro e w6 ⟨cv, gv, rfl, hF6, hb6⟩
            obtain ⟨ca, cc, rfl, _⟩ := hF6.1.slice
            obtain ⟨ga, gc, rfl, _⟩ := hF6.2.slice
            dsimp only at hF6 ⊢
            rw [hgl] at hF6 ⊢
            have hbX : Below w6.heap.size w6 (w6.alloc (.cells #[.slice ca l.length cc, .slice ga (nGr rows.length) gc] 29)) := (Below.refl _ _).alloc (Nat.le_refl _) _
            have HFX := mkH (hF6.up hbX)
            have HBX := mkH (ups (ups hbA hb6) hbX)
            have HFB := mkH (heap_alloc_new w6 (.cells #[.slice ca l.length cc, .slice ga (nGr rows.length) gc] 29))
            have hs6 : w6.heap.size < (w6.alloc (.cells #[.slice ca l.length cc, .slice ga (nGr rows.length) gc] 29)).heap.size := by simp
            obtain ⟨f0, f1⟩ := row2 HFB.out
            clear hF6 hb6 hbX hbA HMK
            go_wp2_with fail
            generalize w6.alloc (.cells #[.slice ca l.length cc, .slice ga (nGr rows.length) gc] 29) = wB at *
            have HWW := mkH (write_any _ _ l (groupsOf l rows) wB HFX.out hl8 HSZ.out (by omega) (HNC.out.below HBX.out) (HET.out.below HBX.out))
            rw [HWR.out] at HWW
            refine HWW.out.mono ?_
            rintro e w7 ⟨rfl, hb7⟩
            have HB7 := mkH (ups HBX.out hb7)
            have HPP := mkH (parse_any t w7 (by have := HWL.out; omega) (HNC.out.below HB7.out) (HET.out.below HB7.out))
            rw [HPW.out] at HPP
            have HF7 := mkH (HFX.out.up hb7)
            have HFB7 := mkH ((hb7.block w6.heap.size hs6).trans HFB.out)
            have hs7 : w6.heap.size < w7.heap.size := Nat.lt_of_lt_of_le hs6 hb7.size
            clear hb7 HWW HFX HFB hs6 f0 f1
            go_wp2_with fail
            refine HPP.out.mono ?_
            rintro e w8 ⟨dv, ev, rfl, hF8, hb8⟩
            obtain ⟨da, dc, rfl, _⟩ := hF8.1.slice
            obtain ⟨ea, ec, rfl, _⟩ := hF8.2.slice
            dsimp only at hF8 ⊢
            rw [hgl, stripC_len] at hF8 ⊢
            have hbY : Below w8.heap.size w8 (w8.alloc (.cells #[.slice da l.length dc, .slice ea (nGr rows.length) ec] 29)) := (Below.refl _ _).alloc (Nat.le_refl _) _
            have HFC := mkH (HF7.out.up (ups hb8 hbY))
            have HGC := mkH (hF8.up hbY)
            have HBC := mkH (ups HB7.out (ups hb8 hbY))
            have HFBC := mkH (((ups hb8 hbY).block w6.heap.size hs7).trans HFB7.out)
            have HGBC := mkH (heap_alloc_new w8 (.cells #[.slice da l.length dc, .slice ea (nGr rows.length) ec] 29))
            have hs8 : w8.heap.size < (w8.alloc (.cells #[.slice da l.length dc, .slice ea (nGr rows.length) ec] 29)).heap.size := by simp
            have hs86 : w6.heap.size < (w8.alloc (.cells #[.slice da l.length dc, .slice ea (nGr rows.length) ec] 29)).heap.size := Nat.lt_of_lt_of_le hs7 (ups hb8 hbY).size
            have HSM : Hid (sumTo (groupsOf l rows) (groupsOf l rows).length = rows.length) := mkH (by unfold sumTo; rw [List.take_length]; exact HRSUM.out)
            obtain ⟨x0, x1⟩ := row2 HGBC.out
            have hdiv : (((nGr rows.length : Nat) : Int) != ((rows.length : Int) + 6 - 1) / 6) = false := by
              rw [bne_eq_false_iff_eq]; unfold nGr; omega
            clear hF8 hb8 hbY HF7 HB7 HFB7 hs7 HPP HWR HPW HG6
            have HG6 : Hid (∀ g ∈ groupsOf l rows, g.1 ≤ 6) := mkH (fun g hg => by
              obtain ⟨p, hp, rfl⟩ := List.mem_map.1 hg
              exact (parts_mem hp).2.1)
            go_wp2_with fail
            generalize w8.alloc (.cells #[.slice da l.length dc, .slice ea (nGr rows.length) ec] 29) = wC at *
            refine (rows_any _ _ (groupsOf l rows) wC HGC.out.2 HG6.out (by omega)).mono ?_
            rintro e w9 ⟨rfl, hb9⟩
            rw [HSM.out]
            have HFD9 := mkH (HFC.out.up hb9)
            have HGD9 := mkH (HGC.out.up hb9)
            have HB9 := mkH (ups HBC.out hb9)
            have hFB9 := (hb9.block w6.heap.size hs86).trans HFBC.out
            have hGB9 := (hb9.block w8.heap.size hs8).trans HGBC.out
            obtain ⟨f0, f1⟩ := row2 hFB9
            obtain ⟨x0, x1⟩ := row2 hGB9
            have HFB9 := mkH hFB9
            have HGB9 := mkH hGB9
            have hs9 : w6.heap.size < w9.heap.size ∧ w8.heap.size < w9.heap.size := ⟨Nat.lt_of_lt_of_le hs86 hb9.size, Nat.lt_of_lt_of_le hs8 hb9.size⟩
            clear hFB9 hGB9 hb9 HFC HGC HBC HFBC HGBC hs8 hs86 HSM
            have HA1 := mkH (all_any (.slice ca l.length cc) (.slice ga (nGr rows.length) gc) (.slice la l.length lc) l (groupsOf l rows) l w9 HFD9.out (HL.out.up HB9.out) hl8 hl1 hl8 (own_pos l) HSZ.out (by omega))
            rw [HAB.out l (sameIK_refl l)] at HA1
            go_wp2_with fail
            refine HA1.out.mono ?_
            rintro e w10 ⟨xv, rfl, hso, hb10⟩
            have HX := mkH hso.slr
            have HB10 := mkH (ups HB9.out hb10)
            have hGB10 := (hb10.block w8.heap.size hs9.2).trans HGB9.out
            obtain ⟨x0, x1⟩ := row2 hGB10
            have HA2 := mkH (all_any (.slice da l.length dc) (.slice ea (nGr rows.length) ec) (.slice la l.length lc) (stripC l) (groupsOf l rows) l w10 (HGD9.out.up hb10) (HL.out.up HB10.out) hl8 (by rw [stripC_len]; exact hl1) (by rw [stripC_len]; exact hl8) (fun c hc => by rw [(sameIK_strip l).posq, stripC_len]; exact own_pos l c hc) HSZ.out (by omega))
            rw [HAB.out (stripC l) (sameIK_strip l)] at HA2
            obtain ⟨xa, xc, rfl, _⟩ := hso.slr.slice
            clear hso hb10 hGB10 HA1 HFD9 HGD9 HFB9 HGB9 f0 f1 hdiv HB9
            go_wp2_with fail
            refine HA2.out.mono ?_
            rintro e w11 ⟨yv, rfl, hso, hb11⟩
            have HY := mkH hso.slr
            have HX11 := mkH (HX.out.up hb11)
            have HB11 := mkH (ups HB10.out hb11)
            obtain ⟨ya, yc, rfl, _⟩ := hso.slr.slice
            have HS1 := mkH (keepSame_any (.slice xa rows.length xc) (.slice ra rows.length rc) rows w11 HX11.out (HR.out.up HB11.out) (by omega) (fun r hr => by have := (HF2.out.2 r hr).1; omega))
            clear hso hb11 HA2 x0 x1
            go_wp2_with fail
            refine HS1.out.mono ?_
            rintro e w12 ⟨rfl, hb12⟩
            have HB12 := mkH (ups HB11.out hb12)
            have HS2 := mkH (keepSame_any (.slice ya rows.length yc) (.slice ra rows.length rc) rows w12 (HY.out.up hb12) (HR.out.up HB12.out) (by omega) (fun r hr => by have := (HF2.out.2 r hr).1; omega))
            clear hb12 HS1
            go_wp2_with fail
            refine HS2.out.mono ?_
            rintro e w13 ⟨rfl, hb13⟩
            have HB13 := mkH (ups HB12.out hb13)
            have hts : (E.str t).size = t.length := str_size t
            have htl := HWL.out
            have htp := HWP.out
            have HPK : Hid (Calls Tryz.prog 15 #[.int .i64 cut, .int .i64 (E.str t).size] w13 _) := mkH (pick_any cut (E.str t).size (by omega) (by omega) w13)
            have htb : (E.str t).size ≤ 1000000 := by omega
            clear hb13 HS2 hts
            go_wp2_with fail
            refine HPK.out.mono ?_
            rintro e w14 ⟨k, hk, rfl, rfl⟩
            have hkl : (k : Int) ≤ ((E.str t).size : Int) := by omega
            have HTK : Hid (k < t.length) := mkH (by rw [← str_size]; exact hk)
            have hxt : (E.str t).extract 0 k = E.str (t.take k) := by rw [E.extract_head]; simp [E.str]
            have HPL := mkH (parse_any (t.take k) w14 (by rw [List.length_take]; omega) (HNC.out.below HB13.out) (HET.out.below HB13.out))
            rw [HPC.out k HTK.out] at HPL
            go_wp2_with fail
            refine HPL.out.mono ?_
            rintro e w15 ⟨rfl, hb15⟩
            have hbf := ups HB13.out hb15
            go_wp2
            go_ret
            exact ⟨rfl, hbf⟩
        | some f =>
          obtain ⟨cols0, gs0⟩ := f
          rw [hp] at HPS
          have HWS := mkH (write_parse hp)
          have hfit := rdFile_fit s
          have hpf : (rdFile s).1 = (cols0, gs0) := parseR_file hp
          rw [hpf] at hfit
          dsimp only at hfit
          obtain ⟨hf8, hf60, hfb⟩ := hfit
          have HFB0 := mkH (fun g hg b hb => Nat.le_trans (hfb g hg b hb) hsl)
          clear hp hpf hfb
          refine HPS.out.mono ?_
          rintro e w4 ⟨cv0, gv0, rfl, hF4, hb4⟩
          obtain ⟨c0a, c0c, rfl, _⟩ := hF4.1.slice
          obtain ⟨g0a, g0c, rfl, _⟩ := hF4.2.slice
          dsimp only at hF4 ⊢
          have hbG : Below w4.heap.size w4 (w4.alloc (.cells #[.slice c0a cols0.length c0c, .slice g0a gs0.length g0c] 29)) := (Below.refl _ _).alloc (Nat.le_refl _) _
          have hbG0 := ups (ups hb03 hb4) hbG
          have HW4 := mkH (write_any _ _ cols0 gs0 _ (hF4.up hbG) hf8 HFB0.out hf60 (HNC.out.below hbG0) (HET.out.below hbG0))
          rw [HWS.out] at HW4
          obtain ⟨f0, f1⟩ := row2 (heap_alloc_new w4 (.cells #[.slice c0a cols0.length c0c, .slice g0a gs0.length g0c] 29))
          clear hF4 hb4 hbG HPS
          go_wp2_with fail
          refine HW4.out.mono ?_
          rintro e wA ⟨rfl, hb5⟩
          have hbA := ups hbG0 hb5
          clear hb5 HW4 f0 f1 hbG0
          go_wp2_with fail
          have HMK := mkH (make_any (.slice la l.length lc) (.slice ra rows.length rc) l rows wA (HL.out.up hbA) (HR.out.up hbA) (by omega) (by omega) HMS.out HRS.out H64.out (HNC.out.below hbA) (HET.out.below hbA))
          cases hm : makeR l rows with
          | none =>
            rw [hm] at HMK
            clear hm
            refine HMK.out.mono ?_
            rintro e w6 ⟨T6, v6, rfl, hb6⟩
            have hbf := (ups hbA hb6).alloc (by have := hbA.size; have := hb6.size; omega) (.cells #[.slice none 0 0, .slice none 0 0] 29)
            go_wp2
            go_ret
            exact ⟨rfl, hbf⟩
          | some f =>
            have hok : makeOk l rows = true := by
              cases h : makeOk l rows with
              | true => rfl
              | false => rw [makeR_no h] at hm; cases hm
            rw [makeR_yes hok] at hm
            injection hm with hm
            subst hm
            rw [makeR_yes hok] at HMK
            have HOK := mkH hok
            have HRF := mkH (makeOk_iff.1 hok).1
            have hl8 := HRF.out.eight
            have hl1 := HRF.out.one
            have hgl : (groupsOf l rows).length = nGr rows.length := by unfold groupsOf; rw [List.length_map, parts_len]
            have hr60 := (makeOk_iff.1 hok).2.2.1
            have hg10 := nGr_le hr60
            have HWL := mkH (write_len hok H64.out)
            have HWP := mkH (writeB_pos (l, groupsOf l rows))
            have HSZ : Hid (∀ g ∈ groupsOf l rows, ∀ b ∈ g.2.2, b.length ≤ 1000000) := mkH (fun g hg b hb => Nat.le_trans (byte_len (f := (l, groupsOf l rows)) hg hb) (by have := HWL.out; omega))
            have HWR : Hid (writeR (l, groupsOf l rows) = some (writeB (l, groupsOf l rows))) := mkH (by unfold writeR; rw [if_pos (made_ok hok (sameIK_refl l) H64.out)])
            have HPW := mkH (parse_write hok H64.out)
            have HPC := mkH (fun k hk => parse_cut hok H64.out (k := k) hk)
            have HAB := mkH (fun cols (hs : SameIK cols l) => all_back hok hs H64.out)
            have HRSUM := mkH (rows_sum l rows)
            have HG6 : Hid (∀ g ∈ groupsOf l rows, g.1 ≤ 6) := mkH (fun g hg => by
              obtain ⟨p, hp, rfl⟩ := List.mem_map.1 hg
              exact (parts_mem hp).2.1)
            clear hok
            generalize hwb : writeB (l, groupsOf l rows) = t at *
            clear hwb
            refine HMK.out.mono ?_
            rintro e w6 ⟨cv, gv, rfl, hF6, hb6⟩
            obtain ⟨ca, cc, rfl, _⟩ := hF6.1.slice
            obtain ⟨ga, gc, rfl, _⟩ := hF6.2.slice
            dsimp only at hF6 ⊢
            rw [hgl] at hF6 ⊢
            have hbX : Below w6.heap.size w6 (w6.alloc (.cells #[.slice ca l.length cc, .slice ga (nGr rows.length) gc] 29)) := (Below.refl _ _).alloc (Nat.le_refl _) _
            have HFX := mkH (hF6.up hbX)
            have HBX := mkH (ups (ups hbA hb6) hbX)
            have HFB := mkH (heap_alloc_new w6 (.cells #[.slice ca l.length cc, .slice ga (nGr rows.length) gc] 29))
            have hs6 : w6.heap.size < (w6.alloc (.cells #[.slice ca l.length cc, .slice ga (nGr rows.length) gc] 29)).heap.size := by simp
            obtain ⟨f0, f1⟩ := row2 HFB.out
            clear hF6 hb6 hbX hbA HMK
            go_wp2_with fail
            generalize w6.alloc (.cells #[.slice ca l.length cc, .slice ga (nGr rows.length) gc] 29) = wB at *
            have HWW := mkH (write_any _ _ l (groupsOf l rows) wB HFX.out hl8 HSZ.out (by omega) (HNC.out.below HBX.out) (HET.out.below HBX.out))
            rw [HWR.out] at HWW
            refine HWW.out.mono ?_
            rintro e w7 ⟨rfl, hb7⟩
            have HB7 := mkH (ups HBX.out hb7)
            have HPP := mkH (parse_any t w7 (by have := HWL.out; omega) (HNC.out.below HB7.out) (HET.out.below HB7.out))
            rw [HPW.out] at HPP
            have HF7 := mkH (HFX.out.up hb7)
            have HFB7 := mkH ((hb7.block w6.heap.size hs6).trans HFB.out)
            have hs7 : w6.heap.size < w7.heap.size := Nat.lt_of_lt_of_le hs6 hb7.size
            clear hb7 HWW HFX HFB hs6 f0 f1
            go_wp2_with fail
            refine HPP.out.mono ?_
            rintro e w8 ⟨dv, ev, rfl, hF8, hb8⟩
            obtain ⟨da, dc, rfl, _⟩ := hF8.1.slice
            obtain ⟨ea, ec, rfl, _⟩ := hF8.2.slice
            dsimp only at hF8 ⊢
            rw [hgl, stripC_len] at hF8 ⊢
            have hbY : Below w8.heap.size w8 (w8.alloc (.cells #[.slice da l.length dc, .slice ea (nGr rows.length) ec] 29)) := (Below.refl _ _).alloc (Nat.le_refl _) _
            have HFC := mkH (HF7.out.up (ups hb8 hbY))
            have HGC := mkH (hF8.up hbY)
            have HBC := mkH (ups HB7.out (ups hb8 hbY))
            have HFBC := mkH (((ups hb8 hbY).block w6.heap.size hs7).trans HFB7.out)
            have HGBC := mkH (heap_alloc_new w8 (.cells #[.slice da l.length dc, .slice ea (nGr rows.length) ec] 29))
            have hs8 : w8.heap.size < (w8.alloc (.cells #[.slice da l.length dc, .slice ea (nGr rows.length) ec] 29)).heap.size := by simp
            have hs86 : w6.heap.size < (w8.alloc (.cells #[.slice da l.length dc, .slice ea (nGr rows.length) ec] 29)).heap.size := Nat.lt_of_lt_of_le hs7 (ups hb8 hbY).size
            have HSM : Hid (sumTo (groupsOf l rows) (groupsOf l rows).length = rows.length) := mkH (by unfold sumTo; rw [List.take_length]; exact HRSUM.out)
            obtain ⟨x0, x1⟩ := row2 HGBC.out
            have hdiv : (((nGr rows.length : Nat) : Int) != ((rows.length : Int) + 6 - 1) / 6) = false := by
              rw [bne_eq_false_iff_eq]; unfold nGr; omega
            clear hF8 hb8 hbY HF7 HB7 HFB7 hs7 HPP HWR HPW HG6
            have HG6 : Hid (∀ g ∈ groupsOf l rows, g.1 ≤ 6) := mkH (fun g hg => by
              obtain ⟨p, hp, rfl⟩ := List.mem_map.1 hg
              exact (parts_mem hp).2.1)
            go_wp2_with fail
            generalize w8.alloc (.cells #[.slice da l.length dc, .slice ea (nGr rows.length) ec] 29) = wC at *
            refine (rows_any _ _ (groupsOf l rows) wC HGC.out.2 HG6.out (by omega)).mono ?_
            rintro e w9 ⟨rfl, hb9⟩
            rw [HSM.out]
            have HFD9 := mkH (HFC.out.up hb9)
            have HGD9 := mkH (HGC.out.up hb9)
            have HB9 := mkH (ups HBC.out hb9)
            have hFB9 := (hb9.block w6.heap.size hs86).trans HFBC.out
            have hGB9 := (hb9.block w8.heap.size hs8).trans HGBC.out
            obtain ⟨f0, f1⟩ := row2 hFB9
            obtain ⟨x0, x1⟩ := row2 hGB9
            have HFB9 := mkH hFB9
            have HGB9 := mkH hGB9
            have hs9 : w6.heap.size < w9.heap.size ∧ w8.heap.size < w9.heap.size := ⟨Nat.lt_of_lt_of_le hs86 hb9.size, Nat.lt_of_lt_of_le hs8 hb9.size⟩
            clear hFB9 hGB9 hb9 HFC HGC HBC HFBC HGBC hs8 hs86 HSM
            have HA1 := mkH (all_any (.slice ca l.length cc) (.slice ga (nGr rows.length) gc) (.slice la l.length lc) l (groupsOf l rows) l w9 HFD9.out (HL.out.up HB9.out) hl8 hl1 hl8 (own_pos l) HSZ.out (by omega))
            rw [HAB.out l (sameIK_refl l)] at HA1
            go_wp2_with fail
            refine HA1.out.mono ?_
            rintro e w10 ⟨xv, rfl, hso, hb10⟩
            have HX := mkH hso.slr
            have HB10 := mkH (ups HB9.out hb10)
            have hGB10 := (hb10.block w8.heap.size hs9.2).trans HGB9.out
            obtain ⟨x0, x1⟩ := row2 hGB10
            have HA2 := mkH (all_any (.slice da l.length dc) (.slice ea (nGr rows.length) ec) (.slice la l.length lc) (stripC l) (groupsOf l rows) l w10 (HGD9.out.up hb10) (HL.out.up HB10.out) hl8 (by rw [stripC_len]; exact hl1) (by rw [stripC_len]; exact hl8) (fun c hc => by rw [(sameIK_strip l).posq, stripC_len]; exact own_pos l c hc) HSZ.out (by omega))
            rw [HAB.out (stripC l) (sameIK_strip l)] at HA2
            obtain ⟨xa, xc, rfl, _⟩ := hso.slr.slice
            clear hso hb10 hGB10 HA1 HFD9 HGD9 HFB9 HGB9 f0 f1 hdiv HB9
            go_wp2_with fail
            refine HA2.out.mono ?_
            rintro e w11 ⟨yv, rfl, hso, hb11⟩
            have HY := mkH hso.slr
            have HX11 := mkH (HX.out.up hb11)
            have HB11 := mkH (ups HB10.out hb11)
            obtain ⟨ya, yc, rfl, _⟩ := hso.slr.slice
            have HS1 := mkH (keepSame_any (.slice xa rows.length xc) (.slice ra rows.length rc) rows w11 HX11.out (HR.out.up HB11.out) (by omega) (fun r hr => by have := (HF2.out.2 r hr).1; omega))
            clear hso hb11 HA2 x0 x1
            go_wp2_with fail
            refine HS1.out.mono ?_
            rintro e w12 ⟨rfl, hb12⟩
            have HB12 := mkH (ups HB11.out hb12)
            have HS2 := mkH (keepSame_any (.slice ya rows.length yc) (.slice ra rows.length rc) rows w12 (HY.out.up hb12) (HR.out.up HB12.out) (by omega) (fun r hr => by have := (HF2.out.2 r hr).1; omega))
            clear hb12 HS1
            go_wp2_with fail
            refine HS2.out.mono ?_
            rintro e w13 ⟨rfl, hb13⟩
            have HB13 := mkH (ups HB12.out hb13)
            have hts : (E.str t).size = t.length := str_size t
            have htl := HWL.out
            have htp := HWP.out
            have HPK : Hid (Calls Tryz.prog 15 #[.int .i64 cut, .int .i64 (E.str t).size] w13 _) := mkH (pick_any cut (E.str t).size (by omega) (by omega) w13)
            have htb : (E.str t).size ≤ 1000000 := by omega
            clear hb13 HS2 hts
            go_wp2_with fail
            refine HPK.out.mono ?_
            rintro e w14 ⟨k, hk, rfl, rfl⟩
            have hkl : (k : Int) ≤ ((E.str t).size : Int) := by omega
            have HTK : Hid (k < t.length) := mkH (by rw [← str_size]; exact hk)
            have hxt : (E.str t).extract 0 k = E.str (t.take k) := by rw [E.extract_head]; simp [E.str]
            have HPL := mkH (parse_any (t.take k) w14 (by rw [List.length_take]; omega) (HNC.out.below HB13.out) (HET.out.below HB13.out))
            rw [HPC.out k HTK.out] at HPL
            go_wp2_with fail
            refine HPL.out.mono ?_
            rintro e w15 ⟨rfl, hb15⟩
            have hbf := ups HB13.out hb15
            go_wp2
            go_ret
            exact ⟨rfl, hbf⟩
end Go.Proofs.YtodemklghajdeaaGreatDoor
