/- The law's walk. -/
import Derived.Test.YtonlcnhncbeeiaaGreatDoorS4
import Derived.Deep.RegionHeld3
namespace Go.Proofs.YtonlcnhncbeeiaaGreatDoor
open Go.RowKit Go.Proofs Go.Lib Go.Joins Go.Maps

set_option maxHeartbeats 4000000 in
set_option maxRecDepth 100000 in
theorem commutes_law (la : Option Addr) (ln lc : Nat) (l : List Com) (ta : ByteArray) (ra : Bool) (aa : Option Addr) (an ac : Nat) (A : List Actn) (tb : ByteArray) (rb : Bool) (ba : Option Addr) (bn bc : Nat) (B : List Actn) (w : World)
    (hl : LogR w (.slice la ln lc) l) (hln : l.length ≤ maxLen) (ha : ActsR w (.slice aa an ac) A) (han : A.length ≤ maxLen) (hta : ta.size ≤ maxLen) (hb : ActsR w (.slice ba bn bc) B) (hbn : B.length ≤ maxLen) (htb : tb.size ≤ maxLen) (hw : NcB w) (ht : TabB w) :
    Calls Tryz.prog 4 #[.slice la ln lc, .agg #[.string ta, .bool ra, .slice aa an ac], .agg #[.string tb, .bool rb, .slice ba bn bc]] w fun e w' => e = .returned (.bool true) ∧ Below w.heap.size w w' := by
  have hlen := hl.len
  subst hlen
  unfold maxLen at hln
  obtain ⟨z0, z1, z2, z3⟩ := two_alloc w (.cells #[.string ta, .bool ra, .slice aa an ac] 24) (.cells #[.string tb, .bool rb, .slice ba bn bc] 24)
  have Z0 := mkH z0
  have Z1 := mkH z1
  have Z2 := mkH z2
  have Z3 := mkH z3
  have HSA : Hid (∀ W, Below w.heap.size w W → Calls Tryz.prog 6 #[.agg #[.string ta, .bool ra, .slice aa an ac]] W fun e w' => e = .returned (.bool (shortB (ta, ra, A))) ∧ Below W.heap.size W w') := mkH (fun W hW => short_any ta ra A aa an ac W (ha.below hW) han hta)
  have HSB : Hid (∀ W, Below w.heap.size w W → Calls Tryz.prog 6 #[.agg #[.string tb, .bool rb, .slice ba bn bc]] W fun e w' => e = .returned (.bool (shortB (tb, rb, B))) ∧ Below W.heap.size W w') := mkH (fun W hW => short_any tb rb B ba bn bc W (hb.below hW) hbn htb)
  have HLG : Hid (∀ W, Below w.heap.size w W → Calls Tryz.prog 7 #[] W fun e w' => e = .returned (.bool true) ∧ Below W.heap.size W w') := mkH (fun W hW => logged_any W (hw.below hW) (ht.below hW))
  have HA := mkH ha
  have HB := mkH hb
  have HL := mkH hl
  have HNC := mkH hw
  have HTA := mkH hta
  have HTB := mkH htb
  clear z0 z1 z2 z3 ha hb hl hw ht hta htb han hbn
  by_cases h10 : 10 < l.length
  · have h10z : (10 : Int) < (l.length : Int) := by omega
    go_enter Tryz.func4, Tryz.ntmps4
    go_wp2
    go_ret
    exact ⟨rfl, Z3.out⟩
  have h10z : ¬ (10 : Int) < (l.length : Int) := by omega
  cases hsa : shortB (ta, ra, A) with
  | false =>
    rw [hsa] at HSA
    have HSA' := mkH (HSA.out _ Z3.out)
    obtain ⟨p0, p1, p2, _⟩ := cells3 Z1.out
    go_enter Tryz.func4, Tryz.ntmps4
    go_wp2_with (first
      | (go_at_call 6; refine HSA'.out.mono ?_; rintro e w1 ⟨rfl, hb1⟩))
    go_ret
    exact ⟨rfl, Below.ups Z3.out hb1⟩
  | true =>
  rw [hsa] at HSA
  have HPA := mkH (short_parts hsa)
  cases hsb : shortB (tb, rb, B) with
  | false =>
    rw [hsb] at HSB
    have HSA' := mkH (HSA.out _ Z3.out)
    obtain ⟨p0, p1, p2, _⟩ := cells3 Z1.out
    go_enter Tryz.func4, Tryz.ntmps4
    go_wp2_with (first
      | (go_at_call_of 6 (#[.agg #[.string ta, .bool ra, .slice aa an ac]] : Array Value); refine HSA'.out.mono ?_; rintro e w1 ⟨rfl, hb1⟩; have HB1 := mkH (Below.ups Z3.out hb1); obtain ⟨r0, r1, r2, _⟩ := cells3 ((hb1.block (w.heap.size + 1) (by rw [Z0.out]; omega)).trans Z2.out))
      | (go_at_call_of 6 (#[.agg #[.string tb, .bool rb, .slice ba bn bc]] : Array Value); refine (HSB.out _ HB1.out).mono ?_; rintro e w2 ⟨rfl, hb2⟩))
    go_ret
    exact ⟨rfl, Below.ups HB1.out hb2⟩
  | true =>
  rw [hsb] at HSB
  have HPB := mkH (short_parts hsb)
  have HSA' := mkH (HSA.out _ Z3.out)
  obtain ⟨p0, p1, p2, _⟩ := cells3 Z1.out
  go_enter Tryz.func4, Tryz.ntmps4
  go_wp2_with (first
    | (go_at_call_of 6 (#[.agg #[.string ta, .bool ra, .slice aa an ac]] : Array Value); refine HSA'.out.mono ?_; rintro e w1 ⟨rfl, hb1⟩; have HB1 := mkH (Below.ups Z3.out hb1); have X1 := mkH ((hb1.block w.heap.size (by rw [Z0.out]; omega)).trans Z1.out); have X2 := mkH ((hb1.block (w.heap.size + 1) (by rw [Z0.out]; omega)).trans Z2.out); have XS := mkH (show w.heap.size + 2 ≤ w1.heap.size by rw [← Z0.out]; exact hb1.size); clear hb1; obtain ⟨r0, r1, r2, _⟩ := cells3 X2.out)
    | (go_at_call_of 6 (#[.agg #[.string tb, .bool rb, .slice ba bn bc]] : Array Value); refine (HSB.out _ HB1.out).mono ?_; rintro e w2 ⟨rfl, hb2⟩; have HB2 := mkH hb2; clear hb2)
    | (go_at_call 7; refine (HLG.out _ (Below.ups HB1.out HB2.out)).mono ?_; rintro e w5 ⟨rfl, hb5⟩; have HB5 := mkH (Below.ups HB2.out hb5); clear hb5))
  have HBW : Hid (Below w.heap.size w w5) := mkH (Below.ups HB1.out HB5.out)
  have Y1 := mkH ((HB5.out.block w.heap.size (by have := XS.out; omega)).trans X1.out)
  have Y2 := mkH ((HB5.out.block (w.heap.size + 1) (by have := XS.out; omega)).trans X2.out)
  have YS : Hid (w.heap.size + 2 ≤ w5.heap.size) := mkH (by have := XS.out; have := HB5.out.size; omega)
  have HBX := mkH (heap_alloc_new w5 (.cells #[.int .i64 0, .slice none 0 0, .int .i64 0, .slice none 0 0] 41))
  have HBA : Hid (Below w5.heap.size w5 (w5.alloc (.cells #[.int .i64 0, .slice none 0 0, .int .i64 0, .slice none 0 0] 41))) := mkH ((Below.refl _ _).alloc (Nat.le_refl _) _)
  clear HB1 HB2 HB5 X1 X2 XS Z0 Z1 Z2 Z3 HSA HSB HSA' HLG p0 p1 p2 r0 r1 r2
  go_loopw [8] (fun vi wr => ∃ k : Nat, k ≤ l.length ∧ vi = .int .i64 k ∧ ∃ (s : Snap) (x0 : Int) (a1 : Option Addr) (n1 c1 : Nat) (x2 : Int) (a2 : Option Addr) (n2 c2 : Nat), Hid (SnapW wr s (.agg #[.int .i64 x0, .slice a1 n1 c1, .int .i64 x2, .slice a2 n2 c2])) ∧ Hid (wr.heap[w5.heap.size]? = some (.cells #[.int .i64 x0, .slice a1 n1 c1, .int .i64 x2, .slice a2 n2 c2] 41 (0, 0))) ∧ Hid (Good colB fitB s ∧ Named s ∧ 0 ≤ s.ver ∧ s.ver ≤ k) ∧ Hid (Below w5.heap.size w5 wr)) (fun vi _ => l.length - (intOf vi).toNat)
  case atStart => exact ⟨0, Nat.zero_le _, rfl, zeroS, _, _, _, _, _, _, _, _, mkH (snapW_zero _), HBX, mkH ⟨good_zero, by simp [Named, zeroS], Int.le_refl _, Int.le_refl _⟩, HBA⟩
  case round =>
    clear HBX HBA
    obtain ⟨k, hk, rfl, s, x0, a1, n1, c1, x2, a2, n2, c2, HSN, HBX, HGD, HBI⟩ := hrel
    obtain ⟨s0, s1, s2, s3, sf⟩ := cells4 HBX.out
    by_cases hlt : k < l.length
    · have hltz : (k : Int) < (l.length : Int) := by omega
      have HBR : Hid (Below w.heap.size w wr) := mkH (Below.ups HBW.out HBI.out)
      rcases HL.out.below HBR.out with ⟨_, e0⟩ | ⟨g, o, c, eg, hcap, hgl, hact⟩
      · rw [e0] at hlt; simp at hlt
      · injection eg with eg1 _ eg2
        subst eg1 eg2
        obtain ⟨fa, fn, fc, q0, q1, q2, hR, hR1, hR2⟩ := hact k hlt
        obtain ⟨⟨tx, rd, acts⟩, hx⟩ : ∃ x, l[k]! = x := ⟨_, rfl⟩
        rw [hx] at q0 q1 hR hR1 hR2
        simp only at q0 q1 hR hR1 hR2
        have HR := mkH hR
        have HR1 := mkH hR1
        have HR2 := mkH hR2
        have HSK := mkH (short_any tx rd acts fa fn fc wr hR hR1 hR2)
        have HGL := mkH hgl
        clear hact hx hR hR1 hR2 HPA HPB HA HB HTA HTB hsa hsb
        cases hsk : shortB (tx, rd, acts) with
        | false =>
          rw [hsk] at HSK
          go_wp2_with (first
            | (go_at_call 6; refine HSK.out.mono ?_; rintro e w6 ⟨rfl, hb6⟩))
          go_ret
          exact ⟨rfl, Below.ups HBR.out hb6⟩
        | true =>
          rw [hsk] at HSK
          have HPK := mkH (short_parts hsk)
          clear hsk
          go_wp2_with (first
            | (go_at_call 6; refine HSK.out.mono ?_; rintro e w6 ⟨rfl, hb6⟩))
          have HB6 := mkH hb6
          have HSI : Hid (w5.heap.size < wr.heap.size) := mkH (blk_lt HBX.out)
          have HS6 : Hid (∀ W, Below w6.heap.size w6 W → W.cell? ⟨w5.heap.size, 0, none⟩ = some (.int .i64 x0) ∧ W.cell? ⟨w5.heap.size, 1, none⟩ = some (.slice a1 n1 c1) ∧ W.cell? ⟨w5.heap.size, 2, none⟩ = some (.int .i64 x2) ∧ W.cell? ⟨w5.heap.size, 3, none⟩ = some (.slice a2 n2 c2) ∧ W.cell? ⟨g, o + k * 3, none⟩ = some (.string tx) ∧ W.cell? ⟨g, o + k * 3 + 1, none⟩ = some (.bool rd) ∧ W.cell? ⟨g, o + k * 3 + 2, none⟩ = some (.slice fa fn fc)) := mkH (fun W hW => by
            have hu := Below.ups HB6.out hW
            exact ⟨(hu.cell (p := ⟨w5.heap.size, 0, none⟩) HSI.out).trans s0, (hu.cell (p := ⟨w5.heap.size, 1, none⟩) HSI.out).trans s1, (hu.cell (p := ⟨w5.heap.size, 2, none⟩) HSI.out).trans s2, (hu.cell (p := ⟨w5.heap.size, 3, none⟩) HSI.out).trans s3, (hu.cell (p := ⟨g, o + k * 3, none⟩) HGL.out).trans q0, (hu.cell (p := ⟨g, o + k * 3 + 1, none⟩) HGL.out).trans q1, (hu.cell (p := ⟨g, o + k * 3 + 2, none⟩) HGL.out).trans q2⟩)
          have HAK : Hid (∀ W, Below w6.heap.size w6 W → Calls Tryz.prog 13 #[.agg #[.int .i64 x0, .slice a1 n1 c1, .int .i64 x2, .slice a2 n2 c2], .agg #[.string tx, .bool rd, .slice fa fn fc]] W fun e w' => ∃ x0 a1 n1 c1 x2 a2 n2 c2 er, e = .returned (.tuple #[.agg #[.int .i64 x0, .slice a1 n1 c1, .int .i64 x2, .slice a2 n2 c2], er]) ∧ Below W.heap.size W w' ∧ ApOut s (tx, rd, acts) x0 a1 n1 c1 x2 a2 n2 c2 er w') := mkH (fun W hW => by
            have hu := Below.ups HB6.out hW
            exact apply_out s _ tx rd acts fa fn fc W (HSN.out.up hu) HGD.out.1 HGD.out.2.2.1 (by have := HGD.out.2.2.2; omega) ((HR.out.below hu).short HPK.out.2.2) (Nat.le_trans HPK.out.2.1 (by decide)) HR2.out ((HNC.out.below HBR.out).below hu))
          have HBL : Hid (Below w6.heap.size w6 w6.drew) := mkH (Below.refl _ _).drew
          have HBZ : Hid (Below w6.heap.size w6 (w6.alloc (.cells #[.int .i64 0, .slice none 0 0, .int .i64 0, .slice none 0 0] 41)).drew) := mkH ((Below.refl _ _).alloc (Nat.le_refl _) _).drew
          have HZX : Hid ((w6.alloc (.cells #[.int .i64 0, .slice none 0 0, .int .i64 0, .slice none 0 0] 41)).drew.heap[w6.heap.size]? = some (.cells #[.int .i64 0, .slice none 0 0, .int .i64 0, .slice none 0 0] 41)) := mkH (heap_alloc_new w6 _)
          clear hb6 s0 s1 s2 s3 sf q0 q1 q2 hgl hcap HSK
          go_region_held3 (fun W => W.cell? ⟨w5.heap.size, 0, none⟩ = some (.int .i64 x0) ∧ W.cell? ⟨w5.heap.size, 1, none⟩ = some (.slice a1 n1 c1) ∧ W.cell? ⟨w5.heap.size, 2, none⟩ = some (.int .i64 x2) ∧ W.cell? ⟨w5.heap.size, 3, none⟩ = some (.slice a2 n2 c2) ∧ W.cell? ⟨g, o + k * 3, none⟩ = some (.string tx) ∧ W.cell? ⟨g, o + k * 3 + 1, none⟩ = some (.bool rd) ∧ W.cell? ⟨g, o + k * 3 + 2, none⟩ = some (.slice fa fn fc))
            (first
              | exact HS6.out _ HBL.out
              | exact HS6.out _ (HBL.out.alloc HBL.out.size _)
              | exact HS6.out _ HBZ.out
              | exact HS6.out _ ((((HBL.out.setCell (p := ⟨w6.heap.size, 0, none⟩) (Nat.le_refl _) _).setCell (p := ⟨w6.heap.size, 1, none⟩) (Nat.le_refl _) _).setCell (p := ⟨w6.heap.size, 2, none⟩) (Nat.le_refl _) _).setCell (p := ⟨w6.heap.size, 3, none⟩) (Nat.le_refl _) _)
              | (go_keep; done)
              | fail)
            (first
              | (go_at_call 13; refine (HAK.out _ HBZ.out).mono ?_; rintro e w7 ⟨y0, b1, m1, d1, y2, b2, m2, d2, er, rfl, hb7, hao⟩; replace HBL := mkH (Below.ups HBZ.out hb7); have HAO := mkH hao; have HZ9 := mkH ((hb7.block w6.heap.size (blk_lt HZX.out)).trans HZX.out); obtain ⟨_, _, _, _, zf⟩ := cells4 HZ9.out; have zf0 := zf 0; have zf1 := zf 1; have zf2 := zf 2; have zf3 := zf 3; clear hb7 hao zf)
              | (go_at_call 13; refine (HAK.out _ HBL.out).mono ?_; rintro e w7 ⟨y0, b1, m1, d1, y2, b2, m2, d2, er, rfl, hb7, hao⟩; replace HBL := mkH (Below.ups HBL.out hb7); have HAO := mkH hao; clear hb7 hao)
              | fail)
          · skip
            have HX7 := mkH ((HBL.out.block w5.heap.size (by have := HB6.out.size; have := HSI.out; omega)).trans ((HB6.out.block w5.heap.size HSI.out).trans HBX.out))
            have ne6 : w5.heap.size ≠ w6.heap.size := by have := HB6.out.size; have := HSI.out; omega
            have HM : Hid (Below w6.heap.size w6 (w7.alloc (.cells #[.int .i64 y0, .slice b1 m1 d1, .int .i64 y2, .slice b2 m2 d2] 41))) := mkH (HBL.out.alloc HBL.out.size _)
            have HMR : Hid (Below wr.heap.size wr (w7.alloc (.cells #[.int .i64 y0, .slice b1 m1 d1, .int .i64 y2, .slice b2 m2 d2] 41))) := mkH (Below.ups HB6.out HM.out)
            have HSM : Hid (∀ t, SnapW w7 t (.agg #[.int .i64 y0, .slice b1 m1 d1, .int .i64 y2, .slice b2 m2 d2]) → SnapW (w7.alloc (.cells #[.int .i64 y0, .slice b1 m1 d1, .int .i64 y2, .slice b2 m2 d2] 41)) t (.agg #[.int .i64 y0, .slice b1 m1 d1, .int .i64 y2, .slice b2 m2 d2])) := mkH (fun t h => h.up ((Below.refl _ _).alloc (Nat.le_refl _) _))
            obtain ⟨_, _, _, _, gf⟩ := cells4 ((HM.out.block w5.heap.size (by have := HB6.out.size; have := HSI.out; omega)).trans ((HB6.out.block w5.heap.size HSI.out).trans HBX.out))
            have gf0 := gf 0
            have gf1 := gf 1
            have gf2 := gf 2
            have gf3 := gf 3
            have ne7 : w5.heap.size ≠ w7.heap.size := by have := blk_lt HX7.out; omega
            clear gf
            have HM5 := mkH (HBI.out.trans (HMR.out.mono (by have := HSI.out; omega)))
            have HXM := mkH ((HM.out.block w5.heap.size (by have := HB6.out.size; have := HSI.out; omega)).trans ((HB6.out.block w5.heap.size HSI.out).trans HBX.out))
            clear HB6 HBL HX7 HS6 HAK
            obtain ⟨rfl, t, hap, hsn⟩ | ⟨ty, xx, rfl, hno⟩ := HAO.out
            · have HNX := mkH (next_good hap HGD.out)
              have HRO := mkH (round_ok HM5.out HXM.out (HSM.out t hsn))
              clear hsn hap HAO
              go_wp2_with fail
              go_roundw
              case rel => exact ⟨k + 1, by omega, by go_num, t, _, _, _, _, _, _, _, _, mkH HRO.out.1, mkH HRO.out.2.1, HNX, mkH HRO.out.2.2⟩
              case measure => simp [intOf]; omega
            · have HSS := mkH (HSN.out.up HMR.out)
              clear HAO hno
              go_wp2_with fail
              go_roundw
              case rel => exact ⟨k + 1, by omega, by go_num, s, _, _, _, _, _, _, _, _, HSS, HXM, mkH ⟨HGD.out.1, HGD.out.2.1, HGD.out.2.2.1, by have := HGD.out.2.2.2; omega⟩, HM5⟩
              case measure => simp [intOf]; omega
          · skip
            have HX7 := mkH ((HBL.out.block w5.heap.size (by have := HB6.out.size; have := HSI.out; omega)).trans ((HB6.out.block w5.heap.size HSI.out).trans HBX.out))
            have ne6 : w5.heap.size ≠ w6.heap.size := by have := HB6.out.size; have := HSI.out; omega
            have HM : Hid (Below w6.heap.size w6 (set4 w7 w6.heap.size (.int .i64 y0) (.slice b1 m1 d1) (.int .i64 y2) (.slice b2 m2 d2))) := mkH (below_set4 HBL.out (Nat.le_refl _) _ _ _ _)
            have HMR : Hid (Below wr.heap.size wr (set4 w7 w6.heap.size (.int .i64 y0) (.slice b1 m1 d1) (.int .i64 y2) (.slice b2 m2 d2))) := mkH (Below.ups HB6.out HM.out)
            have HSM : Hid (∀ t, SnapW w7 t (.agg #[.int .i64 y0, .slice b1 m1 d1, .int .i64 y2, .slice b2 m2 d2]) → SnapW (set4 w7 w6.heap.size (.int .i64 y0) (.slice b1 m1 d1) (.int .i64 y2) (.slice b2 m2 d2)) t (.agg #[.int .i64 y0, .slice b1 m1 d1, .int .i64 y2, .slice b2 m2 d2])) := mkH (fun t h => h.put HZ9.out (put4 w7 w6.heap.size _ _ _ _ _ _ _ _ _ HZ9.out).2)
            obtain ⟨_, _, _, _, gf⟩ := cells4 HX7.out
            have gf0 := gf 0
            have gf1 := gf 1
            have gf2 := gf 2
            have gf3 := gf 3
            clear gf HZ9
            have HM5 := mkH (HBI.out.trans (HMR.out.mono (by have := HSI.out; omega)))
            have HXM := mkH ((HM.out.block w5.heap.size (by have := HB6.out.size; have := HSI.out; omega)).trans ((HB6.out.block w5.heap.size HSI.out).trans HBX.out))
            clear HB6 HBL HX7 HS6 HAK
            obtain ⟨rfl, t, hap, hsn⟩ | ⟨ty, xx, rfl, hno⟩ := HAO.out
            · have HNX := mkH (next_good hap HGD.out)
              have HRO := mkH (round_ok HM5.out HXM.out (HSM.out t hsn))
              clear hsn hap HAO
              go_wp2_with fail
              go_roundw
              case rel => exact ⟨k + 1, by omega, by go_num, t, _, _, _, _, _, _, _, _, mkH HRO.out.1, mkH HRO.out.2.1, HNX, mkH HRO.out.2.2⟩
              case measure => simp [intOf]; omega
            · have HSS := mkH (HSN.out.up HMR.out)
              clear HAO hno
              go_wp2_with fail
              go_roundw
              case rel => exact ⟨k + 1, by omega, by go_num, s, _, _, _, _, _, _, _, _, HSS, HXM, mkH ⟨HGD.out.1, HGD.out.2.1, HGD.out.2.2.1, by have := HGD.out.2.2.2; omega⟩, HM5⟩
              case measure => simp [intOf]; omega
    · have hltz : ¬ (k : Int) < (l.length : Int) := by omega
      have HBR : Hid (Below w.heap.size w wr) := mkH (Below.ups HBW.out HBI.out)
      have HSI : Hid (w5.heap.size < wr.heap.size) := mkH (blk_lt HBX.out)
      have V1 := mkH ((HBI.out.block w.heap.size (by have := YS.out; omega)).trans Y1.out)
      have V2 := mkH ((HBI.out.block (w.heap.size + 1) (by have := YS.out; omega)).trans Y2.out)
      have HSIW : Hid (w.heap.size + 1 < wr.heap.size ∧ w5.heap.size < wr.heap.size) := mkH (by have := HSI.out; have := YS.out; omega)
      have HAT : Hid (∀ W, Below w.heap.size w W → ActsAt W (.slice aa an ac) A ∧ ActsAt W (.slice ba bn bc) B ∧ NcB W) := mkH (fun W hW => ⟨(HA.out.below hW).short HPA.out.2.2, (HB.out.below hW).short HPB.out.2.2, HNC.out.below hW⟩)
      have HLA : Hid (A.length ≤ 12 ∧ B.length ≤ 12) := mkH ⟨HPA.out.2.1, HPB.out.2.1⟩
      have HAP : Hid (∀ (s : Snap) (v : Value) (W : World), SnapW W s v → Below w.heap.size w W → Good colB fitB s ∧ 0 ≤ s.ver ∧ s.ver ≤ 1000 → Calls Tryz.prog 13 #[v, .agg #[.string ta, .bool ra, .slice aa an ac]] W fun e w' => ∃ x0 a1 n1 c1 x2 a2 n2 c2 er, e = .returned (.tuple #[.agg #[.int .i64 x0, .slice a1 n1 c1, .int .i64 x2, .slice a2 n2 c2], er]) ∧ Below W.heap.size W w' ∧ ApOut s (ta, ra, A) x0 a1 n1 c1 x2 a2 n2 c2 er w') := mkH (fun s v W hs hW hg => apply_out s v ta ra A aa an ac W hs hg.1 hg.2.1 hg.2.2 (HAT.out W hW).1 (Nat.le_trans HLA.out.1 (by decide)) HTA.out (HAT.out W hW).2.2)
      have HBP : Hid (∀ (s : Snap) (v : Value) (W : World), SnapW W s v → Below w.heap.size w W → Good colB fitB s ∧ 0 ≤ s.ver ∧ s.ver ≤ 1000 → Calls Tryz.prog 13 #[v, .agg #[.string tb, .bool rb, .slice ba bn bc]] W fun e w' => ∃ x0 a1 n1 c1 x2 a2 n2 c2 er, e = .returned (.tuple #[.agg #[.int .i64 x0, .slice a1 n1 c1, .int .i64 x2, .slice a2 n2 c2], er]) ∧ Below W.heap.size W w' ∧ ApOut s (tb, rb, B) x0 a1 n1 c1 x2 a2 n2 c2 er w') := mkH (fun s v W hs hW hg => apply_out s v tb rb B ba bn bc W hs hg.1 hg.2.1 hg.2.2 (HAT.out W hW).2.1 (Nat.le_trans HLA.out.2 (by decide)) HTB.out (HAT.out W hW).2.2)
      have HGS : Hid (Good colB fitB s ∧ Named s ∧ 0 ≤ s.ver ∧ s.ver ≤ 10) := mkH ⟨HGD.out.1, HGD.out.2.1, HGD.out.2.2.1, by have := HGD.out.2.2.2; omega⟩
      obtain ⟨p0, p1, p2, _⟩ := cells3 V1.out
      clear HA HB HL HNC HTA HTB HPA HPB HGD HBI Y1 Y2 YS HBW sf hk hlt HSI hsa hsb
      go_wp2_with fail
      refine (HAP.out s _ wr HSN.out HBR.out ⟨HGS.out.1, HGS.out.2.2.1, by have := HGS.out.2.2.2; omega⟩).mono ?_
      rintro e w7 ⟨y0, b1, m1, d1, y2, b2, m2, d2, er1, rfl, hb7, hao⟩
      have HAO := mkH hao
      have HB8 : Hid (Below wr.heap.size wr (w7.alloc (.cells #[.int .i64 y0, .slice b1 m1 d1, .int .i64 y2, .slice b2 m2 d2] 41))) := mkH (hb7.alloc hb7.size _)
      have HX8 := mkH (heap_alloc_new w7 (.cells #[.int .i64 y0, .slice b1 m1 d1, .int .i64 y2, .slice b2 m2 d2] 41))
      have HZ8 : Hid (wr.heap.size ≤ w7.heap.size) := mkH hb7.size
      have HU8 : Hid (Below w7.heap.size w7 (w7.alloc (.cells #[.int .i64 y0, .slice b1 m1 d1, .int .i64 y2, .slice b2 m2 d2] 41))) := mkH ((Below.refl _ _).alloc (Nat.le_refl _) _)
      clear hb7 hao s0 s1 s2 s3 p0 p1 p2
      obtain ⟨s0, s1, s2, s3, _⟩ := cells4 ((HB8.out.block w5.heap.size HSIW.out.2).trans HBX.out)
      obtain ⟨r0, r1, r2, _⟩ := cells3 ((HB8.out.block (w.heap.size + 1) HSIW.out.1).trans V2.out)
      go_wp2_with fail
      generalize w7.alloc (.cells #[.int .i64 y0, .slice b1 m1 d1, .int .i64 y2, .slice b2 m2 d2] 41) = w8 at *
      refine (HBP.out s _ w8 (HSN.out.up HB8.out) (Below.ups HBR.out HB8.out) ⟨HGS.out.1, HGS.out.2.2.1, by have := HGS.out.2.2.2; omega⟩).mono ?_
      rintro e w9 ⟨z0, e1, i1, f1, z2, e2, i2, f2, er2, rfl, hb9, hbo⟩
      have HBO := mkH hbo
      have HBA : Hid (Below w8.heap.size w8 (w9.alloc (.cells #[.int .i64 z0, .slice e1 i1 f1, .int .i64 z2, .slice e2 i2 f2] 41))) := mkH (hb9.alloc hb9.size _)
      have HXA := mkH (heap_alloc_new w9 (.cells #[.int .i64 z0, .slice e1 i1 f1, .int .i64 z2, .slice e2 i2 f2] 41))
      have HZA : Hid (w8.heap.size ≤ w9.heap.size ∧ w7.heap.size < w8.heap.size) := mkH ⟨hb9.size, blk_lt HX8.out⟩
      have HUA : Hid (Below w9.heap.size w9 (w9.alloc (.cells #[.int .i64 z0, .slice e1 i1 f1, .int .i64 z2, .slice e2 i2 f2] 41))) := mkH ((Below.refl _ _).alloc (Nat.le_refl _) _)
      have HAW : Hid (Below w.heap.size w (w9.alloc (.cells #[.int .i64 z0, .slice e1 i1 f1, .int .i64 z2, .slice e2 i2 f2] 41))) := mkH (Below.ups (Below.ups HBR.out HB8.out) HBA.out)
      have HAR : Hid (Below wr.heap.size wr (w9.alloc (.cells #[.int .i64 z0, .slice e1 i1 f1, .int .i64 z2, .slice e2 i2 f2] 41))) := mkH (Below.ups HB8.out HBA.out)
      have HX8' := mkH ((HBA.out.block w7.heap.size HZA.out.2).trans HX8.out)
      have G1 := mkH ((HAR.out.block w.heap.size (by have := HSIW.out; omega)).trans V1.out)
      have G2 := mkH ((HAR.out.block (w.heap.size + 1) HSIW.out.1).trans V2.out)
      clear hb9 hbo s0 s1 s2 s3 r0 r1 r2
      obtain ⟨rfl, x, hax, hsx⟩ | ⟨ty1, xx1, rfl, _⟩ := HAO.out
      case inr =>
        go_wp2
        go_ret
        exact ⟨rfl, HAW.out⟩
      obtain ⟨rfl, y, hby, hsy⟩ | ⟨ty1, xx1, rfl, _⟩ := HBO.out
      case inr =>
        go_wp2
        go_ret
        exact ⟨rfl, HAW.out⟩
      have HX := mkH hax
      have HY := mkH hby
      have HSX := mkH (((hsx.up HU8.out).up HBA.out))
      have HSY := mkH (hsy.up HUA.out)
      clear hax hby hsx hsy HAO HBO
      obtain ⟨p0, p1, p2, _⟩ := cells3 G1.out
      obtain ⟨r0, r1, r2, _⟩ := cells3 G2.out
      go_wp2_with fail
      clear p0 p1 p2 r0 r1 r2
      generalize w9.alloc (.cells #[.int .i64 z0, .slice e1 i1 f1, .int .i64 z2, .slice e2 i2 f2] 41) = wa at *
      have HF1 : Hid (∀ W, Below w.heap.size w W → Calls Tryz.prog 14 #[.agg #[.string ta, .bool ra, .slice aa an ac], .agg #[.string tb, .bool rb, .slice ba bn bc]] W fun e w' => e = .returned (.bool (fightsB (ta, ra, A) (tb, rb, B))) ∧ Below W.heap.size W w') := mkH (fun W hW => fights_any ta ra aa an ac A tb rb ba bn bc B W (HAT.out W hW).1 (HAT.out W hW).2.1 (Nat.le_trans HLA.out.1 (by decide)) (Nat.le_trans HLA.out.2 (by decide)))
      have HF2 : Hid (∀ W, Below w.heap.size w W → Calls Tryz.prog 14 #[.agg #[.string tb, .bool rb, .slice ba bn bc], .agg #[.string ta, .bool ra, .slice aa an ac]] W fun e w' => e = .returned (.bool (fightsB (tb, rb, B) (ta, ra, A))) ∧ Below W.heap.size W w') := mkH (fun W hW => fights_any tb rb ba bn bc B ta ra aa an ac A W (HAT.out W hW).2.1 (HAT.out W hW).1 (Nat.le_trans HLA.out.2 (by decide)) (Nat.le_trans HLA.out.1 (by decide)))
      have HGX : Hid (Good colB fitB x ∧ Named x ∧ 0 ≤ x.ver ∧ x.ver ≤ 11) := mkH (next_good (k := 10) HX.out HGS.out)
      have HGY : Hid (Good colB fitB y ∧ Named y ∧ 0 ≤ y.ver ∧ y.ver ≤ 11) := mkH (next_good (k := 10) HY.out HGS.out)
      have hm2 := HSX.out.len
      have hi2 := HSY.out.len
      have fm2 : m2 ≤ 40 := by rw [hm2]; exact HGX.out.1.few
      have fi2 : i2 ≤ 40 := by rw [hi2]; exact HGY.out.1.few
      have HM2 := mkH hm2
      have HI2 := mkH hi2
      have HKE : Hid (∀ W, Below wa.heap.size wa W → (W.heap[w.heap.size]? = some (.cells #[.string ta, .bool ra, .slice aa an ac] 24 (0, 0)) ∧ W.heap[w.heap.size + 1]? = some (.cells #[.string tb, .bool rb, .slice ba bn bc] 24 (0, 0)) ∧ W.heap[w7.heap.size]? = some (.cells #[.int .i64 y0, .slice b1 m1 d1, .int .i64 y2, .slice b2 m2 d2] 41 (0, 0)) ∧ W.heap[w9.heap.size]? = some (.cells #[.int .i64 z0, .slice e1 i1 f1, .int .i64 z2, .slice e2 i2 f2] 41 (0, 0)))) := mkH (fun W hW => ⟨(hW.block _ (blk_lt G1.out)).trans G1.out, (hW.block _ (blk_lt G2.out)).trans G2.out, (hW.block _ (blk_lt HX8'.out)).trans HX8'.out, (hW.block _ (blk_lt HXA.out)).trans HXA.out⟩)
      have HSZ : Hid (w.heap.size + 1 < w7.heap.size ∧ w7.heap.size < w9.heap.size) := mkH (by have := HZA.out; have := HZ8.out; have := HSIW.out; omega)
      clear hm2 hi2 HU8 HUA HB8 HX8 HBA HAR V1 V2 HBX HSN HBR HSIW HZ8 HZA G1 G2 HX8' HXA
      cases hf1 : fightsB (ta, ra, A) (tb, rb, B) with
      | true =>
        rw [hf1] at HF1
        refine (HF1.out _ HAW.out).mono ?_
        rintro e wb ⟨rfl, hbb⟩
        go_wp2
        go_ret
        exact ⟨rfl, Below.ups HAW.out hbb⟩
      | false =>
      rw [hf1] at HF1
      refine (HF1.out _ HAW.out).mono ?_
      rintro e wb ⟨rfl, hbb⟩
      have HWB := mkH (Below.ups HAW.out hbb)
      have HBB := mkH hbb
      clear hbb
      obtain ⟨p0, p1, p2, _⟩ := cells3 (HKE.out wb HBB.out).1
      obtain ⟨r0, r1, r2, _⟩ := cells3 (HKE.out wb HBB.out).2.1
      go_wp2_with fail
      clear p0 p1 p2 r0 r1 r2
      cases hf2 : fightsB (tb, rb, B) (ta, ra, A) with
      | true =>
        rw [hf2] at HF2
        refine (HF2.out _ HWB.out).mono ?_
        rintro e wc ⟨rfl, hbc⟩
        go_wp2
        go_ret
        exact ⟨rfl, Below.ups HWB.out hbc⟩
      | false =>
      rw [hf2] at HF2
      refine (HF2.out _ HWB.out).mono ?_
      rintro e wc ⟨rfl, hbc⟩
      have HWC := mkH (Below.ups HBB.out hbc)
      have HWD := mkH (Below.ups HWB.out hbc)
      clear hbc
      obtain ⟨x0', x1', x2', x3', _⟩ := cells4 (HKE.out wc HWC.out).2.2.1
      obtain ⟨y0', y1', y2', y3', _⟩ := cells4 (HKE.out wc HWC.out).2.2.2
      obtain ⟨u0', u1', u2', _⟩ := cells3 (HKE.out wc HWC.out).2.1
      by_cases h40 : (40 : Int) < (m2 : Int) + (i2 : Int)
      · go_wp2
        go_ret
        exact ⟨rfl, HWD.out⟩
      obtain ⟨x', y', hx', hy', hal⟩ := commutes HGS.out.1 HX.out HY.out (changesB_no (fightsB_no hf2).1) (changesB_no (fightsB_no hf1).1) (fun c hc d hd e => (fightsB_no hf1).2 d hd c hc e) HLA.out.1 HLA.out.2 (by rw [← HM2.out, ← HI2.out]; omega)
      have HX1 : Hid (AppliesL x (tb, rb, B) x') := mkH hx'
      have HY1 : Hid (AppliesL y (ta, ra, A) y') := mkH hy'
      have HAL := mkH hal
      clear hx' hy' hal hf1 hf2
      go_wp2_with fail
      refine (HBP.out x _ wc (HSX.out.up HWC.out) HWD.out ⟨HGX.out.1, HGX.out.2.2.1, by have := HGX.out.2.2.2; omega⟩).mono ?_
      rintro e wd ⟨y0x, b1x, m1x, d1x, y2x, b2x, m2x, d2x, er3, rfl, hbd, hao⟩
      obtain ⟨rfl, t3, ht3, hs3⟩ | ⟨_, _, _, hno⟩ := hao
      case inr => exact absurd HX1.out (hno _)
      cases applies_one ht3 HX1.out
      have HKD := mkH (HKE.out wd (Below.ups HWC.out hbd))
      have HS3 := mkH hs3
      have HWE : Hid (Below w.heap.size w wd) := mkH (Below.ups HWD.out hbd)
      have HYD := mkH ((HSY.out.up HWC.out).up hbd)
      clear hs3 ht3 hbd x0' x1' x2' x3' y0' y1' y2' y3' u0' u1' u2' HKE
      have HP1 := mkH (put4 wd w7.heap.size _ _ _ _ (.int .i64 y0x) (.slice b1x m1x d1x) (.int .i64 y2x) (.slice b2x m2x d2x) _ HKD.out.2.2.1)
      have hne : w9.heap.size ≠ w7.heap.size := by have := HSZ.out; omega
      have HK1 : Hid ((set4 wd w7.heap.size (.int .i64 y0x) (.slice b1x m1x d1x) (.int .i64 y2x) (.slice b2x m2x d2x)).heap[w.heap.size]? = some (.cells #[.string ta, .bool ra, .slice aa an ac] 24 (0, 0))) := mkH ((HP1.out.2.block w.heap.size (blk_lt HKD.out.1) (fun e => by have := HSZ.out; injection e with e; omega)).trans HKD.out.1)
      have HK2 := mkH ((HP1.out.2.block w9.heap.size (blk_lt HKD.out.2.2.2) (fun e => by have := HSZ.out; injection e with e; omega)).trans HKD.out.2.2.2)
      have HWF : Hid (Below w.heap.size w (set4 wd w7.heap.size (.int .i64 y0x) (.slice b1x m1x d1x) (.int .i64 y2x) (.slice b2x m2x d2x))) := mkH (below_set4 HWE.out (by have := HSZ.out; omega) _ _ _ _)
      have HYF := mkH (HYD.out.put HKD.out.2.2.1 HP1.out.2)
      have HXF := mkH (HS3.out.put HKD.out.2.2.1 HP1.out.2)
      obtain ⟨_, _, _, _, gf⟩ := cells4 HKD.out.2.2.1
      have gf0 := gf 0
      have gf1 := gf 1
      have gf2 := gf 2
      have gf3 := gf 3
      obtain ⟨y0', y1', y2', y3', _⟩ := cells4 HK2.out
      obtain ⟨u0', u1', u2', _⟩ := cells3 HK1.out
      clear gf HKD HWE HYD HS3
      go_wp2_with fail
      refine (HAP.out y _ _ HYF.out HWF.out ⟨HGY.out.1, HGY.out.2.2.1, by have := HGY.out.2.2.2; omega⟩).mono ?_
      rintro e we ⟨z0x, e1x, i1x, f1x, z2x, e2x, i2x, f2x, er4, rfl, hbe, hbo⟩
      obtain ⟨rfl, t4, ht4, hs4⟩ | ⟨_, _, _, hno⟩ := hbo
      case inr => exact absurd HY1.out (hno _)
      cases applies_one ht4 HY1.out
      have HE1 := mkH ((hbe.block w7.heap.size (blk_lt HP1.out.1)).trans HP1.out.1)
      have HE2 := mkH ((hbe.block w9.heap.size (blk_lt HK2.out)).trans HK2.out)
      have HP2 := mkH (put4 we w9.heap.size _ _ _ _ (.int .i64 z0x) (.slice e1x i1x f1x) (.int .i64 z2x) (.slice e2x i2x f2x) _ HE2.out)
      have HE3 : Hid ((set4 we w9.heap.size (.int .i64 z0x) (.slice e1x i1x f1x) (.int .i64 z2x) (.slice e2x i2x f2x)).heap[w7.heap.size]? = some (.cells #[.int .i64 y0x, .slice b1x m1x d1x, .int .i64 y2x, .slice b2x m2x d2x] 41 (0, 0))) := mkH ((HP2.out.2.block w7.heap.size (blk_lt HE1.out) (fun e => by have := HSZ.out; injection e with e; omega)).trans HE1.out)
      have HWG : Hid (Below w.heap.size w (set4 we w9.heap.size (.int .i64 z0x) (.slice e1x i1x f1x) (.int .i64 z2x) (.slice e2x i2x f2x))) := mkH (below_set4 (Below.ups HWF.out hbe) (by have := HSZ.out; omega) _ _ _ _)
      have HYG := mkH (hs4.put HE2.out HP2.out.2)
      have HXG := mkH ((HXF.out.up hbe).put HE2.out HP2.out.2)
      obtain ⟨_, _, _, _, gg⟩ := cells4 HE2.out
      have gg0 := gg 0
      have gg1 := gg 1
      have gg2 := gg 2
      have gg3 := gg 3
      have hnx := (next_good (k := 11) HX1.out HGX.out)
      have hny := (next_good (k := 11) HY1.out HGY.out)
      have HSM := mkH (sameSet_yes x' y' _ _ _ HXG.out HYG.out hnx.1 hny.1 hnx.2.1 hny.2.1 HAL.out)
      obtain ⟨x0', x1', x2', x3', _⟩ := cells4 HE3.out
      obtain ⟨v0', v1', v2', v3', _⟩ := cells4 HP2.out.1
      clear gg hnx hny ht4 hs4 hbe gf0 gf1 gf2 gf3 y0' y1' y2' y3' u0' u1' u2' HE1 HE2 HXF HYF HWF HK1 HK2 HP1 HX1 HY1
      go_wp2_with (first
        | (go_at_call 15; refine HSM.out.mono ?_; rintro e wf ⟨rfl, hbf⟩))
      go_ret
      exact ⟨rfl, Below.ups HWG.out hbf⟩
end Go.Proofs.YtonlcnhncbeeiaaGreatDoor
