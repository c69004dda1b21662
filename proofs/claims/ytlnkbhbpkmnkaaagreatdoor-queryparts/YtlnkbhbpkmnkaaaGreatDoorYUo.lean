/- QueryParts' law, said of every call. -/
import Derived.Test.YtlnkbhbpkmnkaaaGreatDoorYUn
import Derived.Test.YtlnkbhbpkmnkaaaGreatDoorYUd
import Derived.Test.YtlnkbhbpkmnkaaaGreatDoorFX0
import Derived.Deep.DeepCutAuto
import Derived.Deep.CutBlock
namespace Go.Proofs.YtlnkbhbpkmnkaaaGreatDoor
open Go.RowKit Go.Proofs Go.Lib Go.Joins Go.Proofs.YtlnkbhbpkmnkaaaGreatDoor.Ask
open Go.Sort (grow)

set_option maxHeartbeats 8000000 in
set_option maxRecDepth 100000 in
theorem parts_law (lv rv : Value) (l : List F.Col) (rows : List (List F.V)) (a0 b0 : Int) (w : World) (hl : F.SlE 7 C.encC w lv l) (hr : F.SlR w rv rows)
    (hms : ∀ c ∈ l, c.2.1.size ≤ maxLen ∧ c.2.2.2.2.2.2.size ≤ maxLen) (hrs : ∀ r ∈ rows, ∀ x ∈ r, F.Ok64 x ∧ x.2.2.size ≤ maxLen)
    (hm : MkB w) (hg : GB w) (hw : 10 ≤ w.heap.size) (hn : C.NcB w) (he : C.EtB w) :
    Calls Tryz.prog 3 #[lv, rv, .int .i64 a0, .int .i64 b0] w fun e w' => e = .returned (.bool true) ∧ Below w.heap.size w w' := by
  have HCO := mkH (F.columns_any lv l w hl hms)
  have HRO := mkH (fun W (hb : Below w.heap.size w W) => F.keepRows_any rv rows W (hr.up hb) (fun r h x hx => (hrs r h x hx).2))
  have HAN := mkH (fun W (hb : Below w.heap.size w W) => answered_any W (hm.below hb) (hg.below hb) (Nat.le_trans hw hb.size))
  have HRR := mkH (fun W (hb : Below w.heap.size w W) (h1 : l.length ≤ 1000) (h2 : rows.length ≤ 100000) => F.rightRows_any lv rv l rows W (hl.up hb) (hr.up hb) h1 h2 hms (fun r h x hx => (hrs r h x hx).2) (fun r h x hx => (hrs r h x hx).1) (hn.below hb) (he.below hb))
  have HKE := mkH (fun W (hb : Below w.heap.size w W) (h0 : 0 < l.length) (h1 : l.length ≤ 1000) => F.kept_any lv l W (hl.up hb) h0 h1)
  have HL := mkH hl
  have HR := mkH hr
  have HG := mkH (And.intro hm (And.intro hg hw))
  obtain ⟨la, lc, rfl, _⟩ := hl.slice
  obtain ⟨ra, rc, rfl, _⟩ := hr.slice
  unfold F.TellPost at HCO HRO
  clear hl hr hms hrs hm hg hw hn he
  go_enter Tryz.func3, Tryz.ntmps3
  go_wp2_with fail
  with_reducible refine HCO.out.mono ?_
  rintro e w1 ⟨b1, rfl, hp1, hb1⟩
  have HB1 := mkH hb1
  have HP1 := mkH hp1
  clear hb1 hp1 HCO
  cases b1 with
  | false =>
    go_wp2_with fail
    go_ret
    exact ⟨rfl, HB1.out⟩
  | true =>
  have h20 := (HP1.out rfl).1
  have HFT := mkH (HP1.out rfl).2
  clear HP1
  go_wp2_with fail
  with_reducible refine (HRO.out _ HB1.out).mono ?_
  rintro e w2 ⟨b2, rfl, hp2, hb2⟩
  have HB2 := mkH (F.ups HB1.out hb2)
  have HP2 := mkH hp2
  clear hb2 hp2 HRO
  cases b2 with
  | false =>
    go_wp2_with fail
    go_ret
    exact ⟨rfl, HB2.out⟩
  | true =>
  have h70 := (HP2.out rfl).1
  clear HP2
  go_wp2_with fail
  with_reducible refine (HAN.out _ HB2.out).mono ?_
  rintro e w3 ⟨rfl, hb3⟩
  have HB3 := mkH (F.ups HB2.out hb3)
  clear hb3 HB2 HAN HB1
  go_wp2_with fail
  with_reducible refine (HRR.out _ HB3.out (by omega) (by omega)).mono ?_
  rintro e w4 ⟨rfl, hb4⟩
  have HB4 := mkH (F.ups HB3.out hb4)
  clear hb4 HB3 HRR
  cases hmk : F.makeOk l rows with
  | false =>
    go_wp2_with fail
    go_ret
    exact ⟨rfl, HB4.out⟩
  | true =>
  have HMK := mkH (made_right hmk)
  have HMC := mkH (fun kc (hk : kc < l.length) => made_col hmk (kc := kc) hk)
  have h0 : 0 < l.length := HMK.out.1.1
  have h60 : rows.length ≤ 60 := HMK.out.2.2.1
  clear hmk
  go_wp2_with fail
  with_reducible refine (HKE.out _ HB4.out h0 (by omega)).mono ?_
  rintro e w5 ⟨rfl, hb5⟩
  have HB5 := mkH (F.ups HB4.out hb5)
  clear hb5 HB4 HKE
  cases hke : l.any F.keptC with
  | true =>
    go_wp2_with fail
    go_ret
    exact ⟨rfl, HB5.out⟩
  | false =>
  have HKP := mkH (fun c (hc : c ∈ l) => (show F.keptC c = false by simpa using List.any_eq_false.1 hke c hc))
  clear hke
  obtain ⟨ka, hka, HPA⟩ := pickA_fix a0 l.length h0 (by omega)
  obtain ⟨kc, hkc, HPC⟩ := pickA_fix b0 l.length h0 (by omega)
  replace HPA := mkH HPA
  replace HPC := mkH HPC
  obtain ⟨⟨a1, a2, a3, a4, a5, a6, a7⟩, hA⟩ : ∃ c, l[ka]? = some c := ⟨_, List.getElem?_eq_getElem hka⟩
  obtain ⟨⟨c1, c2, c3, c4, c5, c6, c7⟩, hC⟩ : ∃ c, l[kc]? = some c := ⟨_, List.getElem?_eq_getElem hkc⟩
  obtain ⟨lb, lo, lc', el, _, hlb, hlcell⟩ := (HL.out.up HB5.out).cons (by omega)
  injection el with el1 _ el2
  subst el1 el2
  obtain ⟨q0, q1, q2, q3, q4, q5, q6⟩ := F.cells7 hlcell hA
  obtain ⟨s0, s1, s2, s3, s4, s5, s6⟩ := F.cells7 hlcell hC
  have HAC := mkH (And.intro hA hC)
  clear hlcell hA hC
  have hkai : (ka : Int) < (l.length : Int) := by omega
  have hkci : (kc : Int) < (l.length : Int) := by omega
  go_wp2_with fail
  go_cut [9, 10] from 43 to 56 (fun s9 s10 wx => ∃ pa pc : Nat, s9 = .pointer (some ⟨pa, 0, none⟩) ∧ s10 = .pointer (some ⟨pc, 0, none⟩) ∧ Hid (wx.heap[pa]? = some (.cells #[.int .i64 a1, .string a2, .int .i64 a3, .bool a4, .int .i64 a5, .int .i64 a6, .string a7] 31)) ∧ Hid (wx.heap[pc]? = some (.cells #[.int .i64 c1, .string c2, .int .i64 c3, .bool c4, .int .i64 c5, .int .i64 c6, .string c7] 31)) ∧ Hid (Below w5.heap.size w5 wx))
  case first =>
    go_region_held3 (fun W => W.cell? ⟨lb, lo + ka * 7, none⟩ = some (.int .i64 a1) ∧ W.cell? ⟨lb, lo + ka * 7 + 1, none⟩ = some (.string a2) ∧ W.cell? ⟨lb, lo + ka * 7 + 2, none⟩ = some (.int .i64 a3) ∧ W.cell? ⟨lb, lo + ka * 7 + 3, none⟩ = some (.bool a4) ∧ W.cell? ⟨lb, lo + ka * 7 + 4, none⟩ = some (.int .i64 a5) ∧ W.cell? ⟨lb, lo + ka * 7 + 5, none⟩ = some (.int .i64 a6) ∧ W.cell? ⟨lb, lo + ka * 7 + 6, none⟩ = some (.string a7) ∧ W.cell? ⟨lb, lo + kc * 7, none⟩ = some (.int .i64 c1) ∧ W.cell? ⟨lb, lo + kc * 7 + 1, none⟩ = some (.string c2) ∧ W.cell? ⟨lb, lo + kc * 7 + 2, none⟩ = some (.int .i64 c3) ∧ W.cell? ⟨lb, lo + kc * 7 + 3, none⟩ = some (.bool c4) ∧ W.cell? ⟨lb, lo + kc * 7 + 4, none⟩ = some (.int .i64 c5) ∧ W.cell? ⟨lb, lo + kc * 7 + 5, none⟩ = some (.int .i64 c6) ∧ W.cell? ⟨lb, lo + kc * 7 + 6, none⟩ = some (.string c7))
      (first
        | (go_keep; done)
        | fail)
      (first
        | (go_at_call 10
           with_reducible refine (HPA.out _).mono ?_
           rintro e w6 ⟨rfl, rfl⟩)
        | (go_at_call 10
           with_reducible refine (HPC.out _).mono ?_
           rintro e w7 ⟨rfl, rfl⟩)
        | fail)
    all_goals
      go_wp2_with fail
      go_meet
      first
        | exact ⟨_, _, rfl, rfl, mkH (blk_al blk_new _), mkH blk_new1, mkH (by repeat (first | with_reducible exact Below.refl _ _ | with_reducible refine Below.drew ?_ | with_reducible refine bel_alloc ?_ _))⟩
        | exact ⟨_, _, rfl, rfl, mkH blk_new1, mkH (blk_al blk_new _), mkH (by repeat (first | with_reducible exact Below.refl _ _ | with_reducible refine Below.drew ?_ | with_reducible refine bel_alloc ?_ _))⟩
  case rest =>
  obtain ⟨pa, pc, rfl, rfl, HPA1, HPC1, HBC⟩ := hcut
  have x1 : wc.cell? ⟨pa, 1, none⟩ = some (.string a2) := cell_of_block HPA1.out 1
  have y1 : wc.cell? ⟨pc, 1, none⟩ = some (.string c2) := cell_of_block HPC1.out 1
  have y2 : wc.cell? ⟨pc, 2, none⟩ = some (.int .i64 c3) := cell_of_block HPC1.out 2
  have HBW := mkH (F.ups HB5.out HBC.out)
  have HKA := mkH (HKP.out _ (List.mem_of_getElem? HAC.out.1))
  have HKC := mkH (HKP.out _ (List.mem_of_getElem? HAC.out.2))
  have hfa : a2.size ≤ 60 := (HFT.out _ (List.mem_of_getElem? HAC.out.1)).1
  have hfc : c2.size ≤ 60 := (HFT.out _ (List.mem_of_getElem? HAC.out.2)).1
  obtain ⟨num, hnum⟩ : ∃ num : Bool, c3 = 1 ∧ num = true ∨ c3 = 2 ∧ num = false := by
    rcases (show c3 = 1 ∨ c3 = 2 from (HMK.out.1.2.2.1 _ (List.mem_of_getElem? HAC.out.2)).1.1) with h | h
    · exact ⟨true, .inl ⟨h, rfl⟩⟩
    · exact ⟨false, .inr ⟨h, rfl⟩⟩
  have HRP := mkH (fun (s : ByteArray) (hs : s = bA (qX (qParts a2.data.toList c2.data.toList num))) V (hV : Below w.heap.size w V) => runsP_any _ _ l F.next40 rows _ _ ka kc num s V HMK.out.1 HAC.out.1 HAC.out.2 HKA.out HKC.out (fun h => by rcases hnum with ⟨h1, _⟩ | ⟨_, h2⟩; { show c3 ≠ 2; omega }; { rw [h2] at h; cases h }) hs hfa hfc (HG.out.1.below hV) (HG.out.2.1.below hV) (Nat.le_trans HG.out.2.2 hV.size) (HL.out.up hV) (HR.out.up hV) (by omega))
  have HRW := mkH (fun (s : ByteArray) (hs : s = bA (qX (qWhole c2.data.toList num))) V (hV : Below w.heap.size w V) => runsW_any _ _ l F.next40 rows _ kc num s V HMK.out.1 HAC.out.2 HKC.out (fun h => by rcases hnum with ⟨h1, _⟩ | ⟨_, h2⟩; { show c3 ≠ 2; omega }; { rw [h2] at h; cases h }) hs hfc (HG.out.1.below hV) (HG.out.2.1.below hV) (Nat.le_trans HG.out.2.2 hV.size) (HL.out.up hV) (HR.out.up hV) HMK.out.2.1 (by omega))
  have HTP := mkH (text_parts a2 c2 num)
  have HTW := mkH (text_whole c2 num)
  unfold fnsS at HTP HTW
  obtain ⟨sm, hsm⟩ : ∃ sm : ByteArray, sm = (if num then (⟨#[115, 117, 109, 40]⟩ : ByteArray) ++ c2 ++ (⟨#[41]⟩ : ByteArray) else (⟨#[99, 111, 117, 110, 116, 40, 42, 41]⟩ : ByteArray)) := ⟨_, rfl⟩
  rw [← hsm] at HTP HTW
  have hfs : sm.size ≤ 100 := by
    rw [hsm]
    split <;> simp only [ByteArray.size_append, sz_mk, List.size_toArray, List.length_cons, List.length_nil] <;> omega
  have HSM := mkH hsm
  have HNUM := mkH hnum
  clear hsm hnum HKA HKC HB5 HKP HFT HPA1 HPC1 HBC q0 q1 q2 q3 q4 q5 q6 s0 s1 s2 s3 s4 s5 s6 HPA HPC
  go_upto_if 59 with fail
  go_cut [11] from 57 to 63 (fun s11 wx => s11 = .string sm ∧ wx = wc)
  case first =>
    rcases HNUM.out with ⟨rfl, rfl⟩ | ⟨rfl, rfl⟩
    · go_wp2_with fail
      go_meet
      exact ⟨by rw [HSM.out]; rfl, rfl⟩
    · go_wp2_with fail
      go_meet
      exact ⟨by rw [HSM.out]; rfl, rfl⟩
  case rest =>
  obtain ⟨rfl, rfl⟩ := hcut
  clear y2 HNUM HSM
  go_wp2_with fail
  with_reducible refine (HRP.out _ ?_ _ HBW.out).mono ?_
  · exact HTP.out
  rintro e w8 ⟨px, py, rfl, hps, hb8⟩
  have HB8 := mkH (F.ups HBW.out hb8)
  have HPS := mkH hps
  clear hb8 hps HRP HTP x1 y1
  go_wp2_with fail
  with_reducible refine (HRW.out _ ?_ w8 HB8.out).mono ?_
  · exact HTW.out
  rintro e w9 ⟨wx, wy, rfl, hws, hb9⟩
  have HB9 := mkH (F.ups HB8.out hb9)
  have HPS9 := mkH (HPS.out.up hb9)
  have HWS := mkH hws
  clear hb9 hws HRW HTW HB8 HPS HBW
  go_wp2_with fail
  obtain ⟨iV, hiV, hzV, hz1V, hz2V⟩ := info_parts E.info32
  have HIV := mkH (And.intro hiV (And.intro hzV (And.intro hz1V hz2V)))
  have HPP := mkH (partP_all (num := num) ka HMK.out.2.1 (by omega) (HMC.out kc hkc))
  have hP60 : (partsP ka rows).length ≤ 60 := by
    have := parts_le _ (partsP_ne ka rows)
    rw [partsP_len] at this
    omega
  clear hiV hzV hz1V hz2V
  go_loopw [17, 18, 19, 20, 21, 22] (fun vn vm vt vl vh vi wr => ∃ (k : Nat) (x : Option Addr) (c : Nat) (y : Option Addr) (d : Nat), k ≤ (partsP ka rows).length ∧ vi = .int .i64 k ∧ vn = .int .i64 (sumP (fun g => (g.length : Int)) (partsP ka rows) k) ∧ vm = .int .i64 (sumP (fun g => F.somes (colP kc g)) (partsP ka rows) k) ∧ vt = .int .i64 (sumP (totF kc num) (partsP ka rows) k) ∧ vl = .slice x k c ∧ vh = .slice y k d ∧ Hid (wr.ownsRow w9.heap.size 29 3 (.slice x k c) k (E.flatV (((partsP ka rows).take k).map fun g => F.comesV .min (colP kc g)))) ∧ Hid (wr.ownsRow w9.heap.size 29 3 (.slice y k d) k (E.flatV (((partsP ka rows).take k).map fun g => F.comesV .max (colP kc g)))) ∧ Hid (Ap (.slice x k c) (.slice y k d)) ∧ Hid (Below w9.heap.size w9 wr)) (fun _ _ _ _ _ vi _ => (partsP ka rows).length - (intOf vi).toNat)
  case atStart => exact ⟨0, none, 0, none, 0, Nat.zero_le _, rfl, by rw [sumP_zero], by rw [sumP_zero], by rw [sumP_zero], rfl, rfl, mkH (World.ownsRow_nil _ _ _ _), mkH (World.ownsRow_nil _ _ _ _), mkH (fun b h => by cases h), mkH (Below.refl _ _)⟩
  case round =>
    obtain ⟨k, x, c, y, d, hk, rfl, rfl, rfl, rfl, rfl, rfl, HLO, HHO, HAP, HB⟩ := hrel
    by_cases hlt : k < (partsP ka rows).length
    · obtain ⟨g, hg⟩ : ∃ g, (partsP ka rows)[k]? = some g := ⟨_, List.getElem?_eq_getElem hlt⟩
      have HGP := mkH (HPP.out.2 g (List.mem_of_getElem? hg))
      have hR : ((partsP ka rows).map (rowP ka kc num))[k]? = some (rowP ka kc num g) := by rw [List.getElem?_map, hg]; rfl
      obtain ⟨b1, o1, d1, rv1, e1, hb1, p1, s1⟩ := HPS9.out.at hR
      injection e1 with e11 e12 e13
      subst e11 e13
      clear e12
      obtain ⟨b2, o2, d2, rfl, hb2, ⟨f0, f1, f2⟩, g1, g2, ⟨l0, l1, l2⟩, ⟨m0, m1, m2⟩, t0⟩ := rowP_at s1 HGP.out
      obtain ⟨e0, e1', e2, hat⟩ : ∃ a b c, F.atV (g.headD []) ka = (a, b, c) := ⟨_, _, _, rfl⟩
      rw [hat] at f0 f1 f2
      simp only at f0 f1 f2
      have HAT := mkH hat
      clear hat
      have HC := mkH (fun W (hW : Below w9.heap.size w9 W) => And.intro (F.cell_up hW l0) (And.intro (F.cell_up hW l1) (And.intro (F.cell_up hW l2) (And.intro (F.cell_up hW m0) (And.intro (F.cell_up hW m1) (F.cell_up hW m2))))))
      have HCF := mkH (fun W (hW : Below w9.heap.size w9 W) => And.intro (F.cell_up hW f0) (And.intro (F.cell_up hW f1) (And.intro (F.cell_up hW f2) (And.intro (F.cell_up hW g1) (F.cell_up hW g2)))))
      replace p1 := F.cell_up HB.out p1
      replace f0 := F.cell_up HB.out f0
      replace f1 := F.cell_up HB.out f1
      replace f2 := F.cell_up HB.out f2
      replace g1 := F.cell_up HB.out g1
      replace g2 := F.cell_up HB.out g2
      replace l0 := F.cell_up HB.out l0
      replace l1 := F.cell_up HB.out l1
      replace l2 := F.cell_up HB.out l2
      replace m0 := F.cell_up HB.out m0
      replace m1 := F.cell_up HB.out m1
      replace m2 := F.cell_up HB.out m2
      replace t0 := F.cell_up HB.out t0
      have hkn : (k : Int) < ((partsP ka rows).length : Int) := by omega
      have HG1 := mkH hg
      clear hR s1 hg
      go_wp2_with fail
      go_region_held3 (fun W => W.cell? ⟨b2, o2 + 4, none⟩ = some (.int .i64 g.length) ∧ W.cell? ⟨b2, o2 + 7, none⟩ = some (.int .i64 (F.somes (colP kc g))) ∧ W.cell? ⟨b2, o2 + 16, none⟩ = some (.int .i64 (IntKind.i64.wrap (totF kc num g))))
        (first
          | (go_keep; done)
          | fail)
        (fail)
      go_wp2_with fail
      obtain ⟨wb, hwb⟩ : ∃ wb, wr.drew = wb := ⟨_, rfl⟩
      have HBb : Hid (Below w9.heap.size w9 wb) := by rw [← hwb]; exact mkH HB.out.drew
      have HLOb : Hid (wb.ownsRow w9.heap.size 29 3 (.slice x k c) k (E.flatV (((partsP ka rows).take k).map fun g => F.comesV .min (colP kc g)))) := by rw [← hwb]; exact mkH HLO.out
      have HHOb : Hid (wb.ownsRow w9.heap.size 29 3 (.slice y k d) k (E.flatV (((partsP ka rows).take k).map fun g => F.comesV .max (colP kc g)))) := by rw [← hwb]; exact mkH HHO.out
      rw [hwb]
      obtain ⟨n0, n1, n2, hmn⟩ : ∃ a b c, F.comesV .min (colP kc g) = (a, b, c) := ⟨_, _, _, rfl⟩
      obtain ⟨m0', m1', m2', hmx⟩ : ∃ a b c, F.comesV .max (colP kc g) = (a, b, c) := ⟨_, _, _, rfl⟩
      rw [hmn, hmx] at HC
      simp only at HC
      have HMN := mkH hmn
      have HMX := mkH hmx
      clear hwb HB HLO HHO p1 f0 f1 f2 g1 g2 l0 l1 l2 m0 m1 m2 t0 hmn hmx
      obtain ⟨l0, l1, l2, m0, m1, m2⟩ := HC.out wb HBb.out
      have hbs := HBb.out.size
      have hk9 : k ≤ 1000 := by omega
      have hne0 : Hid (∀ q, wb.heap.size ≤ q → some q ≠ Value.ownBlock (.slice x k c)) := mkH (fun q hq e => by have := own_lt HLOb.out e.symm; omega)
      have hneH : Hid (∀ q, wb.heap.size ≤ q → some q ≠ Value.ownBlock (.slice y k d)) := mkH (fun q hq e => by have := own_lt HHOb.out e.symm; omega)
      go_cut [20, 21] from 119 to 152 (fun s20 s21 wx => ∃ (x' c' y' d' : Nat), s20 = .slice (some ⟨x', 0, none⟩) (k + 1) c' ∧ s21 = .slice (some ⟨y', 0, none⟩) (k + 1) d' ∧ Hid (wx.ownsRow w9.heap.size 29 3 (.slice (some ⟨x', 0, none⟩) (k + 1) c') (k + 1) (E.flatV (((partsP ka rows).take k).map fun g => F.comesV .min (colP kc g)) ++ [.int .i64 n0, .int .i64 n1, .string n2])) ∧ Hid (wx.ownsRow w9.heap.size 29 3 (.slice (some ⟨y', 0, none⟩) (k + 1) d') (k + 1) (E.flatV (((partsP ka rows).take k).map fun g => F.comesV .max (colP kc g)) ++ [.int .i64 m0', .int .i64 m1', .string m2'])) ∧ Hid (Ap (.slice (some ⟨x', 0, none⟩) (k + 1) c') (.slice (some ⟨y', 0, none⟩) (k + 1) d')) ∧ Hid (Below w9.heap.size w9 wx))
      case first =>
        go_region_held3 (fun W => W.cell? ⟨b2, o2 + 9, none⟩ = some (.int .i64 n0) ∧ W.cell? ⟨b2, o2 + 9 + 1, none⟩ = some (.int .i64 n1) ∧ W.cell? ⟨b2, o2 + 9 + 2, none⟩ = some (.string n2) ∧ W.cell? ⟨b2, o2 + 12, none⟩ = some (.int .i64 m0') ∧ W.cell? ⟨b2, o2 + 12 + 1, none⟩ = some (.int .i64 m1') ∧ W.cell? ⟨b2, o2 + 12 + 2, none⟩ = some (.string m2'))
          (first
            | (go_keep; done)
            | fail)
          (first
            | (refine step_apV2 (by rfl) (.tmp 141) (.tmp 145) (by rfl) w9.heap.size k k w9 _ _ _ _ wb.heap.size n0 n1 n2 wb.heap.size _ blk_new blk_new (HLOb.out.alloc _) (HHOb.out.alloc _) HAP.out (by repeat (first | with_reducible exact HBb.out | with_reducible refine Below.drew ?_ | with_reducible refine Below.alloc ?_ (by (try simp only [World.size_alloc]); omega) _)) (hne0.out _ (Nat.le_refl _)) (by rfl) (by rfl) hk9 (by simp; omega) ?_
               intro g3 e3 w3 HA3 HH3 HAP3 HB3 HBK3 HS3
               obtain ⟨za0, za1, za2, za3, za4, za5⟩ := HC.out w3 HB3.out)
            | (refine step_apV2 (by rfl) (.tmp 141) (.tmp 145) (by rfl) w9.heap.size k k w9 _ _ _ _ wb.heap.size n0 n1 n2 (wb.heap.size + 1) _ (blk_al blk_new _) blk_new1 ((HLOb.out.alloc _).alloc _) ((HHOb.out.alloc _).alloc _) HAP.out (by repeat (first | with_reducible exact HBb.out | with_reducible refine Below.drew ?_ | with_reducible refine Below.alloc ?_ (by (try simp only [World.size_alloc]); omega) _)) (hne0.out _ (Nat.le_succ _)) (by rfl) (by rfl) hk9 (by simp; omega) ?_
               intro g3 e3 w3 HA3 HH3 HAP3 HB3 HBK3 HS3
               obtain ⟨za0, za1, za2, za3, za4, za5⟩ := HC.out w3 HB3.out)
            | (refine step_apV2 (by rfl) (.tmp 141) (.tmp 145) (by rfl) w9.heap.size k k w9 _ _ _ _ (wb.heap.size + 1) n0 n1 n2 wb.heap.size _ blk_new1 (blk_al blk_new _) ((HLOb.out.alloc _).alloc _) ((HHOb.out.alloc _).alloc _) HAP.out (by repeat (first | with_reducible exact HBb.out | with_reducible refine Below.drew ?_ | with_reducible refine Below.alloc ?_ (by (try simp only [World.size_alloc]); omega) _)) (hne0.out _ (Nat.le_refl _)) (by rfl) (by rfl) hk9 (by simp; omega) ?_
               intro g3 e3 w3 HA3 HH3 HAP3 HB3 HBK3 HS3
               obtain ⟨za0, za1, za2, za3, za4, za5⟩ := HC.out w3 HB3.out)
            | (refine step_apV2 (by rfl) (.tmp 147) (.tmp 151) (by rfl) w9.heap.size k (k + 1) w9 _ _ _ _ w3.heap.size m0' m1' m2' w3.heap.size _ blk_new blk_new (HH3.out.alloc _) (HA3.out.alloc _) HAP3.out.symm (by repeat (first | with_reducible exact HB3.out | with_reducible refine Below.drew ?_ | with_reducible refine Below.alloc ?_ (by have := HS3.out; omega) _)) (fun e => by have := own_lt HH3.out e.symm; omega) (by rfl) (by rfl) hk9 (by have := HS3.out; simp; omega) ?_
               intro g4 e4 w4 HH4 HA4 HAP4 HB4 HBK4 HS4
               obtain ⟨zb0, zb1, zb2, zb3, zb4, zb5⟩ := HC.out w4 HB4.out)
            | (refine step_apV2 (by rfl) (.tmp 147) (.tmp 151) (by rfl) w9.heap.size k (k + 1) w9 _ _ _ _ _ m0' m1' m2' _ _ HBK3.out HBK3.out HH3.out HA3.out HAP3.out.symm HB3.out ?hne (by rfl) (by rfl) hk9 HS3.out ?_
               case hne => exact hneH.out _ (by omega)
               intro g4 e4 w4 HH4 HA4 HAP4 HB4 HBK4 HS4
               obtain ⟨zb0, zb1, zb2, zb3, zb4, zb5⟩ := HC.out w4 HB4.out)
            | fail)
        all_goals
          go_wp2_with fail
          go_meet
          exact ⟨_, _, _, _, rfl, rfl, HA4, HH4, (mkH HAP4.out.symm), HB4⟩
      case rest =>
        obtain ⟨x', c', y', d', rfl, rfl, HLO', HHO', HAP', HB'⟩ := hcut
        have hlen1 : decide ((g.length : Int) < 1) = false := decide_eq_false (by have := HGP.out.one; omega)
        have hlen0 : ¬ g.length = 0 := by have := HGP.out.one; omega
        have hlen2 : decide (g.length < 1) = false := decide_eq_false (by omega)
        have hsm : decide ((g.length : Int) < F.somes (colP kc g)) = false := decide_eq_false (by have := HGP.out.hi; omega)
        have HTL : Hid (E.flatV (((partsP ka rows).take (k + 1)).map fun g => F.comesV .min (colP kc g)) = E.flatV (((partsP ka rows).take k).map fun g => F.comesV .min (colP kc g)) ++ [.int .i64 n0, .int .i64 n1, .string n2]) := by
          rw [S.take_one_more HG1.out, List.map_append, E.flatV_app, List.map_cons, HMN.out]; exact mkH rfl
        have HTH : Hid (E.flatV (((partsP ka rows).take (k + 1)).map fun g => F.comesV .max (colP kc g)) = E.flatV (((partsP ka rows).take k).map fun g => F.comesV .max (colP kc g)) ++ [.int .i64 m0', .int .i64 m1', .string m2']) := by
          rw [S.take_one_more HG1.out, List.map_append, E.flatV_app, List.map_cons, HMX.out]; exact mkH rfl
        rw [← HTL.out] at HLO'
        rw [← HTH.out] at HHO'
        clear HLOb HHOb HAP HMN HMX HC hne0 hneH HTL HTH l0 l1 l2 m0 m1 m2
        have HFIN : Hid (∀ W, Below w9.heap.size wc W → Below w9.heap.size w9 W) := mkH (fun W hW => HB'.out.trans hW)
        have hcs := HB'.out.size
        have HOW1 := mkH (fun W (hW : Below wc.heap.size wc W) => E.ownsRow_up HLO'.out hW)
        have HOW2 := mkH (fun W (hW : Below wc.heap.size wc W) => E.ownsRow_up HHO'.out hW)
        obtain ⟨f0, f1, f2, g1, g2⟩ := HCF.out wc HB'.out
        replace f0 := cell_regrown f0; replace f1 := cell_regrown f1; replace f2 := cell_regrown f2; replace g1 := cell_regrown g1; replace g2 := cell_regrown g2
        rcases Nat.eq_zero_or_pos k with hk0 | hk0
        · have hk1 : decide (0 < k) = false := decide_eq_false (by omega)
          clear hk0
          go_wp2_with fail
          refine wp_region_quiet_below (by kernel_rfl) (by kernel_rfl) ?_
          repeat (go_big_quiet_step (fail))
          refine wpQuiet_nil ?_
          intro _ hw'
          obtain ⟨⟨dq, osq⟩, hw''⟩ := hw'
          subst hw''
          have HBQ := below_regrown wc dq osq
          go_wp2_with fail
          refine ⟨⟨k + 1, _, _, _, _, hlt, by go_num, by rw [sumP_next _ HG1.out], by rw [sumP_next _ HG1.out], by rw [sumP_next' _ HG1.out], rfl, rfl, mkH (HOW1.out _ HBQ), mkH (HOW2.out _ HBQ), HAP', mkH (HFIN.out _ (HBQ.mono hcs))⟩, by simp [intOf]; omega⟩
        · obtain ⟨j, hj⟩ : ∃ j, k = j + 1 := ⟨k - 1, by omega⟩
          have hk1 : decide (0 < k) = true := decide_eq_true (by omega)
          have hjl : j < (partsP ka rows).length := by omega
          have hjn : (j : Int) < ((partsP ka rows).length : Int) := by omega
          obtain ⟨gq, hgq⟩ : ∃ g, (partsP ka rows)[j]? = some g := ⟨_, List.getElem?_eq_getElem hjl⟩
          have hup := rowP_up ka rows j gq g hgq (by rw [← hj]; exact HG1.out)
          have HQP := mkH (HPP.out.2 gq (List.mem_of_getElem? hgq))
          have hRj : ((partsP ka rows).map (rowP ka kc num))[j]? = some (rowP ka kc num gq) := by rw [List.getElem?_map, hgq]; rfl
          obtain ⟨b1', o1', d1', rvq, eq1, hb1q, p1q, s1q⟩ := HPS9.out.at hRj
          injection eq1 with eq11 eq12 eq13
          injection eq11 with eq11
          injection eq11 with eqa eqb _
          subst eqa eqb eq13
          clear eq12
          obtain ⟨b3, o3, d3, rfl, hb3, ⟨q0, q1, q2⟩, _⟩ := rowP_at s1q HQP.out
          obtain ⟨a0', a1', a2', haq⟩ : ∃ a b c, F.atV (gq.headD []) ka = (a, b, c) := ⟨_, _, _, rfl⟩
          rw [haq] at q0 q1 q2
          simp only at q0 q1 q2
          rw [haq, HAT.out] at hup
          replace p1q := cell_regrown ((HB'.out.cell (p := ⟨b1, o1 + j, none⟩) hb1q).trans p1q)
          have hwj : IntKind.i64.wrap ((k : Int) - 1) = (j : Int) := by rw [IntKind.wrap_i64]; omega
          obtain ⟨cv, hcv⟩ : ∃ cv, S.cmpW (a0', a1', a2') (e0, e1', e2) = cv := ⟨_, rfl⟩
          rw [hcv] at hup
          have hge : decide ((0 : Int) ≤ cv) = false := decide_eq_false (by omega)
          have HCM : Hid (∀ d os, Calls Tryz.prog 12 #[.agg #[.int .i64 a0', .int .i64 a1', .string a2'], .agg #[.int .i64 e0, .int .i64 e1', .string e2]] (grow (redrawn wc d) os) fun e w'' => e = .returned (.int .i64 cv) ∧ ∃ p : Regrown, w'' = grow (redrawn wc p.d) p.os) := mkH (fun d os => by
            have h := S.compare_any a0' a1' e0 e1' a2' e2 (grow (redrawn wc d) os)
            rw [show S.cmpV a0' a1' a2' e0 e1' e2 = cv from hcv] at h
            exact Calls.regrown_of h)
          replace q0 := cell_regrown ((HB'.out.cell (p := ⟨b3, o3, none⟩) hb3).trans q0)
          replace q1 := cell_regrown ((HB'.out.cell (p := ⟨b3, o3 + 1, none⟩) hb3).trans q1)
          replace q2 := cell_regrown ((HB'.out.cell (p := ⟨b3, o3 + 2, none⟩) hb3).trans q2)
          clear hgq hRj hb3 hb1q s1q haq hcv hup hj hk0
          go_wp2_with fail
          refine wp_region_quiet_below (by kernel_rfl) (by kernel_rfl) ?_
          repeat (go_big_quiet_step (exact HCM.out _ _))
          refine wpQuiet_nil ?_
          intro _ hw'
          obtain ⟨⟨dq, osq⟩, hw''⟩ := hw'
          subst hw''
          have HBQ := below_regrown wc dq osq
          go_wp2_with fail
          refine ⟨⟨k + 1, _, _, _, _, hlt, by go_num, by rw [sumP_next _ HG1.out], by rw [sumP_next _ HG1.out], by rw [sumP_next' _ HG1.out], rfl, rfl, mkH (HOW1.out _ HBQ), mkH (HOW2.out _ HBQ), HAP', mkH (HFIN.out _ (HBQ.mono hcs))⟩, by simp [intOf]; omega⟩
    · have hkn : ¬ (k : Int) < ((partsP ka rows).length : Int) := by omega
      have hke : k = (partsP ka rows).length := by omega
      clear hk hlt
      subst hke
      rw [List.take_length] at HLO HHO
      obtain ⟨wb, wo, wc', rvw, ew, hwb, pw, sw⟩ := HWS.out.at (k := 0) rfl
      injection ew with ew1 ew2 ew3
      clear ew2
      subst ew1 ew3
      obtain ⟨b4, o4, d4, rfl, hb4, HRW⟩ := rowW_at sw HPP.out.1
      replace HRW := mkH HRW
      have pw' := (HB.out.cell (p := ⟨wb, wo + 0, none⟩) hwb).trans pw
      rw [Nat.add_zero] at pw'
      have HP60 := mkH hP60
      clear pw sw hP60 hwb hb4
      go_wp2_with fail
      obtain ⟨g1, g2, ⟨l0, l1, l2⟩, ⟨m0, m1, m2⟩, t0⟩ := HRW.out
      obtain ⟨tt, htt⟩ : ∃ tt, IntKind.i64.wrap (totF kc num rows) = tt := ⟨_, rfl⟩
      rw [htt] at t0
      have HL1 := mkH (sl_vals HLO.out (by simp))
      have HL2 := mkH (sl_vals HHO.out (by simp))
      have hn0 : ∀ x ∈ colP kc rows, 0 ≤ x.1 := fun x hx => (HMC.out kc hkc x hx).1
      have hmn := low_min ka kc rows hn0
      have hmx := high_max ka kc rows hn0
      obtain ⟨s, hs⟩ : ∃ s, S.stOf ((partsP ka rows).map fun g => F.comesV .min (colP kc g)) = s := ⟨_, rfl⟩
      obtain ⟨r, hr⟩ : ∃ s, S.stOf ((partsP ka rows).map fun g => F.comesV .max (colP kc g)) = s := ⟨_, rfl⟩
      obtain ⟨s1, s2, ⟨k1, n1, t1⟩, ⟨p1, q1, u1⟩⟩ := s
      obtain ⟨r1, r2, ⟨k2, n2, t2⟩, ⟨p2, q2, u2⟩⟩ := r
      rw [hs] at hmn
      rw [hr] at hmx
      simp only at hmn hmx
      have HS := mkH hs
      have HR' := mkH hr
      rw [← hmn] at l0 l1 l2
      rw [← hmx] at m0 m1 m2
      simp only at l0 l1 l2 m0 m1 m2
      replace g1 := cell_regrown (F.cell_up HB.out g1)
      replace g2 := cell_regrown (F.cell_up HB.out g2)
      replace l0 := cell_regrown (F.cell_up HB.out l0)
      replace l1 := cell_regrown (F.cell_up HB.out l1)
      replace l2 := cell_regrown (F.cell_up HB.out l2)
      replace m0 := cell_regrown (F.cell_up HB.out m0)
      replace m1 := cell_regrown (F.cell_up HB.out m1)
      replace m2 := cell_regrown (F.cell_up HB.out m2)
      replace t0 := cell_regrown (F.cell_up HB.out t0)
      have HO1 : Hid (∀ d os, Calls Tryz.prog 13 #[.slice x (partsP ka rows).length c] (grow (redrawn wr d) os) fun e w'' => e = .returned (.agg #[.int .i64 s1, .int .i64 s2, .int .i64 k1, .int .i64 n1, .string t1, .int .i64 p1, .int .i64 q1, .string u1]) ∧ ∃ p : Regrown, w'' = grow (redrawn wr p.d) p.os) := mkH (fun dd os => by
        have h := S.of_any _ _ (grow (redrawn wr dd) os) (HL1.out.up (below_regrown wr dd os)) (by have := HP60.out; simp; omega)
        rw [HS.out] at h
        exact Calls.regrown_of h)
      have HO2 : Hid (∀ d' os, Calls Tryz.prog 13 #[.slice y (partsP ka rows).length d] (grow (redrawn wr d') os) fun e w'' => e = .returned (.agg #[.int .i64 r1, .int .i64 r2, .int .i64 k2, .int .i64 n2, .string t2, .int .i64 p2, .int .i64 q2, .string u2]) ∧ ∃ p : Regrown, w'' = grow (redrawn wr p.d) p.os) := mkH (fun dd os => by
        have h := S.of_any _ _ (grow (redrawn wr dd) os) (HL2.out.up (below_regrown wr dd os)) (by have := HP60.out; simp; omega)
        rw [HR'.out] at h
        exact Calls.regrown_of h)
      have hf1 := fun W => fld_min s1 s2 k1 n1 p1 q1 t1 u1 W
      have hf2 := fun W => fld_max r1 r2 k2 n2 p2 q2 t2 u2 W
      have e1 := sum_n ka rows (by omega)
      have e2 := sum_m ka kc rows (by omega)
      have e3 := sum_t ka kc num rows
      rw [htt] at e3
      rw [e1, e2, e3]
      have HFB := mkH (F.ups HB9.out HB.out)
      clear e1 e2 e3 htt hs hr hmn hmx hn0 HLO HHO HL1 HL2 HS HR' hkn
      refine wp_region_quiet_below (by kernel_rfl) (by kernel_rfl) ?_
      iterate 35 (go_big_quiet_step (first | with_reducible exact HO1.out _ _ | with_reducible exact HO2.out _ _))
      go_big_quiet_want
      refine quiet_eqV _ _ (by rfl) k1 n1 t1 (by rfl) (by rfl) ?_
      simp only [Act.put, List.setIfInBounds_toArray, List.set_cons_succ, List.set_cons_zero]
      go_big_quiet_on
      iterate 8 (go_big_quiet_step (first | with_reducible exact HO1.out _ _ | with_reducible exact HO2.out _ _))
      go_big_quiet_want
      refine quiet_eqV _ _ (by rfl) p2 q2 u2 (by rfl) (by rfl) ?_
      simp only [Act.put, List.setIfInBounds_toArray, List.set_cons_succ, List.set_cons_zero]
      go_big_quiet_on
      repeat (go_big_quiet_step (first | with_reducible exact HO1.out _ _ | with_reducible exact HO2.out _ _))
      refine wpQuiet_nil ?_
      intro _ hw'
      obtain ⟨⟨dq, osq⟩, hw''⟩ := hw'
      subst hw''
      have HBQ := below_regrown wr dq osq
      go_wp2_with fail
      go_ret
      exact ⟨rfl, F.ups HFB.out HBQ⟩
end Go.Proofs.YtlnkbhbpkmnkaaaGreatDoor
