/- What file.made does, said of every call. -/
import Derived.Test.YtodemklghajdeaaGreatDoorFZ2
import Derived.Test.YtodemklghajdeaaGreatDoorFZ4
import Derived.Test.YtodemklghajdeaaGreatDoorFY3
import Derived.Test.YtodemklghajdeaaGreatDoorFW6
namespace Go.Proofs.YtodemklghajdeaaGreatDoor
open Go.RowKit Go.Proofs Go.Shelf Go.Joins

theorem vals_ok {cols : List Col} {g : Grp} {c : Col} (hp : pos cols c.1 < cols.length) (hsz : ∀ b ∈ g.2.2, b.length ≤ 1000000) : ∀ v ∈ valsOf cols g c, Ok64 v ∧ v.2.2.size ≤ maxLen := by
  unfold valsOf
  rw [if_pos hp]
  intro v hv
  cases hd : E.decR (kd (cols[pos cols c.1]?.getD zC)) (g.2.2[pos cols c.1]?.getD []) with
  | none => rw [hd] at hv; simp at hv
  | some m =>
    rw [hd] at hv
    obtain ⟨_, _, hm⟩ := E.decR_some hd
    have hb : (g.2.2[pos cols c.1]?.getD []).length ≤ 1000000 := by
      cases hx : g.2.2[pos cols c.1]? with
      | none => simp
      | some b => exact hsz b (List.mem_of_getElem? hx)
    have ho := (E.colR_ok (k := kd (cols[pos cols c.1]?.getD zC)) hb).1
    rw [← hm] at ho
    obtain ⟨h1, h2, h3⟩ := ho v hv
    exact ⟨⟨h1, h2⟩, h3⟩
theorem readG_ok {cols now : List Col} {g : Grp} {r : List (List V)} (h : readG cols g now = some r) (hp : ∀ c ∈ now, pos cols c.1 < cols.length) (hsz : ∀ b ∈ g.2.2, b.length ≤ 1000000) : ∀ row ∈ r, ∀ v ∈ row, Ok64 v ∧ v.2.2.size ≤ maxLen := by
  unfold readG at h
  split at h
  · injection h with h
    subst h
    intro row hr v hv
    unfold rowsBy at hr
    obtain ⟨j, _, rfl⟩ := List.mem_map.1 hr
    obtain ⟨c, hc, rfl⟩ := List.mem_map.1 hv
    cases hx : (valsOf cols g c)[j]? with
    | none => exact ⟨ok64_z, Nat.zero_le _⟩
    | some u => exact vals_ok (hp c hc) hsz u (List.mem_of_getElem? hx)
  · cases h
theorem allGo_ok {cols now : List Col} (hp : ∀ c ∈ now, pos cols c.1 < cols.length) : ∀ {gs : List Grp} {acc rows : List (List V)}, allGo cols now acc gs = some rows → (∀ g ∈ gs, ∀ b ∈ g.2.2, b.length ≤ 1000000) → (∀ row ∈ acc, ∀ v ∈ row, Ok64 v ∧ v.2.2.size ≤ maxLen) → ∀ row ∈ rows, ∀ v ∈ row, Ok64 v ∧ v.2.2.size ≤ maxLen
  | [], acc, rows, h, _, ha => by rw [allGo] at h; injection h with h; subst h; exact ha
  | g :: gs, acc, rows, h, hs, ha => by
    cases hr : readG cols g now with
    | none => rw [allGo_none hr] at h; cases h
    | some r =>
      rw [allGo_some hr] at h
      refine allGo_ok hp h (fun g' hg => hs g' (List.mem_cons_of_mem _ hg)) (fun row hrow => ?_)
      rcases List.mem_append.1 hrow with h1 | h1
      · exact ha row h1
      · exact readG_ok hr hp (hs g List.mem_cons_self) row h1
theorem readG_fit {cols now : List Col} {g : Grp} {r : List (List V)} (h : readG cols g now = some r) (h1 : 1 ≤ cols.length) (h8 : cols.length ≤ 8) : FitG g := by
  unfold readG at h
  split at h
  · rename_i hw
    rw [Bool.and_eq_true] at hw
    have hw := hw.1
    simp only [wholeG, decide_eq_true_eq] at hw
    exact ⟨by omega, by omega, by omega, by omega⟩
  · cases h
theorem allGo_fit {cols now : List Col} (h1 : 1 ≤ cols.length) (h8 : cols.length ≤ 8) : ∀ {gs : List Grp} {acc rows : List (List V)}, allGo cols now acc gs = some rows → ∀ g ∈ gs, FitG g
  | [], _, _, _ => by simp
  | g :: gs, acc, rows, h => by
    cases hr : readG cols g now with
    | none => rw [allGo_none hr] at h; cases h
    | some r =>
      rw [allGo_some hr] at h
      intro g' hg
      rcases List.mem_cons.1 hg with rfl | hg
      · exact readG_fit hr h1 h8
      · exact allGo_fit h1 h8 h g' hg
theorem makeR_fit {l : List Col} {rows : List (List V)} {f : Fil} (h : makeR l rows = some f) (h1 : 1 ≤ l.length) (h8 : l.length ≤ 8) : (∀ g ∈ f.2, FitG g) ∧ f.2.length ≤ rows.length + 5 := by
  unfold makeR at h
  split at h
  · injection h with h
    subst h
    refine ⟨fun g hg => ?_, ?_⟩
    · obtain ⟨p, _, rfl⟩ := List.mem_map.1 hg
      refine ⟨?_, ?_, ?_, ?_⟩ <;> simp [groupOf] <;> omega
    · simp [groupsOf, parts, nGr]; omega
  · cases h
theorem plain_pos (l : List Col) : ∀ c ∈ plainC l, pos l c.1 < l.length := fun c hc => by
  have hi : c.1 ∈ ids l := by rw [← (sameIK_plain l).1]; exact List.mem_map.2 ⟨c, hc, rfl⟩
  have := List.idxOf_lt_length_of_mem hi
  unfold pos
  simpa [ids] using this
theorem plain_size (l : List Col) : ∀ x ∈ plainC l, x.2.1.size ≤ maxLen ∧ x.2.2.2.2.2.2.size ≤ maxLen := fun x hx => by
  unfold plainC at hx
  obtain ⟨i, _, rfl⟩ := List.mem_map.1 hx
  constructor
  · show (cname i).size ≤ maxLen
    have : (cname i).size = 2 := rfl
    rw [this]; unfold maxLen; omega
  · show (ByteArray.mk #[]).size ≤ maxLen
    exact Nat.zero_le _

theorem madeB_no {cols : List Col} {gs : List Grp} (h : rightB (plainC cols) 1099511627777 = false) : madeB (cols, gs) = false := by unfold madeB next40; rw [h]; rfl
theorem madeB_none {cols : List Col} {gs : List Grp} (h : allGo cols (plainC cols) [] gs = none) : madeB (cols, gs) = false := by unfold madeB; simp only [h, Bool.and_false]
theorem madeB_bad {cols : List Col} {gs : List Grp} {rows : List (List V)} (h : allGo cols (plainC cols) [] gs = some rows) (h2 : makeR (plainC cols) rows = none) : madeB (cols, gs) = false := by unfold madeB; simp only [h, h2, Bool.and_false]
theorem madeB_some {cols : List Col} {gs : List Grp} {rows : List (List V)} {f : Fil} {b : Bool} (h0 : rightB (plainC cols) 1099511627777 = true) (h : allGo cols (plainC cols) [] gs = some rows) (h2 : makeR (plainC cols) rows = some f) (hb : b = true ↔ gs = f.2) : madeB (cols, gs) = b := by
  unfold madeB next40
  simp only [h0, h, h2, Bool.true_and]
  cases b with
  | true => simpa using hb.1 rfl
  | false => simp; intro e; cases hb.2 e

set_option maxHeartbeats 8000000 in
set_option maxRecDepth 100000 in
theorem made_any (cv gv : Value) (cols : List Col) (gs : List Grp) (w : World) (hF : FilAt w cv gv (cols, gs)) (h8 : cols.length ≤ 8) (hsz : ∀ g ∈ gs, ∀ b ∈ g.2.2, b.length ≤ 1000000) (hgl : gs.length ≤ 60) (hw : C.NcB w) (hg : C.EtB w) :
    Calls Tryz.prog 34 #[.agg #[cv, gv]] w fun e w' => e = .returned (.bool (madeB (cols, gs))) ∧ Below w.heap.size w w' := by
  have HF := mkH hF
  have HSZ := mkH hsz
  have HW := mkH hw
  have HG := mkH hg
  obtain ⟨hC, hG⟩ := hF
  obtain ⟨ga, gc, rfl, _⟩ := hG.slice
  obtain ⟨ca, cc, rfl, _⟩ := hC.slice
  have hb0 : Below w.heap.size w (w.alloc (.cells #[.slice ca cols.length cc, .slice ga gs.length gc] 29)) := (Below.refl _ _).alloc (Nat.le_refl _) _
  obtain ⟨f0, f1⟩ := row2 (heap_alloc_new w (.cells #[.slice ca cols.length cc, .slice ga gs.length gc] 29))
  have HPL := mkH (plain_any (.slice ca cols.length cc) cols _ (hC.up hb0) h8)
  have HF0 : Hid (∀ W, Below (w.heap.size + 1) (w.alloc (.cells #[.slice ca cols.length cc, .slice ga gs.length gc] 29)) W → W.cell? ⟨w.heap.size, 0, none⟩ = some (.slice ca cols.length cc) ∧ W.cell? ⟨w.heap.size, 1, none⟩ = some (.slice ga gs.length gc) ∧ Below w.heap.size w W) := mkH (fun W hW => by
    have hW' : Below (w.alloc (.cells #[.slice ca cols.length cc, .slice ga gs.length gc] 29)).heap.size (w.alloc (.cells #[.slice ca cols.length cc, .slice ga gs.length gc] 29)) W := by rw [World.size_alloc]; exact hW
    exact ⟨cell_up hW' f0, cell_up hW' f1, ups hb0 hW'⟩)
  obtain ⟨iS, hiS, hzS, hz1S, hz2S⟩ := info_parts infoSl
  have HIS := mkH (And.intro hiS (And.intro hzS (And.intro hz1S hz2S)))
  clear hC hG hsz hw hg hiS hzS hz1S hz2S hb0
  go_enter Tryz.func34, Tryz.ntmps34
  go_wp2_with fail
  refine HPL.out.mono ?_
  rintro e w1 ⟨v1, rfl, ho1, hb1⟩
  obtain ⟨pa, pc, rfl, _⟩ := E.ownsRow_slice ho1
  have hb1' : Below (w.heap.size + 1) (w.alloc (.cells #[.slice ca cols.length cc, .slice ga gs.length gc] 29)) w1 := by rw [World.size_alloc] at hb1; exact hb1
  obtain ⟨q0, q1, hbw1⟩ := HF0.out w1 hb1'
  have hs1 := hb1'.size
  rw [World.size_alloc] at hs1
  have HPC : Hid (SlE 7 C.encC w1 (.slice pa cols.length pc) (plainC cols)) := mkH (SlE.of_own (k := 7) (enc := C.encC) (fun _ => rfl) ho1 (plainC_len cols).symm)
  have HRT := mkH (right_all (.slice pa cols.length pc) (plainC cols) 1099511627777 w1 HPC.out (by rw [plainC_len]; omega) (plain_size cols) (HW.out.below hbw1))
  have HB1 := mkH hb1'
  have HBW1 := mkH hbw1
  clear hb1 hb1' ho1 HPL hbw1 f0 f1
  cases hR : rightB (plainC cols) 1099511627777 with
  | false =>
    rw [hR] at HRT
    have HMB := mkH (madeB_no (gs := gs) hR)
    go_wp2_with fail
    refine HRT.out.mono ?_
    rintro e w2 ⟨rfl, hb2⟩
    go_wp2
    go_ret
    rw [HMB.out]
    exact ⟨rfl, ups HBW1.out hb2⟩
  | true =>
    rw [hR] at HRT
    have HR := mkH hR
    have hl1 : 1 ≤ cols.length := by have := (right_iff.1 hR).one; rwa [plainC_len] at this
    clear hR
    go_wp2_with fail
    refine HRT.out.mono ?_
    rintro e w2 ⟨rfl, hb2⟩
    have hB2 := HB1.out.trans (hb2.mono hs1)
    obtain ⟨q0, q1, hbw2⟩ := HF0.out w2 hB2
    have HPC2 := mkH (HPC.out.up hb2)
    have hs2 := hb2.size
    go_wp2
    go_loopw [4, 19] (fun vo vi wr => ∃ (k : Nat) (acc : List (List V)), k ≤ gs.length ∧ vi = .int .i64 k ∧ acc.length ≤ 6 * k ∧ Hid (allGo cols (plainC cols) [] gs = allGo cols (plainC cols) acc (gs.drop k)) ∧ Hid (SlO w2.heap.size wr vo acc) ∧ Hid (Below w2.heap.size w2 wr)) (fun _ vi _ => gs.length - (intOf vi).toNat)
    case atStart => exact ⟨0, [], Nat.zero_le _, rfl, by simp, mkH rfl, mkH (SlO_nil _ _), mkH (Below.refl _ _)⟩
    case round =>
      obtain ⟨k, acc, hk, rfl, hacc, hgo, hso, hbR⟩ := hrel
      obtain ⟨q0, q1, hbw⟩ := HF0.out wr (hB2.trans (hbR.out.mono (by omega)))
      have hszr := hbR.out.size
      have HPCr := mkH (HPC2.out.up hbR.out)
      have HFr := mkH (HF.out.up hbw)
      by_cases hlt : k < gs.length
      · obtain ⟨g, hg⟩ : ∃ g, gs[k]? = some g := ⟨_, List.getElem?_eq_getElem hlt⟩
        have HRk := mkH (read_any k _ _ (.slice pa cols.length pc) cols gs g (plainC cols) wr HFr.out hg HPCr.out (by rw [plainC_len]; exact h8) hl1 h8 (plain_pos cols) (HSZ.out g (List.mem_of_getElem? hg)))
        have HGO : Hid (allGo cols (plainC cols) [] gs = allGo cols (plainC cols) acc (g :: gs.drop (k + 1))) := mkH (by rw [hgo.out, List.drop_eq_getElem_cons hlt]; rw [List.getElem?_eq_getElem hlt] at hg; injection hg with hg; rw [hg])
        have hkl : (k : Int) < (gs.length : Int) := by omega
        obtain ⟨vs, hv1, hv2, hv3⟩ := hso.out
        obtain ⟨oa, oc, rfl, _⟩ := E.ownsRow_slice hv2
        have HVS := mkH (And.intro hv1 (And.intro hv2 hv3))
        clear hg hgo hv1 hv2 hv3 hso
        cases hr : readG cols g (plainC cols) with
        | none =>
          rw [hr] at HRk
          have HE : Hid (madeB (cols, gs) = false) := mkH (madeB_none (by rw [HGO.out, allGo_none hr]))
          clear hr
          go_wp2_with fail
          refine HRk.out.mono ?_
          rintro e w3 ⟨rfl, hb3⟩
          go_wp2
          go_ret
          rw [HE.out]
          exact ⟨rfl, ups hbw hb3⟩
        | some r =>
          rw [hr] at HRk
          obtain ⟨hrl, hr6⟩ := readG_len hr
          have hrl6 : r.length ≤ 6 := by omega
          have HE : Hid (allGo cols (plainC cols) [] gs = allGo cols (plainC cols) (acc ++ r) (gs.drop (k + 1))) := mkH (by rw [HGO.out, allGo_some hr])
          clear hr hrl hr6
          go_wp2_with fail
          refine HRk.out.mono ?_
          rintro e w3 ⟨v1, rfl, ⟨us, hu1, hu2, hu3⟩, hb3⟩
          obtain ⟨ra, rc, rfl, _⟩ := E.ownsRow_slice hu2
          have HUS := mkH (And.intro hu1 (And.intro hu2 hu3))
          have HV2 := mkH (E.ownsRow_up HVS.out.2.1 hb3)
          have hs3 := hb3.size
          clear hu1 hu2 hu3
          go_wp2_with (at_builtin; refine E.wpList_append_row rfl _ _ 23 rfl w2.heap.size 57 iS (.slice none 0 0) 1 24 Tryz.underlying23 HIS.out.1 HIS.out.2.1 HIS.out.2.2.1 HIS.out.2.2.2 rfl (by decide) _ _ _ rfl HV2.out _ _ _ _ rfl HUS.out.2.1 (SlO.one HUS.out.1 HUS.out.2.2) ?f1 ?f2 ?f3 ?_)
          case f1 => unfold maxLen; omega
          case f2 => omega
          case f3 => omega
          intro v2 w4 ho2 hg2
          have hso2 := SlO.app HVS.out.1 HUS.out.1 HV2.out (fun j x r hx hr => E.ownsRow_up (HVS.out.2.2 j x r hx hr) hb3) HUS.out.2.2 ho2 hg2
          have hb2 := E.below_grown_own (hbR.out.trans (hb3.mono hszr)) HV2.out hg2 (by omega)
          go_wp2
          exact ⟨⟨k + 1, acc ++ r, by omega, by go_num, by simp; omega, HE, mkH hso2, mkH hb2⟩, by simp [intOf]; omega⟩
      · have ek : k = gs.length := by omega
        have HE : Hid (allGo cols (plainC cols) [] gs = some acc) := mkH (by rw [hgo.out, ek, List.drop_length]; rfl)
        have hkl : ¬ (k : Int) < (gs.length : Int) := by omega
        have hal : acc.length ≤ 360 := by omega
        have HOK := mkH (allGo_ok (plain_pos cols) HE.out HSZ.out (by simp))
        have HMK := mkH (make_any (.slice pa cols.length pc) _ (plainC cols) acc wr HPCr.out hso.out.slr (by rw [plainC_len]; omega) (by omega) (plain_size cols) (fun r hr v hv => (HOK.out r hr v hv).2) (fun r hr v hv => (HOK.out r hr v hv).1) (HW.out.below hbw) (HG.out.below hbw))
        obtain ⟨oa, oc, rfl, _⟩ := hso.out.slr.slice
        clear ek hgo
        cases hm : makeR (plainC cols) acc with
        | none =>
          rw [hm] at HMK
          have HR2 := mkH (madeB_bad HE.out hm)
          clear hm
          go_wp2_with fail
          refine HMK.out.mono ?_
          rintro e w5 ⟨T5, v5, rfl, hb5⟩
          have hb6 := (ups hbw hb5).alloc (by have := hb5.size; have := hbw.size; omega) (.cells #[.slice none 0 0, .slice none 0 0] 29)
          go_wp2
          go_ret
          rw [HR2.out]
          exact ⟨rfl, hb6⟩
        | some f' =>
          rw [hm] at HMK
          obtain ⟨l', gs'⟩ := f'
          go_wp2_with fail
          refine HMK.out.mono ?_
          rintro e w5 ⟨cv5, gv5, rfl, hF5, hb5⟩
          obtain ⟨a5, c5, rfl, _⟩ := hF5.1.slice
          obtain ⟨a6, c6, rfl, _⟩ := hF5.2.slice
          dsimp only at hF5 ⊢
          have hbX : Below w5.heap.size w5 (w5.alloc (.cells #[.slice a5 l'.length c5, .slice a6 gs'.length c6] 29)) := (Below.refl _ _).alloc (Nat.le_refl _) _
          have hbw5 := ups (ups hbw hb5) hbX
          obtain ⟨q0, q1, _⟩ := HF0.out (w5.alloc (.cells #[.slice a5 l'.length c5, .slice a6 gs'.length c6] 29)) ((hB2.trans (hbR.out.mono (by omega))).trans ((ups hb5 hbX).mono (by omega)))
          obtain ⟨x0, x1⟩ := row2 (heap_alloc_new w5 (.cells #[.slice a5 l'.length c5, .slice a6 gs'.length c6] 29))
          obtain ⟨hft, hfl⟩ := makeR_fit hm (by rw [plainC_len]; exact hl1) (by rw [plainC_len]; exact h8)
          dsimp only at hft hfl
          have HEQ := mkH (equalG_any (.slice ga gs.length gc) (.slice a6 gs'.length c6) gs gs' _ (HF.out.up hbw5).2 (hF5.2.up hbX) (by omega) (by have := hfl; omega) (allGo_fit hl1 h8 HE.out) hft)
          have HR2 : Hid (madeB (cols, gs) = Lib.allEq sameB gs gs') := mkH (madeB_some HR.out HE.out hm (allEq_iff sameB_iff gs gs'))
          have HB5 := mkH hbw5
          clear hft hfl hF5 hm hbX
          go_wp2_with fail
          refine HEQ.out.mono ?_
          rintro e w6 ⟨rfl, hb6⟩
          have hbf := ups HB5.out hb6
          go_wp2
          go_ret
          rw [HR2.out]
          exact ⟨rfl, hbf⟩
end Go.Proofs.YtodemklghajdeaaGreatDoor
