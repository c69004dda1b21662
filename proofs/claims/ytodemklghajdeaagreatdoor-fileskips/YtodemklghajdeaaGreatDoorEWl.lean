/- What the reader's runs does, said of every call. -/
import Derived.Test.YtodemklghajdeaaGreatDoorEWj
namespace Go.Proofs.YtodemklghajdeaaGreatDoor.E
open Go.RowKit Go.Proofs Go.Shelf

theorem valuesR_num (k : Int) : ∀ (n : Nat) (s : St), (valuesR k n s).1.length = n
  | 0, _ => rfl
  | n + 1, s => by simp [valuesR, valuesR_num k n]
theorem valuesR_len (k : Int) : ∀ (n : Nat) (s : St), (valuesR k n s).2.1.length ≤ s.1.length
  | 0, _ => Nat.le_refl _
  | n + 1, s => Nat.le_trans (valuesR_len k n _) (valueR_len k s)

set_option maxHeartbeats 1000000 in
set_option maxRecDepth 100000 in
theorem which_any (b n : Nat) (k : Int) (s : St) (w : World) (hr : Rd w b k s) (hl : s.1.length ≤ 1000000) (hn : n ≤ 1000) :
    Calls Tryz.prog 149 #[.pointer (some ⟨b, 0, none⟩), .int .i64 n] w fun e w' => ∃ v', e = .returned v' ∧ w'.ownsRow w.heap.size 45 3 v' (whichR k n s).1.length (flatV (whichR k n s).1) ∧ Rd w' b k (whichR k n s).2 ∧ w.grownBy w' (some b) := by
  obtain ⟨i32, hi32, hz32, hz132, hz232⟩ := info_parts info32
  have HI32 := mkHid (And.intro hi32 (And.intro hz32 (And.intro hz132 hz232)))
  clear hi32 hz32 hz132 hz232
  have hb := hr.lt
  have HC := mkHid (upTo_any b k n s w hr hl (by omega) (by omega))
  have hu1 := upToR_le n s
  have hu2 := upToR_len n s
  have HW : Hid (whichR k n s = whichGo (valuesR k (upToR n s).1 (upToR n s).2).1 n [] (valuesR k (upToR n s).1 (upToR n s).2).2) := mkHid rfl
  rw [HW.out]
  generalize upToR n s = R at *
  obtain ⟨m, st1⟩ := R
  simp only at hu1 hu2
  have HV := mkHid (fun W hW => values_any b m k st1 W hW (by omega) (by omega))
  have hv1 := valuesR_num k m st1
  have hv2 := valuesR_len k m st1
  clear HW hr
  generalize valuesR k m st1 = Q at *
  obtain ⟨d, st2⟩ := Q
  simp only at hv1 hv2 HV
  have hdl : d.length ≤ 1000 := by omega
  clear hv1
  go_enter Tryz.func149, Tryz.ntmps149
  go_wp2_with fail
  refine HC.out.mono ?_
  rintro e w1 ⟨rfl, hR1, hg1⟩
  go_wp2_with fail
  refine (HV.out _ hR1).mono ?_
  rintro e w2 ⟨vd, rfl, hd2, hR2, hg2⟩
  have hg02 := grown_trans hg1 hg2
  have hs1 := hg1.size
  have hs2 := hg2.size
  have HD2 := mkHid hd2
  have HR2 := mkHid hR2
  have HG2 := mkHid hg02
  obtain ⟨ad, cd, rfl, hcd, hdc⟩ := Sl_of_owns hd2
  have HDC := mkHid hdc
  clear hd2 hR2 hg1 hg2 hR1 hg02 hdc
  go_wp2
  go_loopw [6, 7, 16] (fun vl _ vi wr => ∃ (i : Nat) (A : List V) (st : St), i ≤ n ∧ vi = .int .i64 i ∧ Hid (A.length = i ∧ whichGo d n [] st2 = whichGo d (n - i) A st ∧ st.1.length ≤ s.1.length) ∧ Hid (wr.ownsRow w2.heap.size 45 3 vl i (flatV A)) ∧ Hid (wr.ownsRow w1.heap.size 45 3 (.slice ad d.length cd) d.length (flatV d)) ∧ Hid (Rd wr b k st) ∧ Hid (w2.grownBy wr (some b))) (fun _ _ vi _ => n - (intOf vi).toNat)
  case atStart => exact ⟨0, [], st2, Nat.zero_le _, rfl, mkHid ⟨rfl, by simp, Nat.le_trans hv2 hu2⟩, World.ownsRow_nil _ _ _ _, HD2, HR2, grown_refl _ _⟩
  case round =>
    obtain ⟨i, A, st, hi, rfl, hA, ho, hd, hrd, hg⟩ := hrel
    have hsz := hg.out.size
    by_cases hlt : i < n
    · have HC2 := mkHid (upTo_any b k ((d.length : Int) - 1) st wr hrd.out (by have := hA.out.2.2; omega) (by omega) (by omega))
      obtain ⟨m1, hm1⟩ : ∃ m1, n - i = m1 + 1 := ⟨n - i - 1, by omega⟩
      have HGO : Hid (whichGo d (n - i) A st = if (upToR ((d.length : Int) - 1) st).2.2 then ([], (upToR ((d.length : Int) - 1) st).2) else whichGo d (n - (i + 1)) (A ++ [d[(upToR ((d.length : Int) - 1) st).1]?.getD (0, 0, str [])]) (upToR ((d.length : Int) - 1) st).2) := mkHid (by
        rw [hm1, show n - (i + 1) = m1 by omega]; rfl)
      have hle2 := upToR_le ((d.length : Int) - 1) st
      have hlen2 := upToR_len ((d.length : Int) - 1) st
      have hidx : (upToR ((d.length : Int) - 1) st).2.2 = false → (upToR ((d.length : Int) - 1) st).1 < d.length := fun h => by
        cases hbb : badR ((d.length : Int) - 1) st with
        | true => rw [upToR_bad hbb] at h; cases h
        | false =>
          rw [upToR_ok hbb]
          simp only [badR, Bool.or_eq_false_iff, decide_eq_false_iff_not] at hbb
          omega
      clear hm1
      generalize upToR ((d.length : Int) - 1) st = R at *
      obtain ⟨x, st3, q⟩ := R
      simp only at hle2 hlen2 hidx
      cases q with
      | true =>
        have HRES : Hid (whichGo d n [] st2 = ([], (st3, true))) := mkHid (by rw [hA.out.2.1, HGO.out]; rfl)
        clear hidx
        go_wp2_with fail
        refine HC2.out.mono ?_
        rintro e w3 ⟨rfl, hR3, hg3⟩
        obtain ⟨q0, q1, q2, z1, z2⟩ := rd_cells hR3
        have HR3 := mkHid hR3
        clear hR3
        go_wp2_with fail
        refine (wrong_any b k _ w3 HR3.out).mono ?_
        rintro e w3 ⟨rfl, rfl⟩
        go_wp2
        go_ret
        rw [HRES.out]
        exact ⟨_, rfl, World.ownsRow_nil _ _ _ _, HR3.out, grown_trans HG2.out (grown_trans hg.out hg3)⟩
      | false =>
        have hxd := hidx rfl
        obtain ⟨⟨kx, nx, tx⟩, hx⟩ := getEx hxd
        have HRES : Hid (whichGo d n [] st2 = whichGo d (n - (i + 1)) (A ++ [(kx, nx, tx)]) (st3, false)) := mkHid (by rw [hA.out.2.1, HGO.out]; simp [hx])
        have HX := mkHid hx
        clear hidx HGO
        go_wp2_with fail
        refine HC2.out.mono ?_
        rintro e w3 ⟨rfl, hR3, hg3⟩
        have hs3 := hg3.size
        obtain ⟨q0, q1, q2, z1, z2⟩ := rd_cells hR3
        have HO3 := mkHid (ownsRow_rd ho.out (by omega) hg3)
        have hd3 := ownsRow_rd hd.out (by omega) hg3
        have HD3 := mkHid hd3
        obtain ⟨gd, cgd, ead, hgd1, hgd2⟩ := hd3.form (by omega)
        injection ead with ead _ ecd
        subst ead ecd
        obtain ⟨f0, f1, f2⟩ := flatV_at HX.out
        have y0 : w3.cell? ⟨gd, x * 3, none⟩ = some (.int .i64 kx) := (hd3.cellAt _ (by omega)).trans f0
        have y1 : w3.cell? ⟨gd, x * 3 + 1, none⟩ = some (.int .i64 nx) := (hd3.cellAt _ (by omega)).trans f1
        have y2 : w3.cell? ⟨gd, x * 3 + 2, none⟩ = some (.string tx) := (hd3.cellAt _ (by omega)).trans f2
        have HR3 := mkHid hR3
        clear hR3 hd3 f0 f1 f2
        have hxi : (x : Int) < (d.length : Int) := by omega
        go_wp2_with fail
        refine (wrong_any b k _ w3 HR3.out).mono ?_
        rintro e w3 ⟨rfl, rfl⟩
        go_wp2_with (at_builtin; refine wpList_append_own _ rfl _ _ 57 rfl w2.heap.size 45 i32 (.agg #[.int .i64 0, .int .i64 0, .string ⟨#[]⟩]) 3 32 Tryz.underlying57 HI32.out.1 HI32.out.2.1 HI32.out.2.2.1 HI32.out.2.2.2 rfl (by decide) _ _ _ rfl (HO3.out.alloc _) ⟨w3.heap.size, 0, none⟩ 1 1 [.int .i64 kx, .int .i64 nx, .string tx] rfl rfl ?c1 ?c2 ?c3 ?c4 ?c5 ?_)
        case c1 => exact fun j u hj => World.news_of_block (heap_alloc_new _ _) j u hj
        case c2 => exact flatV_one [(kx, nx, tx)]
        case c3 => unfold maxLen; omega
        case c4 => omega
        case c5 => simp; omega
        intro v4 w4 ho4 hg4 _
        have hR4 := (HR3.out.alloc (.cells #[.int .i64 kx, .int .i64 nx, .string tx] 45)).app (HO3.out.alloc _) (by omega) hg4
        have hG4 := grown_app (grown_alloc (grown_trans hg.out hg3) (.cells #[.int .i64 kx, .int .i64 nx, .string tx] 45)) (HO3.out.alloc _) (Nat.le_refl _) hg4
        have hd4 := ownsRow_kept_lt (HD3.out.alloc (.cells #[.int .i64 kx, .int .i64 nx, .string tx] 45)) (H := w2.heap.size) (fun j hj => by have := (HD2.out.lt j hj).2; omega) (HO3.out.alloc _) hg4
        go_wp2
        refine ⟨⟨i + 1, A ++ [(kx, nx, tx)], (st3, false), by omega, by go_num, mkHid ⟨by simp [hA.out.1], HRES.out, ?_⟩, mkHid (by rw [flatV_app]; exact ho4), mkHid hd4, mkHid hR4, mkHid hG4⟩, by simp [intOf]; omega⟩
        have h2 := hA.out.2.2; exact Nat.le_trans hlen2 h2
    · have e : i = n := by omega
      subst e
      have HE : Hid (whichGo d i [] st2 = (A, st)) := mkHid (by rw [hA.out.2.1, Nat.sub_self]; simp [whichGo])
      go_wp2
      go_ret
      rw [HE.out]
      exact ⟨_, rfl, by rw [show (A, st).1.length = i from hA.out.1]; exact ownsRow_base ho.out (by omega), hrd.out, grown_trans HG2.out hg.out⟩
end Go.Proofs.YtodemklghajdeaaGreatDoor.E

namespace Go.Proofs.YtodemklghajdeaaGreatDoor.E
open Go.RowKit Go.Proofs Go.Shelf

/-- How much is left of the reader at b: nothing, once something is wrong. -/
def mu (w : World) (b : Nat) : Nat :=
  match w.cell? ⟨b, 0, none⟩, w.cell? ⟨b, 1, none⟩ with
  | some (.string t), some (.bool false) => t.size + 1
  | _, _ => 0
theorem mu_ok {w : World} {b : Nat} {k : Int} {l : List UInt8} (h : Rd w b k (l, false)) : mu w b = l.length + 1 := by
  obtain ⟨_, c1, c2, _, _⟩ := rd_cells h
  unfold mu; rw [c1, c2]; simp [str_size]
theorem mu_no {w : World} {b : Nat} {k : Int} {l : List UInt8} (h : Rd w b k (l, true)) : mu w b = 0 := by
  obtain ⟨_, c1, c2, _, _⟩ := rd_cells h
  unfold mu; rw [c1, c2]
theorem runsR_stop {k : Int} {n f : Nat} {D : List V} {st : St} (h : ¬ (D.length < n ∧ st.2 = false)) : runsR k n f D st = (D, st) := by
  cases f with
  | zero => rfl
  | succ f => rw [runsR, if_neg h]
theorem runsR_go {k : Int} {n f : Nat} {D : List V} {st : St} (h : D.length < n ∧ st.2 = false) : runsR k n (f + 1) D st = runsR k n f (runL k n D st) (runSt k n D st) := by
  rw [runsR, if_pos h]

set_option maxHeartbeats 2000000 in
set_option maxRecDepth 100000 in
theorem runs_any (b n : Nat) (k : Int) (s : St) (w : World) (hr : Rd w b k s) (hl : s.1.length ≤ 1000000) (hn : n ≤ 1000) :
    Calls Tryz.prog 148 #[.pointer (some ⟨b, 0, none⟩), .int .i64 n] w fun e w' => ∃ v', e = .returned v' ∧ w'.ownsRow w.heap.size 45 3 v' (runsR k n (s.1.length + 2) [] s).1.length (flatV (runsR k n (s.1.length + 2) [] s).1) ∧ Rd w' b k (runsR k n (s.1.length + 2) [] s).2 ∧ w.grownBy w' (some b) := by
  obtain ⟨i32, hi32, hz32, hz132, hz232⟩ := info_parts info32
  have HI32 := mkHid (And.intro hi32 (And.intro hz32 (And.intro hz132 hz232)))
  clear hi32 hz32 hz132 hz232
  have hb := hr.lt
  have HR0 := mkHid hr
  clear hr
  go_enter Tryz.func148, Tryz.ntmps148
  go_wp2
  go_loopw [5] (fun vl wr => ∃ (f : Nat) (D : List V) (st : St), Hid (runsR k n (s.1.length + 2) [] s = runsR k n f D st ∧ (st.2 = false → st.1.length < f) ∧ st.1.length ≤ s.1.length ∧ D.length ≤ n) ∧ Hid (wr.ownsRow w.heap.size 45 3 vl D.length (flatV D)) ∧ Hid (Rd wr b k st) ∧ Hid (w.grownBy wr (some b))) (fun _ wr => mu wr b)
  case atStart => exact ⟨s.1.length + 2, [], s, mkHid ⟨rfl, fun _ => by omega, Nat.le_refl _, by simp⟩, World.ownsRow_nil _ _ _ _, HR0, grown_refl _ _⟩
  case round =>
    obtain ⟨f, D, ⟨sl, sq⟩, hD, ho, hrd, hg⟩ := hrel
    have hsz := hg.out.size
    have hdn := hD.out.2.2.2
    have hsl := hD.out.2.2.1
    simp only at hsl
    obtain ⟨ad, cd, rfl, _, _⟩ := Sl_of_owns ho.out
    obtain ⟨q0, q1, q2, z1, z2⟩ := rd_cells hrd.out
    simp only at q2
    by_cases hlt : D.length < n
    · cases sq with
      | true =>
        have HE : Hid (runsR k n (s.1.length + 2) [] s = (D, (sl, true))) := mkHid (by rw [hD.out.1, runsR_stop (by simp)])
        go_wp2_with fail
        refine (wrong_any b k _ wr hrd.out).mono ?_
        rintro e wr ⟨rfl, rfl⟩
        go_wp2
        go_ret
        rw [HE.out]
        exact ⟨_, rfl, ho.out, hrd.out, hg.out⟩
      | false =>
        have hfl := hD.out.2.1 rfl
        have HMU := mkHid (mu_ok hrd.out)
        obtain ⟨f1, rfl⟩ : ∃ f1, f = f1 + 1 := ⟨f - 1, by simp only at hfl; omega⟩
        have HG : Hid (runsR k n (s.1.length + 2) [] s = runsR k n f1 (runL k n D (sl, false)) (runSt k n D (sl, false))) := mkHid (by rw [hD.out.1, runsR_go ⟨hlt, rfl⟩])
        have em : ((n - D.length : Nat) : Int) = (n : Int) - (D.length : Int) := by omega
        have HC := upTo_any b k ((n - D.length : Nat) : Int) (sl, false) wr hrd.out (by simp only; omega) (by omega) (by omega)
        have hu1 := upToR_le ((n - D.length : Nat) : Int) (sl, false)
        have hu2 := upToR_len ((n - D.length : Nat) : Int) (sl, false)
        have hu3 := @upToR_less ((n - D.length : Nat) : Int) (sl, false)
        have HL : Hid (runL k n D (sl, false) = D ++ List.replicate (upToR ((n - D.length : Nat) : Int) (sl, false)).1 (valueR k (upToR ((n - D.length : Nat) : Int) (sl, false)).2).1) := mkHid rfl
        have HT : Hid (runSt k n D (sl, false) = (valueR k (upToR ((n - D.length : Nat) : Int) (sl, false)).2).2) := mkHid rfl
        rw [HL.out, HT.out] at HG
        generalize upToR ((n - D.length : Nat) : Int) (sl, false) = R at *
        obtain ⟨rn, s1⟩ := R
        simp only at hu1 hu2 hu3 HG
        rw [em] at HC hu1
        have HC := mkHid HC
        have HV := mkHid (fun W hW => value_any b k s1 W hW (by omega))
        have hv2 := valueR_len k s1
        have hv3 := @valueR_wrong k s1
        generalize valueR k s1 = Q at *
        obtain ⟨⟨kx, nx, tx⟩, ⟨s2l, s2q⟩⟩ := Q
        simp only at hv2 hv3 HG HV
        have hrn : rn ≤ n - D.length := by omega
        have hdl : (D.length : Int) < (n : Int) := by omega
        clear HL HT em hu1
        go_wp2_with fail
        refine (wrong_any b k _ wr hrd.out).mono ?_
        rintro e wr ⟨rfl, rfl⟩
        go_wp2_with fail
        refine HC.out.mono ?_
        rintro e w1 ⟨rfl, hR1, hg1⟩
        go_wp2_with fail
        refine (HV.out _ hR1).mono ?_
        rintro e w2 ⟨rfl, hR2, hg2⟩
        have hg12 := grown_trans hg1 hg2
        have hs2 := hg12.size
        have HO2 := mkHid (ownsRow_rd ho.out hb hg12)
        have HG2 := mkHid (grown_trans hg.out hg12)
        have HR2 := mkHid hR2
        have HBX : Hid ((w2.alloc (.cells #[.int .i64 kx, .int .i64 nx, .string tx] 45)).heap[w2.heap.size]? = some (.cells #[.int .i64 kx, .int .i64 nx, .string tx] 45)) := heap_alloc_new _ _
        have HNE : Hid (∀ j, (Value.slice ad D.length cd).ownBlock = some j → j ≠ w2.heap.size) := mkHid fun j hj => by have := (HO2.out.lt j hj).2; omega
        clear hR2 hg12 hg1 hg2 hR1
        go_wp2
        go_loopw [5, 30] (fun vl vi wi => ∃ j : Nat, j ≤ rn ∧ vi = .int .i64 j ∧ Hid (wi.ownsRow w.heap.size 45 3 vl (D.length + j) (flatV (D ++ List.replicate j (kx, nx, tx)))) ∧ Hid (∀ i, vl.ownBlock = some i → i ≠ w2.heap.size) ∧ Hid (wi.heap[w2.heap.size]? = some (.cells #[.int .i64 kx, .int .i64 nx, .string tx] 45)) ∧ Hid (Rd wi b k (s2l, s2q)) ∧ Hid (w.grownBy wi (some b))) (fun _ vi _ => rn - (intOf vi).toNat)
        case atStart => exact ⟨0, Nat.zero_le _, rfl, mkHid (by simpa using HO2.out.alloc _), HNE, HBX, mkHid (HR2.out.alloc _), mkHid (grown_alloc HG2.out _)⟩
        case round =>
          obtain ⟨j, hj, rfl, hoi, hnei, hbx, hri, hgi⟩ := hrel
          have hszi := hgi.out.size
          by_cases hjl : j < rn
          · obtain ⟨y0, y1, y2⟩ := cell_box hbx.out
            have hbl := blk_lt hbx.out
            go_wp2_with (at_builtin; refine wpList_append_lies _ rfl _ _ 57 rfl w.heap.size 45 i32 (.agg #[.int .i64 0, .int .i64 0, .string ⟨#[]⟩]) 3 32 Tryz.underlying57 HI32.out.1 HI32.out.2.1 HI32.out.2.2.1 HI32.out.2.2.2 rfl (by decide) _ _ _ rfl (hoi.out.alloc _) ⟨wr.heap.size, 0, none⟩ 1 1 [.int .i64 kx, .int .i64 nx, .string tx] rfl rfl ?c1 ?c2 ?c3 ?c4 ?c5 ?c6 _ rfl ?_)
            case c1 => exact fun j u hj => World.news_of_block (heap_alloc_new _ _) j u hj
            case c2 => exact flatV_one [(kx, nx, tx)]
            case c3 => omega
            case c4 => unfold maxLen; omega
            case c5 => omega
            case c6 => simp; omega
            intro g cap w4 ho4 hg4 hat hlt4
            have hR4 := (hri.out.alloc (.cells #[.int .i64 kx, .int .i64 nx, .string tx] 45)).app (hoi.out.alloc _) hb hg4
            have hG4 := grown_app (grown_alloc hgi.out (.cells #[.int .i64 kx, .int .i64 nx, .string tx] 45)) (hoi.out.alloc _) (Nat.le_refl _) hg4
            have hB4 : w4.heap[w2.heap.size]? = some (.cells #[.int .i64 kx, .int .i64 nx, .string tx] 45) := (hg4.block w2.heap.size (by simp; omega) (fun e => hnei.out _ e.symm rfl)).trans ((Below.heap_alloc _ _ _ hbl).trans hbx.out)
            have hN4 : ∀ i, (Value.slice (some ⟨g, 0, none⟩) (D.length + j + 1) cap).ownBlock = some i → i ≠ w2.heap.size := fun i hi => by
              have e : g = i := by simpa [Value.ownBlock] using hi
              subst e
              rcases hat with h | h
              · exact hnei.out _ h
              · omega
            go_wp2
            refine ⟨⟨j + 1, by omega, by go_num, mkHid ?_, mkHid hN4, mkHid hB4, mkHid hR4, mkHid hG4⟩, by simp [intOf]; omega⟩
            rw [List.replicate_succ', ← List.append_assoc, flatV_app]; exact ho4
          · have ej : j = rn := by omega
            subst ej
            go_wp2
            refine ⟨⟨f1, D ++ List.replicate j (kx, nx, tx), (s2l, s2q), mkHid ⟨HG.out, ?_, ?_, ?_⟩, mkHid (by rw [List.length_append, List.length_replicate]; exact hoi.out), hri, hgi⟩, ?_⟩
            · intro h
              have h1 : s1.2 = false := by cases h2 : s1.2 with
                | false => rfl
                | true => have := hv3 h2; rw [this] at h; cases h
              have h2 := hu3 h1
              simp only at hfl ⊢; omega
            · simp only; omega
            · rw [List.length_append, List.length_replicate]; omega
            · rw [HMU.out]
              cases s2q with
              | true => rw [mu_no hri.out]; omega
              | false =>
                rw [mu_ok hri.out]
                have h1 : s1.2 = false := by cases h2 : s1.2 with
                  | false => rfl
                  | true => have := hv3 h2; cases this
                have h2 := hu3 h1
                omega
    · have HE : Hid (runsR k n (s.1.length + 2) [] s = (D, (sl, sq))) := mkHid (by rw [hD.out.1, runsR_stop (by simp [hlt])])
      have hdl : ¬ (D.length : Int) < (n : Int) := by omega
      go_wp2
      go_ret
      rw [HE.out]
      exact ⟨_, rfl, ho.out, hrd.out, hg.out⟩
end Go.Proofs.YtodemklghajdeaaGreatDoor.E
