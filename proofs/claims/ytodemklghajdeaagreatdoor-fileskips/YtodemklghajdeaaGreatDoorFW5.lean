/- What (File).Read does, said of every call at a group that is there, by columns that the file has. -/
import Derived.Test.YtodemklghajdeaaGreatDoorFW4
import Derived.Deep.RegionLaw
namespace Go.Proofs.YtodemklghajdeaaGreatDoor
open Go.RowKit Go.Proofs Go.Shelf Go.Joins

def ReadPost (r : Option (List (List V))) (w : World) (e : Ending) (w' : World) : Prop := match r with
  | none => e = .returned (.tuple #[.slice none 0 0, .iface 80 (.int .i64 2)]) ∧ Below w.heap.size w w'
  | some rows => ∃ v', e = .returned (.tuple #[v', .nilIface]) ∧ SlO 0 w' v' rows ∧ Below w.heap.size w w'
theorem infoSl : (Tryz.prog.info? 57).map (fun i => (i.zero, i.size, i.bytes)) = some (some (.slice none 0 0), 1, 24) := by kernel_rfl
theorem madeSl (n : Nat) : (madeCells (#[.slice none 0 0] : Array Value) n).toList = List.replicate n (.slice none 0 0) := by
  apply List.ext_getElem?
  intro j
  by_cases h : j < n
  · have hj : j % 1 = 0 := by omega
    simp [madeCells, h, hj]
  · simp [madeCells, h]
theorem readG_no {cols now : List Col} {g : Grp} {c : Col} (hc : c ∈ now) (h : (valsOf cols g c).length ≠ g.1) : readG cols g now = none := by
  unfold readG
  have : now.all (fun c => (valsOf cols g c).length == g.1) = false := by
    rw [List.all_eq_false]
    exact ⟨c, hc, by simpa using h⟩
  rw [this]; simp
theorem readG_yes {cols now : List Col} {g : Grp} (hw : wholeG cols g = true) (h : ∀ c ∈ now, (valsOf cols g c).length = g.1) : readG cols g now = some (rowsBy cols g now) := by
  unfold readG
  have : now.all (fun c => (valsOf cols g c).length == g.1) = true := by
    rw [List.all_eq_true]
    exact fun c hc => by simpa using h c hc
  rw [this, hw]; simp
theorem valsOf_in {cols : List Col} {n : Nat} {st : List S.St} {bs : List (List UInt8)} {c : Col} (h : pos cols c.1 < cols.length) : valsOf cols (n, st, bs) c = (E.decR (kd (cols[pos cols c.1]?.getD zC)) (bs[pos cols c.1]?.getD [])).getD [] := by
  unfold valsOf; rw [if_pos h]
/-- What stays of a slice of values of one's own beside rows that are built. -/
def Apt (v : Value) (vs : List Value) : Prop := ∀ (i : Nat) u, vs[i]? = some u → ∀ q, u.ownBlock = some q → v.ownBlock ≠ some q
theorem Apt.step {v : Value} {vs : List Value} {i : Nat} {u : Value} {g n cap H : Nat} (h : Apt v vs) (hu : vs[i]? = some u) (hat : u.ownBlock = some g ∨ H ≤ g) (hv : ∀ q, v.ownBlock = some q → q < H) : Apt v (vs.set i (.slice (some ⟨g, 0, none⟩) n cap)) := by
  intro j x hx q hq
  by_cases e : j = i
  · subst e
    rw [List.getElem?_set_self (lt_of_some hu)] at hx
    injection hx with hx
    subst hx
    injection hq with hq
    subst hq
    rcases hat with ha | ha
    · exact h j u hu g ha
    · intro hvg
      have := hv g hvg
      omega
  · rw [List.getElem?_set_ne (fun y => e y.symm)] at hx
    exact h j x hx q hq

set_option maxHeartbeats 8000000 in
set_option maxRecDepth 100000 in
theorem read_any (k : Nat) (cv gv lv : Value) (cols : List Col) (gs : List Grp) (g : Grp) (now : List Col) (w : World) (hF : FilAt w cv gv (cols, gs)) (hk : gs[k]? = some g) (hn : SlE 7 C.encC w lv now) (hn8 : now.length ≤ 8) (h1 : 1 ≤ cols.length) (h8 : cols.length ≤ 8)
    (hpos : ∀ c ∈ now, pos cols c.1 < cols.length) (hsz : ∀ b ∈ g.2.2, b.length ≤ 1000000) :
    Calls Tryz.prog 23 #[.agg #[cv, gv], .int .i64 k, lv] w (ReadPost (readG cols g now) w) := by
  obtain ⟨n, st, bs⟩ := g
  obtain ⟨hC, hG⟩ := hF
  have HA := mkH (fun W hW => at_any k cv gv cols gs (n, st, bs) W (hC.up hW) (hG.up hW) hk)
  have HC := mkH hC
  have HN := mkH hn
  obtain ⟨ga, gc, rfl, _⟩ := hG.slice
  obtain ⟨la, lc, rfl, _⟩ := hn.slice
  obtain ⟨ca, cc, rfl, _⟩ := hC.slice
  have hb0 : Below w.heap.size w (w.alloc (.cells #[.slice ca cols.length cc, .slice ga gs.length gc] 29)) := (Below.refl _ _).alloc (Nat.le_refl _) _
  have HA1 := mkH (HA.out _ hb0)
  have hX := heap_alloc_new w (.cells #[.slice ca cols.length cc, .slice ga gs.length gc] 29)
  obtain ⟨f0, f1⟩ := row2 hX
  have HF0 : Hid (∀ W, Below (w.alloc (.cells #[.slice ca cols.length cc, .slice ga gs.length gc] 29)).heap.size (w.alloc (.cells #[.slice ca cols.length cc, .slice ga gs.length gc] 29)) W → W.cell? ⟨w.heap.size, 0, none⟩ = some (.slice ca cols.length cc) ∧ W.cell? ⟨w.heap.size, 1, none⟩ = some (.slice ga gs.length gc)) := mkH (fun W hW => ⟨cell_up hW f0, cell_up hW f1⟩)
  have HB0 := mkH hb0
  clear hC hG hn HA hb0 hX f0 f1
  cases hw : wholeG cols (n, st, bs) with
  | false =>
    have HR : Hid (readG cols (n, st, bs) now = none) := mkH (by unfold readG; rw [hw]; rfl)
    simp only [hw] at HA1
    go_enter Tryz.func23, Tryz.ntmps23
    go_wp2_with fail
    refine HA1.out.mono ?_
    rintro e w1 ⟨sv, bv, rfl, hsv, hbv, hb1⟩
    obtain ⟨sa, sc, rfl, _⟩ := hsv.slice
    obtain ⟨ba, bc, rfl, _⟩ := hbv.slice
    clear hsv hbv
    go_wp2
    go_ret2
    rw [HR.out]
    exact ⟨rfl, (ups HB0.out hb1).alloc (ups HB0.out hb1).size _⟩
  | true =>
    simp only [hw] at HA1
    have hwp : st.length = cols.length ∧ bs.length = cols.length ∧ 1 ≤ n ∧ n ≤ 6 := by simpa [wholeG] using hw
    obtain ⟨hst, hbl, hn1, hn6⟩ := hwp
    have HBL := mkH hbl
    have HW := mkH hw
    have HP := mkH hpos
    have HSZ := mkH hsz
    obtain ⟨iS, hiS, hzS, hz1S, hz2S⟩ := info_parts infoSl
    have HIS := mkH (And.intro hiS (And.intro hzS (And.intro hz1S hz2S)))
    obtain ⟨iV, hiV, hzV, hz1V, hz2V⟩ := info_parts E.info32
    have HIV := mkH (And.intro hiV (And.intro hzV (And.intro hz1V hz2V)))
    clear hw hpos hsz hbl hst hiS hzS hz1S hz2S hiV hzV hz1V hz2V hk
    go_enter Tryz.func23, Tryz.ntmps23
    go_wp2_with fail
    refine HA1.out.mono ?_
    rintro e w1 ⟨sv, bv, rfl, hsv, hbv, hb1⟩
    have HBV := mkH (hbv.up hb1)
    obtain ⟨sa, sc, rfl, _⟩ := hsv.slice
    obtain ⟨ba, bc, rfl, _⟩ := hbv.slice
    clear hsv hbv
    have hnn : ¬ (n : Int) < 0 := by omega
    have hs1 := hb1.size
    simp only [World.size_alloc] at hs1
    go_wp2_with (refine wpList_make_full _ rfl _ _ 23 rfl (w1.heap.size + 1) 57 iS (.slice none 0 0) 1 Tryz.underlying23 HIS.out.1 HIS.out.2.1 HIS.out.2.2.1 .i64 .i64 _ _ n rfl rfl rfl rfl ?m1 ?m2 ?m3 ?_)
    case m1 => rw [HIS.out.2.2.2]; omega
    case m2 => unfold maxLen; omega
    case m3 => simp
    intro w3 ho3 hg3
    have hG0 := heap_alloc_new w1 (.cells #[.int .i64 n, .slice sa st.length sc, .slice ba bs.length bc] 88)
    obtain ⟨g0, g1, g2, _, _, _⟩ := row3 hG0
    have hb23 : Below (w1.heap.size + 1) (w1.alloc (.cells #[.int .i64 n, .slice sa st.length sc, .slice ba bs.length bc] 88)) w3 := ⟨hg3.os, hg3.tape, hg3.output, hg3.size, fun k hk => hg3.block k (by simp; omega) (by simp)⟩
    have hb02 : Below w.heap.size w (w1.alloc (.cells #[.int .i64 n, .slice sa st.length sc, .slice ba bs.length bc] 88)) := (ups HB0.out hb1).alloc (ups HB0.out hb1).size _
    have hb12 : Below w1.heap.size w1 (w1.alloc (.cells #[.int .i64 n, .slice sa st.length sc, .slice ba bs.length bc] 88)) := (Below.refl _ _).alloc (Nat.le_refl _) _
    have HKB : Hid (∀ W, Below (w1.heap.size + 1) w3 W → (W.cell? ⟨w.heap.size, 0, none⟩ = some (.slice ca cols.length cc) ∧ W.cell? ⟨w.heap.size, 1, none⟩ = some (.slice ga gs.length gc)) ∧ (W.cell? ⟨w1.heap.size, 0, none⟩ = some (.int .i64 n) ∧ W.cell? ⟨w1.heap.size, 1, none⟩ = some (.slice sa st.length sc) ∧ W.cell? ⟨w1.heap.size, 2, none⟩ = some (.slice ba bs.length bc)) ∧ SlE 7 C.encC W (.slice ca cols.length cc) cols ∧ SlE 7 C.encC W (.slice la now.length lc) now ∧ SlE 1 encT W (.slice ba bs.length bc) bs ∧ Below w.heap.size w W) := mkH (fun W hW => by
      have hbW : Below (w1.alloc (.cells #[.int .i64 n, .slice sa st.length sc, .slice ba bs.length bc] 88)).heap.size (w1.alloc (.cells #[.int .i64 n, .slice sa st.length sc, .slice ba bs.length bc] 88)) W := by
        rw [World.size_alloc]; exact hb23.trans hW
      exact ⟨HF0.out W (ups (ups hb1 hb12) hbW), ⟨cell_up hbW g0, cell_up hbW g1, cell_up hbW g2⟩, HC.out.up (ups hb02 hbW), HN.out.up (ups hb02 hbW), HBV.out.up (ups hb12 hbW), ups hb02 hbW⟩)
    have HO3 : Hid (RI (w1.heap.size + 1) (w1.heap.size + 1) w3 (List.replicate n (.slice none 0 0)) (mixR (valsOf cols (n, st, bs)) now n 0 0)) := mkH (by
      rw [mixR_zero]
      refine RI_made ?_
      rw [← madeSl]
      exact ho3)
    clear ho3 hg3 hG0 g0 g1 g2 hb23 hb02 hb12 HF0 HC HN HBV HB0 HA1 hs1
    generalize hR : w1.heap.size = gb at *
    clear hR hb1
    go_wp2
    go_loopw [30] (fun vi wr => ∃ j : Nat, j ≤ now.length ∧ vi = .int .i64 j ∧ Hid (∀ c ∈ now.take j, (valsOf cols (n, st, bs) c).length = n) ∧ (∃ vs, Hid (RI (gb + 1) (gb + 1) wr vs (mixR (valsOf cols (n, st, bs)) now n j 0))) ∧ Hid (Below (gb + 1) w3 wr)) (fun vi _ => now.length - (intOf vi).toNat)
    case atStart => exact ⟨0, Nat.zero_le _, rfl, mkH (by simp), ⟨_, HO3⟩, mkH (Below.refl _ _)⟩
    case round =>
      obtain ⟨j, hj, rfl, hall, ⟨vs, hRI⟩, hbR⟩ := hrel
      by_cases hlt : j < now.length
      · obtain ⟨⟨c1, c2, c3, c4, c5, c6, c7⟩, hc⟩ : ∃ c, now[j]? = some c := ⟨_, List.getElem?_eq_getElem hlt⟩
        obtain ⟨⟨f0, f1⟩, ⟨g0, g1, g2⟩, hCw, hNw, hBw, hbw⟩ := HKB.out wr hbR.out
        obtain ⟨lb, lo, lc', el, _, hlb, hlcell⟩ := hNw.cons (by omega)
        injection el with el1 _ el2
        subst el1 el2
        obtain ⟨q0, q1, q2, q3, q4, q5, q6⟩ := cells7 hlcell hc
        have hbX : Below wr.heap.size wr (wr.alloc (.cells #[.int .i64 c1, .string c2, .int .i64 c3, .bool c4, .int .i64 c5, .int .i64 c6, .string c7] 47)) := (Below.refl _ _).alloc (Nat.le_refl _) _
        replace f0 := cell_up hbX f0
        replace f1 := cell_up hbX f1
        replace g0 := cell_up hbX g0
        replace g1 := cell_up hbX g1
        replace g2 := cell_up hbX g2
        have hp1 := HP.out _ (List.mem_of_getElem? hc)
        have HV := mkH (values_any (.slice ca cols.length cc) ga gs.length gc cols n sa st.length sc (.slice ba bs.length bc) bs c1 c2 c3 c4 c5 c6 c7 _ (hCw.up hbX) (hBw.up hbX) h1 h8 HBL.out hp1 HSZ.out)
        rw [← valsOf_in (n := n) (st := st) (c := (c1, c2, c3, c4, c5, c6, c7)) hp1] at HV
        have HMEM := mkH (List.mem_of_getElem? hc)
        have HCJ := mkH hc
        have hlti : (j : Int) < (now.length : Int) := by omega
        have HLN : Hid (valsOf cols (n, st, bs) (c1, c2, c3, c4, c5, c6, c7) = valsOf cols (n, st, bs) (c1, c2, c3, c4, c5, c6, c7)) := mkH rfl
        generalize hL : valsOf cols (n, st, bs) (c1, c2, c3, c4, c5, c6, c7) = L at HV
        have HL := mkH hL
        clear hL HLN hCw hNw hBw hlcell hc hp1
        by_cases hlen : L.length = n
        · rw [hlen] at HV
          have HLEN := mkH hlen
          clear hlen
          go_wp2_with fail
          refine HV.out.mono ?_
          rintro e w5 ⟨v5, rfl, ho5, hb5⟩
          obtain ⟨va, vc, rfl, hvc⟩ := E.ownsRow_slice ho5
          have hs5 := hb5.size
          simp only [World.size_alloc] at hs5
          have hgr := (hRI.out.row.lt (gb + 1) rfl).2
          have HAP : Hid (Apt (.slice va n vc) vs) := mkH (fun i u hu q hq hv => by
            obtain ⟨m, hm⟩ : ∃ m, (mixR (valsOf cols (n, st, bs)) now n j 0)[i]? = some m := ⟨_, List.getElem?_eq_getElem (by rw [← hRI.out.len]; exact lt_of_some hu)⟩
            have a1 := ((hRI.out.each i u m hu hm).lt q hq).2
            have a2 := (ho5.lt q hv).1
            simp only [World.size_alloc] at a2
            omega)
          have HRI5 := mkH (hRI.out.kept (ups hbX hb5))
          have HB35 := mkH (hbR.out.trans ((ups hbX hb5).mono (Nat.le_of_lt hgr)))
          have HO5 : Hid (w5.ownsRow (wr.heap.size + 1) 45 3 (.slice va n vc) n (E.flatV L)) := mkH (by simpa only [World.size_alloc] using ho5)
          clear ho5 hb5 hbX f0 f1 g0 g1 g2 q0 q1 q2 q3 q4 q5 q6 hbw
          go_wp2
          go_loopw [46] (fun vi wi => ∃ i : Nat, i ≤ n ∧ vi = .int .i64 i ∧ (∃ us, Hid (RI (gb + 1) (gb + 1) wi us (mixR (valsOf cols (n, st, bs)) now n j i)) ∧ Hid (Apt (.slice va n vc) us)) ∧ Hid (wi.ownsRow (wr.heap.size + 1) 45 3 (.slice va n vc) n (E.flatV L)) ∧ Hid (Below (gb + 1) w3 wi)) (fun vi _ => n - (intOf vi).toNat)
          case atStart => exact ⟨0, Nat.zero_le _, rfl, ⟨vs, HRI5, HAP⟩, HO5, HB35⟩
          case round =>
            obtain ⟨i, hi, rfl, ⟨us, hRI', hAp⟩, hO5, hb5⟩ := hrel
            by_cases hlt2 : i < n
            · have hat' := mixR_at (valsOf cols (n, st, bs)) now (j := j) hlt2
              obtain ⟨l, hl⟩ : ∃ l, (mixR (valsOf cols (n, st, bs)) now n j i)[i]? = some l := ⟨_, hat'⟩
              have HLE : Hid (l = (now.take j).map fun c => (valsOf cols (n, st, bs) c)[i]?.getD zV) := mkH (by rw [hl] at hat'; injection hat')
              have hll : l.length ≤ 8 := by rw [HLE.out]; simp; omega
              obtain ⟨v, hv⟩ : ∃ v, us[i]? = some v := ⟨_, List.getElem?_eq_getElem (by rw [hRI'.out.len, mixR_len]; exact hlt2)⟩
              obtain ⟨s0, s1, s2, s3, a, c, rfl⟩ := hRI'.out.slots hv hl
              have HROW := mkH (hRI'.out.each i _ l hv hl)
              obtain ⟨q, cap, e5, hq1, hq2⟩ := hO5.out.form (by omega)
              injection e5 with e51 _ e52
              subst e51 e52
              obtain ⟨⟨kx, nx, tx⟩, hx⟩ := E.getEx (l := L) (k := i) (by rw [HLEN.out]; exact hlt2)
              obtain ⟨t0, t1, t2⟩ := E.flatV_at hx
              have y0 : wr.cell? ⟨q, i * 3, none⟩ = some (.int .i64 kx) := (hO5.out.cellAt _ (by omega)).trans t0
              have y1 : wr.cell? ⟨q, i * 3 + 1, none⟩ = some (.int .i64 nx) := (hO5.out.cellAt _ (by omega)).trans t1
              have y2 : wr.cell? ⟨q, i * 3 + 2, none⟩ = some (.string tx) := (hO5.out.cellAt _ (by omega)).trans t2
              have HX := mkH hx
              have HV' := mkH hv
              have HL' := mkH hl
              have hin : (i : Int) < (n : Int) := by omega
              have hwr := hb5.out.size
              clear t0 t1 t2 hx hv hl hat'
              have hbb : Below wr.heap.size wr (wr.alloc (.cells #[.int .i64 kx, .int .i64 nx, .string tx] 45)) := (Below.refl _ _).alloc (Nat.le_refl _) _
              have HRIb := mkH (hRI'.out.kept hbb)
              obtain ⟨x0, x1, x2⟩ := E.cell_box (heap_alloc_new wr (.cells #[.int .i64 kx, .int .i64 nx, .string tx] 45))
              have HO5b := mkH (E.ownsRow_up hO5.out hbb)
              have HB5b := mkH (hb5.out.trans (hbb.mono (Nat.le_of_lt s2)))
              have hxb : wr.heap.size < (wr.alloc (.cells #[.int .i64 kx, .int .i64 nx, .string tx] 45)).heap.size := by simp
              have HNE := mkH (hRI'.out.ne HV'.out HL'.out)
              have HLT : Hid (∀ q, (Value.slice a l.length c).ownBlock = some q → q < wr.heap.size) := mkH (fun q hq => (HROW.out.lt q hq).2)
              go_wp2_with fail
              replace s0 := cell_up hbb s0
              replace s1 := (hbb.frozen (p := ⟨gb + 1, i, none⟩) s2).trans s1
              replace s2 : gb + 1 < (wr.alloc (.cells #[.int .i64 kx, .int .i64 nx, .string tx] 45)).heap.size := by simp; omega
              clear hbb y0 y1 y2 HROW hRI' hO5 hb5 hq1
              generalize wr.alloc (.cells #[.int .i64 kx, .int .i64 nx, .string tx] 45) = Wb at *
              generalize wr.heap.size = xb at *
              have HBW : Hid (∀ Y, Below Wb.heap.size Wb (Wb.drew.alloc Y)) := mkH (fun Y => (Below.refl _ _).drew.alloc (Nat.le_refl _) _)
              have HROWb := mkH (HRIb.out.each i _ l HV'.out HL'.out)
              have hn1 : Wb.heap.size ≠ gb + 1 := by omega
              have hn2 : Wb.heap.size ≠ xb := by omega
              go_region_law
                (first
                  | (refine step_append_lies _ (by rfl) (.tmp 56) (.tmp 58) 57 (by rfl) (gb + 1) 45 iV (.agg #[.int .i64 0, .int .i64 0, .string ⟨#[]⟩]) 3 32 Tryz.underlying57 HIV.out.1 HIV.out.2.1 HIV.out.2.2.1 HIV.out.2.2.2 rfl (by decide) (.slice a l.length c) l.length (E.flatV l) (by rfl) (E.ownsRow_up HROWb.out (HBW.out _)) ⟨Wb.heap.size, 0, none⟩ 1 1 [.int .i64 kx, .int .i64 nx, .string tx] (by rfl) rfl (fun j u hj => World.news_of_block (heap_alloc_new _ _) j u hj) (E.flatV_one [(kx, nx, tx)]) (by omega) (by unfold maxLen; omega) (by omega) (by simp; omega) _ rfl ?_
                     intro g cap w6 ho6 hg6 hat6 hlt6
                     have p0 := (hg6.cell_far ⟨gb + 1, i, none⟩ (by simp; omega) HNE.out).trans (cell_up (HBW.out _) s0)
                     have p1 := (hg6.cell_far ⟨xb, 0, none⟩ (by simp; omega) (fun e => Nat.lt_irrefl _ (HLT.out _ e.symm))).trans (cell_up (HBW.out _) x0)
                     have p2 := (hg6.cell_far ⟨xb, 1, none⟩ (by simp; omega) (fun e => Nat.lt_irrefl _ (HLT.out _ e.symm))).trans (cell_up (HBW.out _) x1)
                     have p3 := (hg6.cell_far ⟨xb, 2, none⟩ (by simp; omega) (fun e => Nat.lt_irrefl _ (HLT.out _ e.symm))).trans (cell_up (HBW.out _) x2)
                     have p4 := (hg6.frozen_far ⟨gb + 1, i, none⟩ (by simp; omega) HNE.out).trans (((HBW.out _).frozen (p := ⟨gb + 1, i, none⟩) s2).trans s1))
                  | fail)
              all_goals
                go_wp2
                have hst := (HRIb.out.kept (HBW.out (.cells #[.int .i64 kx, .int .i64 nx, .string tx] 45))).step (x := (kx, nx, tx)) HV'.out HL'.out ho6 hg6 (hat6.imp_right (fun e => Nat.le_of_eq e.symm))
                have hmx := mixR_set (valsOf cols (n, st, bs)) (x := (kx, nx, tx)) hlt2 HCJ.out (by rw [HL.out]; exact HX.out)
                rw [← HLE.out] at hmx
                rw [hmx] at hst
                have hq0 := (HO5b.out.lt q rfl).1
                have ho7 := ((E.ownsRow_up HO5b.out (HBW.out (.cells #[.int .i64 kx, .int .i64 nx, .string tx] 45))).kept hg6 (.inr (fun e => hAp.out i _ HV'.out q e.symm rfl))).kept (E.grown_set w6 (gb + 1) i (.slice (some ⟨g, 0, none⟩) (l.length + 1) cap)) (.inr (fun e => by simp [Value.ownBlock] at e; omega))
                have hb7 := (E.below_grown_own (HB5b.out.trans ((HBW.out (.cells #[.int .i64 kx, .int .i64 nx, .string tx] 45)).mono (Nat.le_of_lt s2))) (E.ownsRow_up HROWb.out (HBW.out _)) hg6 (by simp; omega)).setCell (p := ⟨gb + 1, i, none⟩) (Nat.le_refl _) (.slice (some ⟨g, 0, none⟩) (l.length + 1) cap)
                exact ⟨⟨i + 1, by omega, by go_num, ⟨_, mkH hst, mkH (hAp.out.step (H := Wb.heap.size + 1) HV'.out (hat6.imp_right (fun e => by rw [e]; simp)) (fun q' e => by simp [Value.ownBlock] at e; omega))⟩, mkH ho7, mkH hb7⟩, by simp [intOf]; omega⟩
            · have hin : ¬ (i : Int) < (n : Int) := by omega
              have ei : i = n := by omega
              have HRn : Hid (RI (gb + 1) (gb + 1) wr us (mixR (valsOf cols (n, st, bs)) now n (j + 1) 0)) := mkH (by rw [← mixR_next, ← ei]; rw [ei] at hRI' ⊢; exact hRI'.out)
              have HALL : Hid (∀ c ∈ now.take (j + 1), (valsOf cols (n, st, bs) c).length = n) := mkH (by
                intro c hc
                rw [E.take_next HCJ.out, List.mem_append, List.mem_singleton] at hc
                rcases hc with hc | rfl
                · exact hall.out c hc
                · rw [HL.out]; exact HLEN.out)
              clear ei
              go_wp2
              exact ⟨⟨j + 1, by omega, by go_num, HALL, ⟨us, HRn⟩, hb5⟩, by simp [intOf]; omega⟩
        · have hneq : ((L.length : Int) == (n : Int)) = false := by simp; omega
          have HR : Hid (readG cols (n, st, bs) now = none) := mkH (readG_no HMEM.out (by rw [HL.out]; exact hlen))
          clear hlen
          go_wp2_with fail
          refine HV.out.mono ?_
          rintro e w5 ⟨v5, rfl, ho5, hb5⟩
          obtain ⟨va, vc, rfl, hvc⟩ := E.ownsRow_slice ho5
          have hbf := ups (ups hbw hbX) hb5
          clear ho5
          go_wp2
          go_ret2
          rw [HR.out]
          exact ⟨rfl, hbf⟩
      · have hlti : ¬ (j : Int) < (now.length : Int) := by omega
        have ej : j = now.length := by omega
        have HR : Hid (readG cols (n, st, bs) now = some (rowsBy cols (n, st, bs) now)) := mkH (readG_yes HW.out (fun c hc => by
          rw [ej, List.take_length] at hall
          exact hall.out c hc))
        have HRW : Hid (SlO 0 wr (.slice (some ⟨gb + 1, 0, none⟩) n n) (rowsBy cols (n, st, bs) now)) := mkH (by
          have hm := mixR_all cols (n, st, bs) now
          simp only at hm
          rw [← hm]
          have h3 := hRI.out
          rw [ej] at h3
          have h4 := h3.owned
          rwa [mixR_len] at h4)
        have hbw := (HKB.out wr hbR.out).2.2.2.2.2
        clear ej
        go_wp2
        go_ret2
        rw [HR.out]
        exact ⟨_, rfl, HRW.out, hbw⟩
end Go.Proofs.YtodemklghajdeaaGreatDoor
