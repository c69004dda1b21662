/- What file.group does, said of every call at rows that may stand in the columns. -/
import Derived.Test.YtlnkbhbpkmnkaaaGreatDoorFX0
namespace Go.Proofs.YtlnkbhbpkmnkaaaGreatDoor.F
open Go.RowKit Go.Proofs Go.Shelf Go.Joins

theorem zeroS_ : (Tryz.prog.info? 38).map (fun i => (i.zero, i.size, i.bytes)) = some (some (.agg #[.int .i64 0, .int .i64 0, .int .i64 0, .int .i64 0, .string ⟨#[]⟩, .int .i64 0, .int .i64 0, .string ⟨#[]⟩]), 8, 80) := by kernel_rfl
theorem infoStr : (Tryz.prog.info? 9).map (fun i => (i.zero, i.size, i.bytes)) = some (some (.string ⟨#[]⟩), 1, 16) := by kernel_rfl
theorem encS_one (s : S.St) : ∀ u ∈ encS s, u.oneCell' = true := by
  intro u hu
  simp only [encS, S.cellsS, List.mem_cons, List.not_mem_nil, or_false] at hu
  rcases hu with rfl | rfl | rfl | rfl | rfl | rfl | rfl | rfl <;> rfl
def stTo (part : List (List V)) (k : Nat) : List S.St := (List.range k).map fun i => S.stOf (colOf part i)
def byTo (l : List Col) (part : List (List V)) (k : Nat) : List (List UInt8) := (List.range k).map fun i => E.encB (kd (l[i]?.getD zC)) (colOf part i)
theorem stTo_next (part : List (List V)) (k : Nat) : stTo part (k + 1) = stTo part k ++ [S.stOf (colOf part k)] := by simp [stTo, List.range_succ]
theorem byTo_next (l : List Col) (part : List (List V)) (k : Nat) : byTo l part (k + 1) = byTo l part k ++ [E.encB (kd (l[k]?.getD zC)) (colOf part k)] := by simp [byTo, List.range_succ]
theorem colOf_take {part : List (List V)} {k j : Nat} {r : List V} {x : V} (hr : part[j]? = some r) (hx : r[k]? = some x) : (colOf part k).take (j + 1) = (colOf part k).take j ++ [x] := by
  refine E.take_next ?_
  unfold colOf
  rw [List.getElem?_map, hr]
  simp [hx]

theorem keep3 {W : World} {B e z n b : Nat} {v : Value} {xs : List Value} (h : W.ownsRow B e z v n xs) (hb : b < B) (x y u : Value) : (((W.setCell ⟨b, 0, none⟩ x).setCell ⟨b, 1, none⟩ y).setCell ⟨b, 2, none⟩ u).ownsRow B e z v n xs :=
  E.ownsRow_rd h hb (E.grown_trans (E.grown_set _ _ _ _) (E.grown_trans (E.grown_set _ _ _ _) (E.grown_set _ _ _ _)))

set_option maxHeartbeats 8000000 in
set_option maxRecDepth 100000 in
theorem group_any (lv rv : Value) (l : List Col) (part : List (List V)) (w : World) (hl : SlE 7 C.encC w lv l) (hp : SlR w rv part) (h8 : l.length ≤ 8) (hp1 : 1 ≤ part.length) (hp6 : part.length ≤ 6) (hok : RowsOk l part) (hk : Kinds l) :
    Calls Tryz.prog 51 #[lv, rv] w fun e w' => ∃ sv bv, e = .returned (.agg #[.int .i64 part.length, sv, bv]) ∧ w'.ownsRow w.heap.size 38 8 sv l.length ((groupOf l part).2.1.flatMap encS) ∧ w'.ownsRow w.heap.size 9 1 bv l.length ((groupOf l part).2.2.flatMap encT) ∧ Below w.heap.size w w' := by
  have HL := mkH hl
  have HP := mkH hp
  have HOK := mkH hok
  have HK := mkH hk
  obtain ⟨la, lc, rfl, _⟩ := hl.slice
  obtain ⟨ra, rc, rfl, _⟩ := hp.slice
  obtain ⟨iV, hiV, hzV, hz1V, hz2V⟩ := info_parts E.info32
  have HIV := mkH (And.intro hiV (And.intro hzV (And.intro hz1V hz2V)))
  obtain ⟨iS, hiS, hzS, hz1S, hz2S⟩ := info_parts zeroS_
  have HIS := mkH (And.intro hiS (And.intro hzS (And.intro hz1S hz2S)))
  obtain ⟨iT, hiT, hzT, hz1T, hz2T⟩ := info_parts infoStr
  have HIT := mkH (And.intro hiT (And.intro hzT (And.intro hz1T hz2T)))
  have e29 : ∀ args w, (callFunc 13 args).run Tryz.prog w = .ok (.enter 13 args) w := enters_of Tryz.func13 (by kernel_rfl) rfl
  have HE29 := mkH e29
  clear hl hp hok hk hiV hzV hz1V hz2V hiS hzS hz1S hz2S hiT hzT hz1T hz2T e29
  obtain ⟨hs2, hX, hY, hB⟩ := two_new w (.cells #[.int .i64 0, .slice none 0 0, .slice none 0 0] 101) (.cells #[.int .i64 part.length, .slice none 0 0, .slice none 0 0] 101)
  have HX := mkH hX
  have HY := mkH hY
  have HB := mkH hB
  have HS2 := mkH hs2
  clear hX hY hB hs2
  go_enter Tryz.func51, Tryz.ntmps51
  go_wp2
  go_loopw [18] (fun vi wr => ∃ k : Nat, k ≤ l.length ∧ vi = .int .i64 k ∧ (∃ sv bv, Hid (wr.heap[w.heap.size + 1]? = some (.cells #[.int .i64 part.length, sv, bv] 101)) ∧ Hid (wr.ownsRow (w.heap.size + 2) 38 8 sv k ((stTo part k).flatMap encS)) ∧ Hid (wr.ownsRow (w.heap.size + 2) 9 1 bv k ((byTo l part k).flatMap encT))) ∧ Hid (wr.heap[w.heap.size]? = some (.cells #[.int .i64 0, .slice none 0 0, .slice none 0 0] 101)) ∧ Hid (Below w.heap.size w wr) ∧ w.heap.size + 2 ≤ wr.heap.size) (fun vi _ => l.length - (intOf vi).toNat)
  case atStart => exact ⟨0, Nat.zero_le _, rfl, ⟨_, _, HY, mkH (World.ownsRow_nil _ _ _ _), mkH (World.ownsRow_nil _ _ _ _)⟩, HX, HB, by have := HS2.out; omega⟩
  case round =>
    obtain ⟨k, hk, rfl, ⟨sv, bv, hg, hsv, hbv⟩, hres, hbR, hsz⟩ := hrel
    obtain ⟨sa, sc, rfl, _⟩ := E.ownsRow_slice hsv.out
    obtain ⟨ba, bc, rfl, _⟩ := E.ownsRow_slice hbv.out
    by_cases hlt : k < l.length
    · obtain ⟨⟨c1, c2, c3, c4, c5, c6, c7⟩, hc⟩ : ∃ c, l[k]? = some c := ⟨_, List.getElem?_eq_getElem hlt⟩
      obtain ⟨lb, lo, lc', el, _, hlb, hlcell⟩ := (HL.out.up hbR.out).cons (by omega)
      injection el with el1 _ el2
      subst el1 el2
      obtain ⟨q0, q1, q2, q3, q4, q5, q6⟩ := cells7 hlcell hc
      have HC := mkH hc
      obtain ⟨hfit, hokl⟩ := colOf_ok HOK.out hlt (HK.out k hlt)
      have ekd : kd (l[k]?.getD zC) = c3 := by rw [hc]; rfl
      rw [ekd] at hfit
      have HENC : Hid (E.encRes c3 (colOf part k) = .tuple #[.string (E.str (E.encB c3 (colOf part k))), .nilIface]) := mkH (by unfold E.encRes; rw [hfit]; simp [colOf_len, show part.length ≤ 60 by omega])
      have HBY : Hid (byTo l part (k + 1) = byTo l part k ++ [E.encB c3 (colOf part k)]) := mkH (by rw [byTo_next, ekd])
      have HOKL := mkH hokl
      have hkl : (k : Int) < (l.length : Int) := by omega
      have HBX : Hid (Below wr.heap.size wr (wr.alloc (.cells #[.int .i64 c1, .string c2, .int .i64 c3, .bool c4, .int .i64 c5, .int .i64 c6, .string c7] 31))) := mkH ((Below.refl _ _).alloc (Nat.le_refl _) _)
      have HCB := mkH (heap_alloc_new wr (.cells #[.int .i64 c1, .string c2, .int .i64 c3, .bool c4, .int .i64 c5, .int .i64 c6, .string c7] 31))
      clear hlcell hc hfit hokl ekd
      go_wp2
      clear q0 q1 q2 q3 q4 q5 q6
      rename World => wo
      have HBWO : Hid (∀ W, Below (wo.heap.size + 1) (wo.alloc (.cells #[.int .i64 c1, .string c2, .int .i64 c3, .bool c4, .int .i64 c5, .int .i64 c6, .string c7] 31)) W → Below wo.heap.size wo W) := mkH (fun W hW => ups HBX.out (by change Below _ _ _; rw [World.size_alloc]; exact hW))
      go_loopw [8, 25] (fun vv vi wi => ∃ j : Nat, j ≤ part.length ∧ vi = .int .i64 j ∧ Hid (wi.ownsRow (wo.heap.size + 1) 29 3 vv j (E.flatV ((colOf part k).take j))) ∧ Hid (Below (wo.heap.size + 1) (wo.alloc (.cells #[.int .i64 c1, .string c2, .int .i64 c3, .bool c4, .int .i64 c5, .int .i64 c6, .string c7] 31)) wi)) (fun _ vi _ => part.length - (intOf vi).toNat)
      case atStart => exact ⟨0, Nat.zero_le _, rfl, mkH (World.ownsRow_nil _ _ _ _), mkH (Below.refl _ _)⟩
      case round =>
        obtain ⟨j, hj, rfl, hvv, hbi⟩ := hrel
        obtain ⟨va, vc, rfl, _⟩ := E.ownsRow_slice hvv.out
        have hsi := hbi.out.size
        simp only [World.size_alloc] at hsi
        by_cases hjl : j < part.length
        · obtain ⟨r, hr⟩ : ∃ r, part[j]? = some r := ⟨_, List.getElem?_eq_getElem hjl⟩
          have hbw : Below w.heap.size w wr := ups hbR.out (HBWO.out _ hbi.out)
          obtain ⟨pb, po, pc, rv, ep, hpb, hcell, hSl⟩ := (HP.out.up hbw).at hr
          injection ep with ep1 _ ep2
          subst ep1 ep2
          have hrl : r.length = l.length := (HOK.out r (List.mem_of_getElem? hr)).1
          obtain ⟨xa, xc, rfl, _, hxc⟩ := hSl
          obtain ⟨xb, xo, rfl, hxb, hxcell⟩ := hxc (by intro e; rw [e] at hrl; simp at hrl; omega)
          obtain ⟨⟨vk, vn, vt⟩, hv⟩ : ∃ x, r[k]? = some x := ⟨_, List.getElem?_eq_getElem (by omega)⟩
          obtain ⟨y0, y1, y2⟩ := hxcell k _ hv
          have HTK := mkH (colOf_take hr hv)
          have hjp : (j : Int) < (part.length : Int) := by omega
          have hkr : (k : Int) < (r.length : Int) := by omega
          clear hxcell hxc hr hv hrl hbw
          go_wp2_with (at_builtin; refine wpList_append_own _ rfl _ _ 35 rfl (wo.heap.size + 1) 29 iV (.agg #[.int .i64 0, .int .i64 0, .string ⟨#[]⟩]) 3 32 Tryz.underlying35 HIV.out.1 HIV.out.2.1 HIV.out.2.2.1 HIV.out.2.2.2 rfl (by decide) _ _ _ rfl (hvv.out.alloc _) ⟨wr.heap.size, 0, none⟩ 1 1 [.int .i64 vk, .int .i64 vn, .string vt] rfl rfl (fun j u hj => World.news_of_block (heap_alloc_new _ _) j u hj) (E.flatV_one [(vk, vn, vt)]) ?d3 ?d4 ?d5 ?_)
          case d3 => unfold maxLen; omega
          case d4 => omega
          case d5 => first | omega | (simp; omega)
          intro v2 w2 ho2 hg2 _
          have hb2 := E.below_grown_own (hbi.out.alloc (by omega) _) (hvv.out.alloc _) hg2 (by simp; omega)
          go_wp2
          exact ⟨⟨j + 1, by omega, by go_num, mkH (by rw [HTK.out, E.flatV_app]; exact ho2), mkH hb2⟩, by simp [intOf]; omega⟩
        · have ej : j = part.length := by omega
          have hjp : ¬ (j : Int) < (part.length : Int) := by omega
          have HVV : Hid (wr.ownsRow (wo.heap.size + 1) 29 3 (.slice va j vc) (colOf part k).length (E.flatV (colOf part k))) := mkH (by
            have h1 := hvv.out
            rw [List.take_of_length_le (by rw [colOf_len]; omega)] at h1
            rw [colOf_len, ← ej]; exact h1)
          have HSl := mkH (E.Sl_of_owns HVV.out)
          have hj6 : j ≤ 6 := by omega
          have hbw : Below wo.heap.size wo wr := HBWO.out _ hbi.out
          have hCB := (hbi.out.block wo.heap.size (Nat.lt_succ_self _)).trans HCB.out
          have cK : wr.cell? ⟨wo.heap.size, 2, none⟩ = some (.int .i64 c3) := by simp [World.cell?, hCB]
          have HG1 := mkH ((hbw.block (w.heap.size + 1) (by omega)).trans hg.out)
          have HRES := mkH ((hbw.block w.heap.size (by omega)).trans hres.out)
          have HSV := mkH (E.ownsRow_up hsv.out hbw)
          have HBV := mkH (E.ownsRow_up hbv.out hbw)
          have HBR := mkH (ups hbR.out hbw)
          have HEN := mkH (E.encode_any c3 (.slice va j vc) (colOf part k) wr HSl.out (by rw [colOf_len]; omega) HOKL.out)
          rw [HENC.out] at HEN
          clear hvv hCB hg hres hsv hbv hbR hbi hbw ej HBX HBWO HCB
          go_wp2_with fail
          refine HEN.out.mono ?_
          rintro e w3 ⟨rfl, hb3⟩
          have HSl3 := mkH (HSl.out.up hb3)
          have HG3 := mkH ((hb3.block (w.heap.size + 1) (by omega)).trans HG1.out)
          have HRES3 := mkH ((hb3.block w.heap.size (by omega)).trans HRES.out)
          have HSV3 := mkH (E.ownsRow_up HSV.out hb3)
          have HBV3 := mkH (E.ownsRow_up HBV.out hb3)
          have HBR3 := mkH (ups HBR.out hb3)
          have hs3 := hb3.size
          clear HG1 HRES HSV HBV HBR HSl cK hb3 HVV
          obtain ⟨⟨s1, s2, ⟨k1, n1, t1⟩, ⟨k2, n2, t2⟩⟩, hst⟩ : ∃ s, S.stOf (colOf part k) = s := ⟨_, rfl⟩
          have HOF : Hid (∀ W, Below w3.heap.size w3 W → Calls Tryz.prog 13 #[.slice va j vc] W fun e w' => e = .returned (.agg #[.int .i64 s1, .int .i64 s2, .int .i64 k1, .int .i64 n1, .string t1, .int .i64 k2, .int .i64 n2, .string t2]) ∧ Below W.heap.size W w') := mkH (fun W hW => by
            have h1 := S.of_any (.slice va j vc) (colOf part k) W (HSl3.out.up hW) (by rw [colOf_len]; omega)
            rw [hst] at h1
            exact h1)
          have HSN : Hid (stTo part (k + 1) = stTo part k ++ [(s1, s2, (k1, n1, t1), (k2, n2, t2))]) := mkH (by rw [stTo_next, hst])
          have hgs : w.heap.size + 1 < w3.heap.size := by omega
          have HKP : Hid (∀ W, Below w3.heap.size w3 W → (W.cell? ⟨w.heap.size + 1, 0, none⟩ = some (.int .i64 part.length) ∧ W.cell? ⟨w.heap.size + 1, 1, none⟩ = some (.slice sa k sc) ∧ W.cell? ⟨w.heap.size + 1, 2, none⟩ = some (.slice ba k bc) ∧ W.frozen? ⟨w.heap.size + 1, 0, none⟩ = false ∧ W.frozen? ⟨w.heap.size + 1, 1, none⟩ = false ∧ W.frozen? ⟨w.heap.size + 1, 2, none⟩ = false)) := mkH (fun W hW => row3 ((hW.block (w.heap.size + 1) hgs).trans HG3.out))
          obtain ⟨_, g1, g2, _, z1, z2⟩ := HKP.out w3 (Below.refl _ _)
          clear hst g2 z2
          go_wp2_with fail
          go_region_law
            (first
              | (refine step_call1 (by rfl) 13 (.tmp 46) 35 (by rfl) (.slice va j vc) (by rfl) HE29.out _ (HOF.out _ (Below.refl _ _).drew) ?_
                 rintro e w4 ⟨rfl, hb4'⟩
                 have hb4 : Below w3.heap.size w3 w4 := ups (Below.refl _ _).drew hb4'
                 refine ⟨_, rfl, ?_⟩
                 obtain ⟨_, p1, _, _, o1, _⟩ := HKP.out w4 hb4
                 have p1a := cell_up ((Below.refl w4.heap.size w4).alloc (Nat.le_refl _) (.cells #[.int .i64 s1, .int .i64 s2, .int .i64 k1, .int .i64 n1, .string t1, .int .i64 k2, .int .i64 n2, .string t2] 38)) p1
                 have hs4 := hb4.size
                 have hn4 : w4.heap.size ≠ w.heap.size + 1 := (fun e => by rw [e] at hs4; omega))
              | (refine step_append_lies _ (by rfl) (.tmp 45) (.tmp 48) 99 (by rfl) (w.heap.size + 2) 38 iS (.agg #[.int .i64 0, .int .i64 0, .int .i64 0, .int .i64 0, .string ⟨#[]⟩, .int .i64 0, .int .i64 0, .string ⟨#[]⟩]) 8 80 Tryz.underlying99 HIS.out.1 HIS.out.2.1 HIS.out.2.2.1 HIS.out.2.2.2 rfl (by decide) (.slice sa k sc) k _ (by rfl) ((E.ownsRow_up HSV3.out hb4).alloc _) ⟨w4.heap.size, 0, none⟩ 1 1 [.int .i64 s1, .int .i64 s2, .int .i64 k1, .int .i64 n1, .string t1, .int .i64 k2, .int .i64 n2, .string t2] (by rfl) rfl (fun j u hj => World.news_of_block (heap_alloc_new _ _) j u hj) (encS_one (s1, s2, (k1, n1, t1), (k2, n2, t2))) (by omega) (by unfold maxLen; omega) (by omega) (by simp; omega) _ rfl ?_
                 intro g cap w5 ho5 hg5 hat5 hlt5
                 have HNE : Hid (some (w.heap.size + 1) ≠ (Value.slice sa k sc).ownBlock) := mkH (fun e => by have := (HSV3.out.lt _ e.symm).1; omega)
                 have r1 := (hg5.cell_far ⟨w.heap.size + 1, 1, none⟩ (by simp; omega) HNE.out).trans (cell_up ((Below.refl _ _).alloc (Nat.le_refl _) _) p1)
                 have r2 := (hg5.frozen_far ⟨w.heap.size + 1, 1, none⟩ (by simp; omega) HNE.out).trans (((Below.refl w4.heap.size w4).alloc (Nat.le_refl _) (.cells #[.int .i64 s1, .int .i64 s2, .int .i64 k1, .int .i64 n1, .string t1, .int .i64 k2, .int .i64 n2, .string t2] 38)).frozen (p := ⟨w.heap.size + 1, 1, none⟩) (by show w.heap.size + 1 < _; omega) |>.trans o1))
              | fail)
          all_goals
            have hbA : Below w3.heap.size w3 (w4.alloc (.cells #[.int .i64 s1, .int .i64 s2, .int .i64 k1, .int .i64 n1, .string t1, .int .i64 k2, .int .i64 n2, .string t2] 38)) := ups hb4 ((Below.refl _ _).alloc (Nat.le_refl _) _)
            have HSVA := mkH (E.ownsRow_up HSV3.out hbA)
            have HBVA := mkH (E.ownsRow_up HBV3.out hbA)
            have hszA : w.heap.size + 2 < (w4.alloc (.cells #[.int .i64 s1, .int .i64 s2, .int .i64 k1, .int .i64 n1, .string t1, .int .i64 k2, .int .i64 n2, .string t2] 38)).heap.size := by simp; omega
            have hA1 := (hg5.block (w.heap.size + 1) (by omega) HNE.out).trans ((hbA.block (w.heap.size + 1) hgs).trans HG3.out)
            have hA0 := (hg5.block w.heap.size (by omega) (fun e => by have := (HSV3.out.lt _ e.symm).1; omega)).trans ((hbA.block w.heap.size (by omega)).trans HRES3.out)
            have hg6 := E.grown_set w5 (w.heap.size + 1) 1 (.slice (some ⟨g, 0, none⟩) (k + 1) cap)
            have HG6 := mkH (heap_setCell_same w5 (w.heap.size + 1) 1 _ 101 (.slice (some ⟨g, 0, none⟩) (k + 1) cap) hA1)
            have HRES6 := mkH ((hg6.block w.heap.size (by have := hg5.size; omega) (by simp)).trans hA0)
            have HSV6 := mkH (ho5.kept hg6 (.inr (fun e => by have := (ho5.lt _ e).1; omega)))
            have HBV6 := mkH ((E.ownsRow_other HBVA.out HSVA.out (by decide) hg5).kept hg6 (by
              cases hob : (Value.slice ba k bc).ownBlock with
              | none => exact .inl rfl
              | some q => exact .inr (fun e => by injection e with e; have := (HBV3.out.lt q hob).1; omega)))
            have HB6 := mkH ((E.below_grown_own (ups HBR3.out hbA) (E.ownsRow_base HSVA.out (Nat.le_add_right _ 2)) hg5 (by omega)).setCell (p := ⟨w.heap.size + 1, 1, none⟩) (Nat.le_succ _) (.slice (some ⟨g, 0, none⟩) (k + 1) cap))
            have hsz6 : w.heap.size + 2 < (w5.setCell ⟨w.heap.size + 1, 1, none⟩ (.slice (some ⟨g, 0, none⟩) (k + 1) cap)).heap.size := by have := hg5.size; have := hg6.size; omega
            clear hA1 hA0 hg6 HSVA HBVA hbA hszA r1 r2 ho5 hg5 hat5 hlt5 p1 p1a o1 hb4 hb4' hs4 hn4 HNE
            generalize w5.setCell ⟨w.heap.size + 1, 1, none⟩ (.slice (some ⟨g, 0, none⟩) (k + 1) cap) = w6 at *
            simp only [List.setIfInBounds_toArray, List.set_cons_succ, List.set_cons_zero] at HG6
            obtain ⟨_, _, g2', _, _, z2'⟩ := row3 HG6.out
            generalize hsb : E.str (E.encB c3 (colOf part k)) = sb at *
            have HSB := mkH hsb
            clear hsb HOF HKP HG3 HRES3 HSV3 HBV3 HBR3 HSl3 g1 z1 HENC HOKL
            have hgsz : ¬ w.heap.size + 1 = w6.heap.size := by omega
            go_wp2_with (at_builtin; refine wpList_append_own _ rfl _ _ 46 rfl (w.heap.size + 2) 9 iT (.string ⟨#[]⟩) 1 16 Tryz.underlying46 HIT.out.1 HIT.out.2.1 HIT.out.2.2.1 HIT.out.2.2.2 rfl (by decide) _ _ _ rfl (HBV6.out.alloc _) ⟨w6.heap.size, 0, none⟩ 1 1 [.string sb] rfl rfl (fun j u hj => World.news_of_block (heap_alloc_new _ _) j u hj) (by simp [Value.oneCell']) ?d3 ?d4 ?d5 ?_)
            case d3 => unfold maxLen; omega
            case d4 => omega
            case d5 => first | omega | (simp; omega)
            intro v7 w7 ho7 hg7 _
            obtain ⟨g7, cap7, rfl, _, _⟩ := ho7.form (by omega)
            have hbA : Below w6.heap.size w6 (w6.alloc (.cells #[.string sb] 9)) := (Below.refl _ _).alloc (Nat.le_refl _) _
            have hszA : w.heap.size + 2 < (w6.alloc (.cells #[.string sb] 9)).heap.size := by simp; omega
            have HNE : Hid (some (w.heap.size + 1) ≠ (Value.slice ba k bc).ownBlock) := mkH (fun e => by have := (HBV6.out.lt _ e.symm).1; omega)
            have hA1 := (hg7.block (w.heap.size + 1) (by omega) HNE.out).trans ((hbA.block (w.heap.size + 1) (by omega)).trans HG6.out)
            have hA0 := (hg7.block w.heap.size (by omega) (fun e => by have := (HBV6.out.lt _ e.symm).1; omega)).trans ((hbA.block w.heap.size (by omega)).trans HRES6.out)
            obtain ⟨_, _, p2, _, _, o2⟩ := row3 hA1
            have hg8 := E.grown_set w7 (w.heap.size + 1) 2 (.slice (some ⟨g7, 0, none⟩) (k + 1) cap7)
            have HG8 := mkH (heap_setCell_same w7 (w.heap.size + 1) 2 _ 101 (.slice (some ⟨g7, 0, none⟩) (k + 1) cap7) hA1)
            simp only [List.setIfInBounds_toArray, List.set_cons_succ, List.set_cons_zero] at HG8
            have HRES8 := mkH ((hg8.block w.heap.size (by have := hg7.size; omega) (by simp)).trans hA0)
            have HBV8 := mkH (ho7.kept hg8 (.inr (fun e => by have := (ho7.lt _ e).1; omega)))
            have HSV8 := mkH ((E.ownsRow_other (E.ownsRow_up HSV6.out hbA) (HBV6.out.alloc (.cells #[.string sb] 9)) (by decide) hg7).kept hg8 (.inr (fun e => by have := (HSV6.out.lt _ e).1; omega)))
            have HB8 := mkH ((E.below_grown_own (ups HB6.out hbA) (E.ownsRow_base (HBV6.out.alloc (.cells #[.string sb] 9)) (Nat.le_add_right _ 2)) hg7 (by omega)).setCell (p := ⟨w.heap.size + 1, 2, none⟩) (Nat.le_succ _) (.slice (some ⟨g7, 0, none⟩) (k + 1) cap7))
            have hsz8 : w.heap.size + 2 ≤ (w7.setCell ⟨w.heap.size + 1, 2, none⟩ (.slice (some ⟨g7, 0, none⟩) (k + 1) cap7)).heap.size := by have := hg7.size; have := hg8.size; omega
            clear hA1 hA0 hg8 hg7 ho7 hbA hszA
            go_wp2
            refine ⟨⟨k + 1, by omega, by go_num, ⟨_, _, HG8, mkH ?_, mkH ?_⟩, HRES8, HB8, hsz8⟩, by simp [intOf]; omega⟩
            · rw [HSN.out, List.flatMap_append]; exact HSV8.out
            · rw [HBY.out, List.flatMap_append]
              have e : [E.encB c3 (colOf part k)].flatMap encT = [.string sb] := by rw [← HSB.out]; rfl
              rw [e]; exact HBV8.out
    · have ek : k = l.length := by omega
      have hkl : ¬ (k : Int) < (l.length : Int) := by omega
      obtain ⟨g0, g1, g2, _, _, _⟩ := row3 hg.out
      obtain ⟨y0, y1, y2, z0, z1, z2⟩ := row3 hres.out
      have HSVf : Hid (wr.ownsRow (w.heap.size + 2) 38 8 (.slice sa k sc) l.length ((groupOf l part).2.1.flatMap encS)) := mkH (by have h1 := hsv.out; rw [ek] at h1 ⊢; exact h1)
      have HBVf : Hid (wr.ownsRow (w.heap.size + 2) 9 1 (.slice ba k bc) l.length ((groupOf l part).2.2.flatMap encT)) := mkH (by have h1 := hbv.out; rw [ek] at h1 ⊢; exact h1)
      clear ek hsv hbv
      go_wp2
      refine bodyPost_ret (v := .agg #[.int .i64 part.length, .slice sa k sc, .slice ba k bc]) (by simp [results, Tryz.results51, go_sem, y0, y1, y2]) rfl ⟨_, _, rfl, ?_, ?_, ?_⟩
      · exact E.ownsRow_base (keep3 HSVf.out (by omega) _ _ _) (Nat.le_add_right _ 2)
      · exact E.ownsRow_base (keep3 HBVf.out (by omega) _ _ _) (Nat.le_add_right _ 2)
      · exact ((hbR.out.setCell (p := ⟨w.heap.size, 0, none⟩) (Nat.le_refl _) _).setCell (p := ⟨w.heap.size, 1, none⟩) (Nat.le_refl _) _).setCell (p := ⟨w.heap.size, 2, none⟩) (Nat.le_refl _) _
end Go.Proofs.YtlnkbhbpkmnkaaaGreatDoor.F
