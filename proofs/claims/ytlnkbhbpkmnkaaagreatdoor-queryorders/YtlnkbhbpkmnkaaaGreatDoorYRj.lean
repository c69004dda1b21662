/- What query.alike does, said of every call. -/
import Derived.Test.YtlnkbhbpkmnkaaaGreatDoorYRi
import Derived.Shelf.SlSortCmp.QuietGrown
import Derived.BigQuiet
namespace Go.Proofs.YtlnkbhbpkmnkaaaGreatDoor.F
open Go.RowKit Go.Proofs Go.Shelf Go.Joins
open Go.Proofs.YtlnkbhbpkmnkaaaGreatDoor.Stb (ss)

theorem SlR.sub {w : World} {g o n c : Nat} {rows : List (List V)} (h : SlR w (.slice (some ⟨g, o, none⟩) n c) rows) (hn : 0 < rows.length) {i j : Nat} (hi : i ≤ j) (hj : j ≤ rows.length) : SlR w (.slice (some ⟨g, o + i, none⟩) (j - i) (c - i)) ((rows.drop i).take (j - i)) := by
  obtain ⟨vs, h1, h2, h3⟩ := h
  obtain ⟨a, c', e, hc, hl⟩ := h1
  injection e with e1 e2 e3
  subst e3
  obtain ⟨b, off, e4, hb, hcell⟩ := hl (by intro e; rw [e] at h2; simp at h2; omega)
  rw [e4] at e1
  injection e1 with e1
  injection e1 with e5 e6
  subst e5 e6
  refine ⟨(vs.drop i).take (j - i), ⟨_, c - i, ?_, ?_, fun _ => ⟨g, o + i, rfl, hb, fun k x hk q u hu => ?_⟩⟩, ?_, fun k x r hx hr => ?_⟩
  · rw [List.length_take, List.length_drop]
    congr 1
    omega
  · rw [List.length_take, List.length_drop]
    omega
  · have hk' : k < j - i := by
      have := lt_of_some hk
      rw [List.length_take] at this
      omega
    rw [List.getElem?_take_of_lt hk', List.getElem?_drop] at hk
    have := hcell (i + k) x hk q u hu
    rw [show o + i + k * 1 + q = o + (i + k) * 1 + q by omega]
    exact this
  · rw [List.length_take, List.length_drop, List.length_take, List.length_drop, h2]
  · have hk' : k < j - i := by
      have := lt_of_some hx
      rw [List.length_take] at this
      omega
    rw [List.getElem?_take_of_lt hk', List.getElem?_drop] at hx hr
    exact h3 _ x r hx hr
theorem drop_consA {α : Type} {l : List α} {k : Nat} {x : α} (h : l[k]? = some x) : l.drop k = x :: l.drop (k + 1) := by
  have hk := lt_of_some h
  rw [List.getElem?_eq_getElem hk] at h
  injection h with h
  rw [List.drop_eq_getElem_cons hk, h]
theorem acc_snoc {α : Type} {R : List α} {a k : Nat} {x : α} (hx : R[k]? = some x) (ha : a ≤ k) : (R.drop a).take (k + 1 - a) = (R.drop a).take (k - a) ++ [x] := by
  rw [show k + 1 - a = (k - a) + 1 by omega, S.take_one_more (k := k - a) (x := x) (by rw [List.getElem?_drop, show a + (k - a) = k by omega]; exact hx)]
theorem cut_last (f : List V → List V → Int) {R : List (List V)} {a k : Nat} {x : List V} (hx : R[k]? = some x) (ha : a ≤ k) (hl : k + 1 = R.length) : cutA f ((R.drop a).take (k - a)) (R.drop k) = [(R.drop a).take (k + 1 - a)] := by
  rw [acc_snoc hx ha, drop_consA hx, show R.drop (k + 1) = [] from List.drop_eq_nil_of_le (by omega)]
  rfl
theorem cut_step (f : List V → List V → Int) {R : List (List V)} {a k : Nat} {x y : List V} (hx : R[k]? = some x) (hy : R[k + 1]? = some y) (ha : a ≤ k) : cutA f ((R.drop a).take (k - a)) (R.drop k) = if f x y = 0 then cutA f ((R.drop a).take (k + 1 - a)) (R.drop (k + 1)) else (R.drop a).take (k + 1 - a) :: cutA f [] (R.drop (k + 1)) := by
  rw [acc_snoc hx ha, drop_consA hx, drop_consA hy]
  rfl
theorem infoSlR : (Tryz.prog.info? 23).map (fun i => (i.zero, i.size, i.bytes)) = some (some (.slice none 0 0), 1, 24) := by kernel_rfl
/-- How two rows stand, asked by the function value. -/
theorem stand_at (gb : Nat) (os : List (Nat × Bool)) (v1 v2 : Value) (a b : List V) (w : World) (h1 : E.Sl w v1 a) (h2 : E.Sl w v2 b) (hs : StAt w gb os) (hp : ∀ x ∈ os, x.1 ≤ 1000000) (hl : os.length ≤ 1000) :
    Calls Tryz.prog 82 #[v1, v2, .pointer (some ⟨gb, 0, none⟩)] w fun e w' => e = .returned (.int .i64 (stC os a b)) ∧ Gr w w' := by
  obtain ⟨ov, ho, hg⟩ := hs
  exact standing1 gb v1 v2 ov os a b w h1 h2 ho hg hp hl
set_option maxHeartbeats 8000000 in
set_option maxRecDepth 100000 in
theorem alike_any (rv : Value) (rows : List (List V)) (gb : Nat) (os : List (Nat × Bool)) (w : World) (hr : SlR w rv rows) (hl : rows.length ≤ 1000) (hs : StAt w gb os) (hp : ∀ x ∈ os, x.1 ≤ 1000000) (hol : os.length ≤ 1000) :
    Calls Tryz.prog 78 #[rv, stF gb] w fun e w' => ∃ v, e = .returned v ∧ SlP w' v (cutA (stC os) [] (ss (ltB os) rows)) ∧ Below w.heap.size w w' := by
  have HC := mkH (cloneS_any rv rows w hr (by omega))
  obtain ⟨ra, rc, rfl, _⟩ := hr.slice
  have HS := mkH hs
  have HP := mkH (And.intro hp hol)
  obtain ⟨iS, hiS, hzS, hz1S, hz2S⟩ := info_parts infoSlR
  have HIV := mkH (And.intro hiS (And.intro hzS (And.intro hz1S hz2S)))
  have hgw := hs.lt
  clear hr hs hp hol hiS hzS hz1S hz2S
  unfold stF
  go_enter Tryz.func78, Tryz.ntmps78
  go_wp2_with fail
  refine HC.out.mono ?_
  rintro e w1 ⟨ca, cc, vs, rfl, hv1, ho1, he1, hb1⟩
  have key : Calls Tryz.prog 43 #[.slice ca rows.length cc, .func (.func 82) #[] #[.pointer (some ⟨gb, 0, none⟩)]] w1 fun e w' => e = .returned (.tuple #[]) ∧ SlR w' (.slice ca rows.length cc) (ss (ltB os) rows) ∧ Below w.heap.size w w' ∧ StAt w' gb os ∧ (0 < rows.length → ∃ g, ca = some ⟨g, 0, none⟩) := by
    rcases own_forms ho1 with ⟨e1, e0⟩ | ⟨g, c', e1, hgb, hg, hc1, hc2⟩
    · injection e1 with e1 _ e3
      subst e1 e3
      have e0' := List.eq_nil_of_length_eq_zero e0
      subst e0'
      refine (sort0_any gb w1).mono ?_
      rintro e w' ⟨rfl, rfl⟩
      exact ⟨rfl, ⟨[], ⟨none, 0, rfl, Nat.le_refl _, fun h => absurd rfl h⟩, rfl, fun j x r hx => by simp at hx⟩, hb1, HS.out.up hb1, fun h => absurd h (by decide)⟩
    · injection e1 with e1 _ e3
      subst e1 e3
      refine (sortB_any g cc gb os vs rows w1 hv1 (own_at ho1) he1 (by omega) hc1 (HS.out.up hb1) (by omega) HP.out.1 HP.out.2).mono ?_
      rintro e w' ⟨rfl, h1, h2, h3⟩
      exact ⟨rfl, h1, hb1.trans (h2.mono hgb), h3, fun _ => ⟨g, rfl⟩⟩
  have HK := mkH key
  clear key ho1 he1 hb1 hv1 HC HS
  go_wp2_with fail
  refine HK.out.mono ?_
  rintro e w2 ⟨rfl, hr2, hb2, hs2, hg2⟩
  have HR2 := mkH hr2
  have HB2 := mkH hb2
  have HS2 := mkH hs2
  have HG2 := mkH hg2
  clear hr2 hb2 hs2 hg2 HK
  have hmx : Tryz.prog.follows .mixedOrders = true := by kernel_rfl
  obtain ⟨R, hR⟩ : ∃ R, ss (ltB os) rows = R := ⟨_, rfl⟩
  have HSL : Hid (R.length = rows.length) := mkH (by rw [← hR]; exact Stb.ss_len _ _)
  rw [hR] at HR2
  have HRQ := mkH hR
  clear hR
  obtain ⟨n, hn⟩ : ∃ n, rows.length = n := ⟨_, rfl⟩
  rw [hn] at HR2 HG2 HSL hl
  rw [hn]
  clear hn
  go_wp2_with fail
  go_loopw [6, 7, 16] (fun vp vf vi wr => ∃ (k f m : Nat) (a : Option Addr) (c : Nat) (us : List Value) (P : List (List (List V))), k ≤ n ∧ f ≤ k ∧ m ≤ k ∧ vi = .int .i64 k ∧ vf = .int .i64 f ∧ vp = .slice a m c ∧ us.length = m ∧ P.length = m ∧ Hid (wr.ownsRow w2.heap.size 23 1 (.slice a m c) m us) ∧ Hid (∀ (j : Nat) x g, us[j]? = some x → P[j]? = some g → SlR w2 x g) ∧ Hid (P ++ cutA (stC os) ((R.drop f).take (k - f)) (R.drop k) = cutA (stC os) [] R) ∧ Hid (k = n → f = k) ∧ Hid (Below w2.heap.size w2 wr)) (fun _ _ vi _ => n - (intOf vi).toNat)
  case atStart => exact ⟨0, 0, 0, none, 0, [], [], Nat.zero_le _, Nat.le_refl _, Nat.le_refl _, rfl, rfl, rfl, rfl, rfl, mkH (World.ownsRow_nil _ _ _ _), mkH (fun j x g hx => by simp at hx), mkH rfl, mkH (fun h => rfl), mkH (Below.refl _ _)⟩
  case round =>
    obtain ⟨k, f, m, a, c, us, P, hk, hfk, hmk, rfl, rfl, rfl, hus, hP, HO, HE, HC, HZ, HB⟩ := hrel
    by_cases hlt : k < n
    · obtain ⟨x, hx⟩ : ∃ x, R[k]? = some x := ⟨_, List.getElem?_eq_getElem (by have := HSL.out; omega)⟩
      have hkn : (k : Int) < (n : Int) := by omega
      obtain ⟨g, hg⟩ := HG2.out (by omega)
      subst hg
      have HUS := mkH (And.intro hus hP)
      clear hus hP
      have hcc : n ≤ cc := by
        obtain ⟨a', c', e, h⟩ := HR2.out.slice
        injection e with _ _ e3
        have := HSL.out
        omega
      have hcf : ¬ cc = f := by omega
      have hcf2 : ¬ f = cc := by omega
      have hw1 : wrap64 ((k : Int) + 1) = (k : Int) + 1 := by unfold wrap64; omega
      by_cases hlast : k + 1 = n
      · have hb1 : ((k : Int) + 1 == (n : Int)) = true := by simp; omega
        have HST2 : Hid (cutA (stC os) ((R.drop f).take (k - f)) (R.drop k) = (R.drop f).take (k + 1 - f) :: cutA (stC os) [] (R.drop (k + 1))) := mkH (by
          rw [cut_last (stC os) hx hfk (by have := HSL.out; omega), show R.drop (k + 1) = [] from List.drop_eq_nil_of_le (by have := HSL.out; omega)]
          rfl)
        clear hlast
        go_upto_region 8 with fail
        refine wp_region_quiet_grown (by assumption) (by kernel_rfl) ?_
        repeat (go_big_quiet_step (fail))
        refine wpQuiet_nil ?_
        intro w3 hw3
        have hgr : Gr wr w3 := by
          obtain ⟨⟨nq, osq⟩, h⟩ := hw3
          exact ⟨nq, osq, h⟩
        have HB3 := mkH (ups HB.out hgr.below)
        have HO3 := mkH (E.ownsRow_up HO.out hgr.below)
        clear hgr hw3
        have hsz3 : w2.heap.size ≤ w3.heap.size := HB3.out.size
        have HSUB : Hid (SlR w2 (.slice (some ⟨g, f, none⟩) (k + 1 - f) (cc - f)) ((R.drop f).take (k + 1 - f))) := mkH (by
          have h := HR2.out.sub (by have := HSL.out; omega) (i := f) (j := k + 1) (by omega) (by have := HSL.out; omega)
          rwa [Nat.zero_add] at h)
        have HA4 : Hid (Below w3.heap.size w3 (w3.alloc (.cells #[.slice (some ⟨g, f, none⟩) (k + 1 - f) (cc - f)] 23))) := mkH ((Below.refl _ _).alloc (Nat.le_refl _) _)
        go_wp2_with (at_builtin; refine wpList_append_own _ rfl _ _ 82 rfl w2.heap.size 23 iS (.slice none 0 0) 1 24 Tryz.underlying82 HIV.out.1 HIV.out.2.1 HIV.out.2.2.1 HIV.out.2.2.2 rfl (by decide) (.slice a m c) m us rfl (E.ownsRow_up HO3.out HA4.out) ⟨w3.heap.size, 0, none⟩ 1 1 [.slice (some ⟨g, f, none⟩) (k + 1 - f) (cc - f)] rfl rfl (fun j u hj => World.news_of_block (heap_alloc_new _ _) j u hj) (by intro u hu; simp at hu; subst hu; rfl) (by unfold maxLen; omega) (by omega) (Nat.le_trans hsz3 HA4.out.size) ?_; intro v5 w5 hown5 hg5 _; have HO5 := mkH hown5; have HG5 := mkH hg5; clear hown5 hg5)
        obtain ⟨a', c', rfl, _⟩ := own_slice HO5.out
        refine ⟨⟨k + 1, k + 1, m + 1, a', c', us ++ [.slice (some ⟨g, f, none⟩) (k + 1 - f) (cc - f)], P ++ [(R.drop f).take (k + 1 - f)], hlt, Nat.le_refl _, by omega, by go_num, by go_num, rfl, by rw [List.length_append, HUS.out.1]; rfl, by rw [List.length_append, HUS.out.2]; rfl, HO5, mkH ?_, mkH ?_, mkH (fun _ => rfl), mkH ?_⟩, by simp [intOf]; omega⟩
        · intro j x' g' hx' hg'
          by_cases hj : j < us.length
          · rw [List.getElem?_append_left hj] at hx'
            rw [List.getElem?_append_left (by have := HUS.out; omega)] at hg'
            exact HE.out j x' g' hx' hg'
          · rw [List.getElem?_append_right (by omega)] at hx'
            rw [List.getElem?_append_right (by have := HUS.out; omega)] at hg'
            have hj' : j = us.length := by
              have := lt_of_some hx'
              simp at this
              omega
            subst hj'
            rw [HUS.out.2, ← HUS.out.1] at hg'
            simp at hx' hg'
            subst hx' hg'
            exact HSUB.out
        · rw [← HC.out, HST2.out, Nat.sub_self]
          simp
        · exact (ups HB3.out HA4.out).grown HG5.out (Nat.le_trans hsz3 HA4.out.size) (fun j hj => own_blk HO3.out hj)
      · have hb1 : ((k : Int) + 1 == (n : Int)) = false := by simp; omega
        have hk1 : k + 1 < n := by omega
        have hk2 : (k : Int) + 1 < (n : Int) := by omega
        have hk3 : (0 : Int) ≤ (k : Int) + 1 := by omega
        obtain ⟨y, hy⟩ : ∃ y, R[k + 1]? = some y := ⟨_, List.getElem?_eq_getElem (by have := HSL.out; omega)⟩
        obtain ⟨b1, o1, d1, xv, e1, hb, p1, s1⟩ := (HR2.out.up HB.out).at hx
        obtain ⟨b2, o2, d2, yv, e2, _, p2, s2⟩ := (HR2.out.up HB.out).at hy
        injection e1 with e1 en ec
        clear en ec
        injection e1 with e1
        injection e1 with e11 e12
        injection e2 with e2 en ec
        clear en ec
        injection e2 with e2
        injection e2 with e21 e22
        subst e11 e12 e21 e22
        have l1 := Go.cell_grown (a := ⟨g, 0 + k, none⟩) hb p1
        have l2 := Go.cell_grown (a := ⟨g, 0 + (k + 1), none⟩) hb p2
        rw [Nat.zero_add] at l1 l2
        have HCM : Hid (∀ n os', Calls Tryz.prog 82 #[xv, yv, .pointer (some ⟨gb, 0, none⟩)] (Go.Sort.grow (wr.drewN n) os') fun e w' => e = .returned (.int .i64 (stC os x y)) ∧ ∃ q os'', w' = Go.Sort.grow ((Go.Sort.grow (wr.drewN n) os').drewN q) os'') := mkH (fun n os' => by
          have hgr : Gr wr (Go.Sort.grow (wr.drewN n) os') := ⟨n, os', rfl⟩
          exact stand_at gb os xv yv x y _ (s1.up hgr.below) (s2.up hgr.below) ((HS2.out.up HB.out).up hgr.below) HP.out.1 HP.out.2)
        obtain ⟨xa, xc, rfl, _⟩ := s1
        obtain ⟨ya, yc, rfl, _⟩ := s2
        have HST := mkH (cut_step (stC os) hx hy hfk)
        generalize stC os x y = cv at *
        clear p1 p2 hx hy
        go_upto_region 8 with fail
        by_cases hz : cv = 0
        · have HST2 := mkH (HST.out.trans (if_pos hz))
          subst hz
          refine wp_region_quiet_grown (by assumption) (by kernel_rfl) ?_
          repeat (go_big_quiet_step (exact Calls.grown_of (HCM.out _ _)))
          refine wpQuiet_nil ?_
          intro w3 hw3
          have hgr : Gr wr w3 := by
            obtain ⟨⟨nq, osq⟩, h⟩ := hw3
            exact ⟨nq, osq, h⟩
          have HB3 := mkH (ups HB.out hgr.below)
          have HO3 := mkH (E.ownsRow_up HO.out hgr.below)
          clear hgr hw3
          clear l1 l2 HCM HB HO
          go_wp2
          exact ⟨⟨k + 1, f, m, a, c, us, P, hlt, by omega, by omega, by go_num, rfl, rfl, HUS.out.1, HUS.out.2, HO3, HE, mkH (by rw [← HST2.out]; exact HC.out), mkH (fun h => absurd h hlast), HB3⟩, by simp [intOf]; omega⟩
        · have HST2 := mkH (HST.out.trans (if_neg hz))
          have hzb : (cv == 0) = false := by simpa using hz
          refine wp_region_quiet_grown (by assumption) (by kernel_rfl) ?_
          repeat (go_big_quiet_step (exact Calls.grown_of (HCM.out _ _)))
          refine wpQuiet_nil ?_
          intro w3 hw3
          have hgr : Gr wr w3 := by
            obtain ⟨⟨nq, osq⟩, h⟩ := hw3
            exact ⟨nq, osq, h⟩
          have HB3 := mkH (ups HB.out hgr.below)
          have HO3 := mkH (E.ownsRow_up HO.out hgr.below)
          clear hgr hw3
          clear l1 l2 HCM HB HO
          have hsz3 : w2.heap.size ≤ w3.heap.size := HB3.out.size
          have HSUB : Hid (SlR w2 (.slice (some ⟨g, f, none⟩) (k + 1 - f) (cc - f)) ((R.drop f).take (k + 1 - f))) := mkH (by
            have h := HR2.out.sub (by have := HSL.out; omega) (i := f) (j := k + 1) (by omega) (by have := HSL.out; omega)
            rwa [Nat.zero_add] at h)
          have HA4 : Hid (Below w3.heap.size w3 (w3.alloc (.cells #[.slice (some ⟨g, f, none⟩) (k + 1 - f) (cc - f)] 23))) := mkH ((Below.refl _ _).alloc (Nat.le_refl _) _)
          go_wp2_with (at_builtin; refine wpList_append_own _ rfl _ _ 82 rfl w2.heap.size 23 iS (.slice none 0 0) 1 24 Tryz.underlying82 HIV.out.1 HIV.out.2.1 HIV.out.2.2.1 HIV.out.2.2.2 rfl (by decide) (.slice a m c) m us rfl (E.ownsRow_up HO3.out HA4.out) ⟨w3.heap.size, 0, none⟩ 1 1 [.slice (some ⟨g, f, none⟩) (k + 1 - f) (cc - f)] rfl rfl (fun j u hj => World.news_of_block (heap_alloc_new _ _) j u hj) (by intro u hu; simp at hu; subst hu; rfl) (by unfold maxLen; omega) (by omega) (Nat.le_trans hsz3 HA4.out.size) ?_; intro v5 w5 hown5 hg5 _; have HO5 := mkH hown5; have HG5 := mkH hg5; clear hown5 hg5)
          obtain ⟨a', c', rfl, _⟩ := own_slice HO5.out
          refine ⟨⟨k + 1, k + 1, m + 1, a', c', us ++ [.slice (some ⟨g, f, none⟩) (k + 1 - f) (cc - f)], P ++ [(R.drop f).take (k + 1 - f)], hlt, Nat.le_refl _, by omega, by go_num, by go_num, rfl, by rw [List.length_append, HUS.out.1]; rfl, by rw [List.length_append, HUS.out.2]; rfl, HO5, mkH ?_, mkH ?_, mkH (fun _ => rfl), mkH ?_⟩, by simp [intOf]; omega⟩
          · intro j x' g' hx' hg'
            by_cases hj : j < us.length
            · rw [List.getElem?_append_left hj] at hx'
              rw [List.getElem?_append_left (by have := HUS.out; omega)] at hg'
              exact HE.out j x' g' hx' hg'
            · rw [List.getElem?_append_right (by omega)] at hx'
              rw [List.getElem?_append_right (by have := HUS.out; omega)] at hg'
              have hj' : j = us.length := by
                have := lt_of_some hx'
                simp at this
                omega
              subst hj'
              rw [HUS.out.2, ← HUS.out.1] at hg'
              simp at hx' hg'
              subst hx' hg'
              exact HSUB.out
          · rw [← HC.out, HST2.out, Nat.sub_self]
            simp
          · exact (ups HB3.out HA4.out).grown HG5.out (Nat.le_trans hsz3 HA4.out.size) (fun j hj => own_blk HO3.out hj)
    · have hkn : ¬ (k : Int) < (n : Int) := by omega
      have hke : k = n := by omega
      have HK := mkH hke
      have HUS := mkH (And.intro hus hP)
      clear hke hus hP
      go_wp2
      go_ret
      have hC := HC.out
      have hf := HZ.out HK.out
      rw [hf, HK.out, ← HSL.out, List.drop_length, Nat.sub_self] at hC
      have hC2 : P = cutA (stC os) [] R := by simpa [cutA] using hC
      rw [HRQ.out, ← hC2]
      refine ⟨_, rfl, ⟨us, ?_, by rw [HUS.out.1, HUS.out.2], fun j x g hx hg => (HE.out j x g hx hg).up HB.out⟩, ups HB2.out HB.out⟩
      have h := HO.out
      rw [← flatR us] at h
      exact SlE.of_own (k := 1) (enc := encR) (fun _ => rfl) h HUS.out.1.symm
end Go.Proofs.YtlnkbhbpkmnkaaaGreatDoor.F
