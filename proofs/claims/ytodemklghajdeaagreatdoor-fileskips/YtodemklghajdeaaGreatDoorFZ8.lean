/- What file.read does, said of every call. -/
import Derived.Test.YtodemklghajdeaaGreatDoorFZ7
import Derived.Test.YtodemklghajdeaaGreatDoorFY3
namespace Go.Proofs.YtodemklghajdeaaGreatDoor
open Go.RowKit Go.Proofs Go.Shelf Go.Joins

theorem upTo_le {most : Nat} (s : E.St) : (E.upToR most s).1 ≤ most := by
  unfold E.upToR
  split
  · exact Nat.zero_le _
  · rename_i h
    simp only [E.badR, Bool.or_eq_true, decide_eq_true_eq, not_or] at h
    omega
def colR1 (s : E.St) : Col × E.St := (bareC (E.upToR 1099511627776 s).1 (E.upToR 2 (E.upToR 1099511627776 s).2).1, (E.upToR 2 (E.upToR 1099511627776 s).2).2)
theorem rdCols_snoc : ∀ (k : Nat) (s : E.St), rdCols (k + 1) s = ((rdCols k s).1 ++ [(colR1 (rdCols k s).2).1], (colR1 (rdCols k s).2).2)
  | 0, _ => rfl
  | k + 1, s => by
    have h := rdCols_snoc k (E.upToR 2 (E.upToR 1099511627776 s).2).2
    rw [rdCols, h]
    rfl
theorem rdCols_len : ∀ (k : Nat) (s : E.St), (rdCols k s).1.length = k
  | 0, _ => rfl
  | k + 1, s => by rw [rdCols]; simp [rdCols_len k]
theorem rdGroups_snoc (l : List Col) : ∀ (k : Nat) (s : E.St), rdGroups l (k + 1) s = ((rdGroups l k s).1 ++ [(rdGroup l (rdGroups l k s).2).1], (rdGroup l (rdGroups l k s).2).2)
  | 0, _ => rfl
  | k + 1, s => by
    have h := rdGroups_snoc l k (rdGroup l s).2
    rw [rdGroups, h]
    rfl
theorem rdGroups_len (l : List Col) : ∀ (k : Nat) (s : E.St), (rdGroups l k s).1.length = k
  | 0, _ => rfl
  | k + 1, s => by rw [rdGroups]; simp [rdGroups_len l k]
theorem rdCells_short : ∀ (l : List Col) {s : E.St} {n : Nat}, s.1.length ≤ n → (rdCells l s).2.1.length ≤ n ∧ ∀ b ∈ (rdCells l s).1, b.length ≤ n
  | [], _, _, h => ⟨h, by simp [rdCells]⟩
  | _ :: l, s, n, h => by
    obtain ⟨h1, h2, _⟩ := cellR_short h
    obtain ⟨h3, h4⟩ := rdCells_short l h2
    refine ⟨h3, fun b hb => ?_⟩
    simp only [rdCells, List.mem_cons] at hb
    rcases hb with rfl | hb
    · exact h1
    · exact h4 b hb
theorem rdGroup_short (l : List Col) {s : E.St} {n : Nat} (h : s.1.length ≤ n) : (rdGroup l s).2.1.length ≤ n := (rdCells_short l (upTo_short h)).1
theorem rdGroup_len (l : List Col) (s : E.St) : (rdGroup l s).1.2.1.length = l.length ∧ (rdGroup l s).1.2.2.length = l.length := by
  have h := rdCells_len l (E.upToR 6 s).2
  exact ⟨by simp [rdGroup, statsOf, h], by simp [rdGroup, h]⟩
theorem grown_row {w W : World} {B e z n b : Nat} {v : Value} {xs : List Value} (h : w.ownsRow B e z v n xs) (hb : b < B) (hg : w.grownBy W (some b)) : W.ownsRow B e z v n xs := E.ownsRow_rd h hb hg

set_option maxHeartbeats 8000000 in
set_option maxRecDepth 100000 in
theorem read_bytes (rb : Nat) (s : List UInt8) (w : World) (hr : E.RdT 76 [] w rb (s, false)) (hs : s.length ≤ 1000000) :
    Calls Tryz.prog 32 #[.pointer (some ⟨rb, 0, none⟩)] w fun e w' => ∃ cv gv, e = .returned (.agg #[cv, gv]) ∧ FilAt w' cv gv (rdFile s).1 ∧ E.RdT 76 [] w' rb (rdFile s).2 ∧ w.grownBy w' (some rb) := by
  obtain ⟨hs2, hX, hY, hB⟩ := two_new w (.cells #[.slice none 0 0, .slice none 0 0] 29) (.cells #[.slice none 0 0, .slice none 0 0] 29)
  have HU := mkH (E.upToT_any 76 [] rb 8 (s, false) _ (hr.up hB) hs (by omega) (by omega))
  have hrl := hr.lt
  have hN8 := upTo_le (most := 8) (s, false)
  have hsA : (E.upToR 8 (s, false)).2.1.length ≤ 1000000 := upTo_short hs
  have HRF : Hid (rdFile s = (((rdCols (E.upToR 8 (s, false)).1 (E.upToR 8 (s, false)).2).1, (rdTail (rdCols (E.upToR 8 (s, false)).1 (E.upToR 8 (s, false)).2).1 (rdCols (E.upToR 8 (s, false)).1 (E.upToR 8 (s, false)).2).2).1), (rdTail (rdCols (E.upToR 8 (s, false)).1 (E.upToR 8 (s, false)).2).1 (rdCols (E.upToR 8 (s, false)).1 (E.upToR 8 (s, false)).2).2).2)) := mkH rfl
  simp only [Int.cast_ofNat_Int] at hN8
  generalize (E.upToR 8 (s, false)).1 = N at *
  generalize (E.upToR 8 (s, false)).2 = sA at *
  obtain ⟨iC, hiC, hzC, hz1C, hz2C⟩ := info_parts C.info54
  have HIC := mkH (And.intro hiC (And.intro hzC (And.intro hz1C hz2C)))
  obtain ⟨iG, hiG, hzG, hz1G, hz2G⟩ := info_parts zeroG_
  have HIG := mkH (And.intro hiG (And.intro hzG (And.intro hz1G hz2G)))
  have HEU : Hid (∀ args w, (callFunc 62 args).run Tryz.prog w = .ok (.enter 62 args) w) := mkH (enters_of Tryz.func62 (by kernel_rfl) rfl)
  have HX := mkH hX
  have HY := mkH hY
  have HB := mkH hB
  have HS2 := mkH hs2
  clear hX hY hB hs2 hiC hzC hz1C hz2C hiG hzG hz1G hz2G hr
  go_enter Tryz.func32, Tryz.ntmps32
  go_wp2_with fail
  refine HU.out.mono ?_
  rintro e w1 ⟨rfl, hr1, hg1⟩
  have hs1 := hg1.size
  rw [HS2.out] at hs1
  have HRES1 := mkH ((hg1.block w.heap.size (by rw [HS2.out]; omega) (by simp; omega)).trans HX.out)
  have HF1 := mkH ((hg1.block (w.heap.size + 1) (by rw [HS2.out]; omega) (by simp; omega)).trans HY.out)
  have HRD1 := mkH hr1
  have HGR1 := mkH (E.grown_trans (E.grown_below HB.out (r := some rb)) hg1)
  clear hr1 hg1 HU HX HY HB HS2
  go_wp2
  go_loopw [7] (fun vi wr => ∃ k : Nat, k ≤ N ∧ vi = .int .i64 k ∧ (∃ cv, Hid (wr.heap[w.heap.size + 1]? = some (.cells #[cv, .slice none 0 0] 29)) ∧ Hid (wr.ownsRow (w.heap.size + 2) 47 7 cv k ((rdCols k sA).1.flatMap C.encC))) ∧ Hid (wr.heap[w.heap.size]? = some (.cells #[.slice none 0 0, .slice none 0 0] 29)) ∧ Hid (E.RdT 76 [] wr rb (rdCols k sA).2) ∧ (rdCols k sA).2.1.length ≤ 1000000 ∧ Hid (w.grownBy wr (some rb)) ∧ w.heap.size + 2 ≤ wr.heap.size) (fun vi _ => N - (intOf vi).toNat)
  case atStart => exact ⟨0, Nat.zero_le _, rfl, ⟨_, HF1, mkH (World.ownsRow_nil _ _ _ _)⟩, HRES1, HRD1, hsA, HGR1, hs1⟩
  case round =>
    obtain ⟨k, hk, rfl, ⟨cv, hf, hcv⟩, hres, hrd, hsk, hgR, hsz⟩ := hrel
    obtain ⟨ca, cc, rfl, _⟩ := E.ownsRow_slice hcv.out
    by_cases hlt : k < N
    · have hkl : (k : Int) < (N : Int) := by omega
      have HNX := mkH (rdCols_snoc k sA)
      have HU1 := mkH (E.upToT_any 76 [] rb 1099511627776 (rdCols k sA).2 wr hrd.out hsk (by omega) (by omega))
      have hs4' : (E.upToR 1099511627776 (rdCols k sA).2).2.1.length ≤ 1000000 := upTo_short hsk
      have HSN : Hid ((rdCols (k + 1) sA).2.1.length ≤ 1000000) := mkH (by rw [HNX.out]; exact upTo_short hs4')
      have HENC : Hid ((rdCols (k + 1) sA).1.flatMap C.encC = (rdCols k sA).1.flatMap C.encC ++ [.int .i64 (E.upToR 1099511627776 (rdCols k sA).2).1, .string ⟨#[]⟩, .int .i64 (E.upToR 2 (E.upToR 1099511627776 (rdCols k sA).2).2).1, .bool false, .int .i64 0, .int .i64 0, .string ⟨#[]⟩]) := mkH (by rw [HNX.out, List.flatMap_append]; rfl)
      have HST : Hid ((rdCols (k + 1) sA).2 = (E.upToR 2 (E.upToR 1099511627776 (rdCols k sA).2).2).2) := mkH (by rw [HNX.out]; rfl)
      generalize (E.upToR 1099511627776 (rdCols k sA).2).1 = idn at *
      generalize (E.upToR 1099511627776 (rdCols k sA).2).2 = sB at *
      go_wp2_with fail
      refine HU1.out.mono ?_
      rintro e w4 ⟨rfl, hr4, hg4⟩
      have hs4 := hg4.size
      have HF4 := mkH ((hg4.block (w.heap.size + 1) (by omega) (by simp; omega)).trans hf.out)
      have HRES4 := mkH ((hg4.block w.heap.size (by omega) (by simp; omega)).trans hres.out)
      have HCV4 := mkH (grown_row hcv.out (by omega) hg4)
      have HGR4 := mkH (E.grown_trans hgR.out hg4)
      have hdr : Below w4.heap.size w4 w4.drew := (Below.refl _ _).drew
      have HU2 := mkH (E.upToT_any 76 [] rb 2 sB w4.drew (hr4.up hdr) hs4' (by omega) (by omega))
      have HDR := mkH (E.grown_below (r := some rb) hdr)
      have HKP : Hid (∀ W, w4.grownBy W (some rb) → W.cell? ⟨w.heap.size + 1, 0, none⟩ = some (.slice ca k cc) ∧ W.frozen? ⟨w.heap.size + 1, 0, none⟩ = false ∧ W.heap[w.heap.size + 1]? = some (.cells #[.slice ca k cc, .slice none 0 0] 29)) := mkH (fun W hW => by
        have h := (hW.block (w.heap.size + 1) (by omega) (by simp; omega)).trans HF4.out
        exact ⟨(row2 h).1, frozen_of_row W (w.heap.size + 1) 0 _ _ h, h⟩)
      obtain ⟨g1, z1, _⟩ := HKP.out w4 (E.grown_refl _ _)
      have HRDk : Hid (∀ W, E.RdT 76 [] W rb (E.upToR 2 sB).2 → E.RdT 76 [] W rb (rdCols (k + 1) sA).2) := mkH (fun W h => by rw [HST.out]; exact h)
      generalize (E.upToR 2 sB).1 = kdn at *
      clear hf hres hcv hgR hrd hr4 hg4 hdr HU1
      go_wp2_with fail
      go_region_law
        (first
          | (refine step_call2 (by rfl) 62 (.tmp 14) (.const (.int .i64 2)) 79 3 (by rfl) (.pointer (some ⟨rb, 0, none⟩)) (.int .i64 2) (by rfl) (by rfl) HEU.out _ HU2.out ?_
             rintro e w5 ⟨rfl, hr5, hg5'⟩
             have hg5 := E.grown_trans HDR.out hg5'
             refine ⟨_, rfl, ?_⟩
             obtain ⟨p1, o1, hF5⟩ := HKP.out w5 hg5
             have p1a := cell_up ((Below.refl w5.heap.size w5).alloc (Nat.le_refl _) (.cells #[.int .i64 idn, .string ⟨#[]⟩, .int .i64 kdn, .bool false, .int .i64 0, .int .i64 0, .string ⟨#[]⟩] 47)) p1
             have hs5 := hg5.size
             have hn5 : w5.heap.size ≠ w.heap.size + 1 := (fun e => by rw [e] at hs5; omega))
          | (refine step_append_lies _ (by rfl) (.tmp 12) (.tmp 17) 22 (by rfl) (w.heap.size + 2) 47 iC C.zeroC 7 72 Tryz.underlying22 HIC.out.1 HIC.out.2.1 HIC.out.2.2.1 HIC.out.2.2.2 rfl (by decide) (.slice ca k cc) k _ (by rfl) ((grown_row HCV4.out (by omega) hg5).alloc _) ⟨w5.heap.size, 0, none⟩ 1 1 [.int .i64 idn, .string ⟨#[]⟩, .int .i64 kdn, .bool false, .int .i64 0, .int .i64 0, .string ⟨#[]⟩] (by rfl) rfl (fun j u hj => World.news_of_block (heap_alloc_new _ _) j u hj) (by simp [Value.oneCell']) (by omega) (by unfold maxLen; omega) (by omega) (by simp; omega) _ rfl ?_
             intro g cap w6 ho6 hg6 hat6 hlt6
             have HNE : Hid (some (w.heap.size + 1) ≠ (Value.slice ca k cc).ownBlock) := mkH (fun e => by have := (HCV4.out.lt _ e.symm).1; omega)
             have r1 := (hg6.cell_far ⟨w.heap.size + 1, 0, none⟩ (by simp; omega) HNE.out).trans (cell_up ((Below.refl _ _).alloc (Nat.le_refl _) _) p1)
             have r2 := (hg6.frozen_far ⟨w.heap.size + 1, 0, none⟩ (by simp; omega) HNE.out).trans (((Below.refl w5.heap.size w5).alloc (Nat.le_refl _) (.cells #[.int .i64 idn, .string ⟨#[]⟩, .int .i64 kdn, .bool false, .int .i64 0, .int .i64 0, .string ⟨#[]⟩] 47)).frozen (p := ⟨w.heap.size + 1, 0, none⟩) (by show w.heap.size + 1 < _; omega) |>.trans o1))
          | fail)
      all_goals
        have hbA : Below w5.heap.size w5 (w5.alloc (.cells #[.int .i64 idn, .string ⟨#[]⟩, .int .i64 kdn, .bool false, .int .i64 0, .int .i64 0, .string ⟨#[]⟩] 47)) := (Below.refl _ _).alloc (Nat.le_refl _) _
        have HCVA := mkH (E.ownsRow_up (grown_row HCV4.out (by omega) hg5) hbA)
        have hszA : w.heap.size + 2 < (w5.alloc (.cells #[.int .i64 idn, .string ⟨#[]⟩, .int .i64 kdn, .bool false, .int .i64 0, .int .i64 0, .string ⟨#[]⟩] 47)).heap.size := by simp; omega
        have hA1 := (hg6.block (w.heap.size + 1) (by omega) HNE.out).trans ((hbA.block (w.heap.size + 1) (by omega)).trans hF5)
        have hA0 := (hg6.block w.heap.size (by omega) (fun e => by have := (HCV4.out.lt _ e.symm).1; omega)).trans ((hbA.block w.heap.size (by omega)).trans ((hg5.block w.heap.size (by omega) (by simp; omega)).trans HRES4.out))
        have hg7 := E.grown_set w6 (w.heap.size + 1) 0 (.slice (some ⟨g, 0, none⟩) (k + 1) cap)
        have HF7 := mkH (heap_setCell_same w6 (w.heap.size + 1) 0 _ 29 (.slice (some ⟨g, 0, none⟩) (k + 1) cap) hA1)
        have HRES7 := mkH ((hg7.block w.heap.size (by have := hg6.size; omega) (by simp)).trans hA0)
        have HCV7 : Hid ((w6.setCell ⟨w.heap.size + 1, 0, none⟩ (.slice (some ⟨g, 0, none⟩) (k + 1) cap)).ownsRow (w.heap.size + 2) 47 7 (.slice (some ⟨g, 0, none⟩) (k + 1) cap) (k + 1) ((rdCols (k + 1) sA).1.flatMap C.encC)) := mkH (by rw [HENC.out]; exact ho6.kept hg7 (.inr (fun e => by have := (ho6.lt _ e).1; omega)))
        have HGR7 := mkH (E.grown_new (E.grown_app (E.grown_trans HGR4.out (E.grown_trans hg5 (E.grown_below hbA))) HCVA.out (by omega) hg6) (g := w.heap.size + 1) (j := 0) (by omega) (.slice (some ⟨g, 0, none⟩) (k + 1) cap))
        have HRD7 := mkH (HRDk.out _ ((hg7.block rb (by have := hg6.size; omega) (by simp; omega)).trans ((hg6.block rb (by omega) (fun e => by have := (HCV4.out.lt _ e.symm).1; omega)).trans (hr5.up hbA))))
        have hsz7 : w.heap.size + 2 ≤ (w6.setCell ⟨w.heap.size + 1, 0, none⟩ (.slice (some ⟨g, 0, none⟩) (k + 1) cap)).heap.size := by have := hg6.size; have := hg7.size; omega
        clear hA1 hA0 hg7 HCVA hbA hszA r1 r2 ho6 hg6 hat6 hlt6 p1 p1a o1 hg5 hg5' hs5 hn5 HNE hr5 hF5
        simp only [List.setIfInBounds_toArray, List.set_cons_zero] at HF7
        go_wp2
        exact ⟨⟨k + 1, by omega, by go_num, ⟨_, HF7, HCV7⟩, HRES7, HRD7, HSN.out, HGR7, hsz7⟩, by simp [intOf]; omega⟩
    · have ek : k = N := by omega
      have hkl : ¬ (k : Int) < (N : Int) := by omega
      rw [← ek] at HRF
      clear ek
      obtain ⟨cols, hcols⟩ : ∃ c, (rdCols k sA).1 = c := ⟨_, rfl⟩
      obtain ⟨sC, hsC⟩ : ∃ c, (rdCols k sA).2 = c := ⟨_, rfl⟩
      have hcl : cols.length = k := by rw [← hcols, rdCols_len]
      rw [hcols, hsC] at HRF
      rw [hsC] at hsk hrd
      rw [hcols] at hcv
      clear hcols hsC
      subst hcl
      have HU5 := mkH (E.upToT_any 76 [] rb 60 sC wr hrd.out hsk (by omega) (by omega))
      have hM := upTo_le (most := 60) sC
      have hsD : (E.upToR 60 sC).2.1.length ≤ 1000000 := upTo_short hsk
      simp only [Int.cast_ofNat_Int] at hM
      have HRT : Hid (rdTail cols sC = rdGroups cols (E.upToR 60 sC).1 (E.upToR 60 sC).2) := mkH rfl
      generalize (E.upToR 60 sC).1 = M at *
      generalize (E.upToR 60 sC).2 = sD at *
      go_wp2_with fail
      refine HU5.out.mono ?_
      rintro e w5 ⟨rfl, hr5, hg5⟩
      have hs5 := hg5.size
      have HF5 := mkH ((hg5.block (w.heap.size + 1) (by omega) (by simp; omega)).trans hf.out)
      have HRES5 := mkH ((hg5.block w.heap.size (by omega) (by simp; omega)).trans hres.out)
      have HCV5 := mkH (grown_row hcv.out (by omega) hg5)
      have HGR5 := mkH (E.grown_trans hgR.out hg5)
      have HRD5 := mkH hr5
      clear hf hres hcv hgR hrd hr5 hg5 HU5
      have HER : Hid (∀ args w, (callFunc 63 args).run Tryz.prog w = .ok (.enter 63 args) w) := mkH (enters_of Tryz.func63 (by kernel_rfl) rfl)
      have hsz5 : w.heap.size + 2 ≤ w5.heap.size := by omega
      go_wp2
      go_loopw [23] (fun vi wr => ∃ j : Nat, j ≤ M ∧ vi = .int .i64 j ∧ (∃ gv, Hid (wr.heap[w.heap.size + 1]? = some (.cells #[.slice ca cols.length cc, gv] 29)) ∧ Hid (SlGO (w.heap.size + 2) wr gv (rdGroups cols j sD).1)) ∧ Hid (wr.ownsRow (w.heap.size + 2) 47 7 (.slice ca cols.length cc) cols.length (cols.flatMap C.encC)) ∧ Hid (wr.heap[w.heap.size]? = some (.cells #[.slice none 0 0, .slice none 0 0] 29)) ∧ Hid (E.RdT 76 [] wr rb (rdGroups cols j sD).2) ∧ (rdGroups cols j sD).2.1.length ≤ 1000000 ∧ Hid (w.grownBy wr (some rb)) ∧ w.heap.size + 2 ≤ wr.heap.size) (fun vi _ => M - (intOf vi).toNat)
      case atStart => exact ⟨0, Nat.zero_le _, rfl, ⟨_, HF5, mkH (SlGO_nil _ _)⟩, HCV5, HRES5, HRD5, hsD, HGR5, hsz5⟩
      case round =>
        obtain ⟨j, hj, rfl, ⟨gv, hf, hgs⟩, hcv, hres, hrd, hsk, hgR, hsz⟩ := hrel
        have hgl := rdGroups_len cols j sD
        obtain ⟨xs, hxs, hxo, hxg⟩ := hgs.out
        rw [hgl] at hxs hxo
        obtain ⟨xa, xc, rfl, _⟩ := E.ownsRow_slice hxo
        by_cases hlt : j < M
        · have hkl2 : (j : Int) < (M : Int) := by omega
          have HNX := mkH (rdGroups_snoc cols j sD)
          have HXO := mkH hxo
          have HXG := mkH hxg
          have HXS := mkH hxs
          have HSN : Hid ((rdGroups cols (j + 1) sD).2.1.length ≤ 1000000) := mkH (by rw [HNX.out]; exact rdGroup_short cols hsk)
          have hdr : Below wr.heap.size wr wr.drew := (Below.refl _ _).drew
          have HRG := mkH (readGroup_any rb (rdGroups cols j sD).2 (.slice ca cols.length cc) cols wr.drew (hrd.out.up hdr) (fun W hW => SlE.of_own (k := 7) (enc := C.encC) (fun _ => rfl) (grown_row (E.ownsRow_up hcv.out hdr) (b := rb) (by omega) hW) rfl) (by omega) hsk)
          have HDR := mkH (E.grown_below (r := some rb) hdr)
          have HKP : Hid (∀ W, wr.grownBy W (some rb) → W.cell? ⟨w.heap.size + 1, 0, none⟩ = some (.slice ca cols.length cc) ∧ W.cell? ⟨w.heap.size + 1, 1, none⟩ = some (.slice xa j xc) ∧ W.frozen? ⟨w.heap.size + 1, 1, none⟩ = false ∧ W.heap[w.heap.size + 1]? = some (.cells #[.slice ca cols.length cc, .slice xa j xc] 29)) := mkH (fun W hW => by
            have h := (hW.block (w.heap.size + 1) (by omega) (by simp; omega)).trans hf.out
            exact ⟨(row2 h).1, (row2 h).2, frozen_of_row W (w.heap.size + 1) 1 _ _ h, h⟩)
          obtain ⟨g0, g1, z1, _⟩ := HKP.out wr (E.grown_refl _ _)
          have HRDb := mkH hrd.out
          have HFb := mkH hf.out
          have HCb := mkH hcv.out
          have HRb := mkH hres.out
          have HGb := mkH hgR.out
          clear hf hgs hcv hres hrd hgR hdr hxs hxo hxg hgl
          go_wp2_with fail
          go_region_law
            (first
              | (refine step_call2 (by rfl) 63 (.tmp 27) (.tmp 29) 79 22 (by rfl) (.pointer (some ⟨rb, 0, none⟩)) (.slice ca cols.length cc) (by rfl) (by rfl) HER.out _ HRG.out ?_
                 rintro e w8 ⟨sv, bv, rfl, hsv, hbv, hr8, hg8'⟩
                 have hg8 := E.grown_trans HDR.out hg8'
                 obtain ⟨sa, sc, esv, _⟩ := E.ownsRow_slice hsv
                 obtain ⟨ba, bc, ebv, _⟩ := E.ownsRow_slice hbv
                 subst esv ebv
                 refine ⟨_, rfl, ?_⟩
                 obtain ⟨_, p1, o1, hF8⟩ := HKP.out w8 hg8
                 have p1a := cell_up ((Below.refl w8.heap.size w8).alloc (Nat.le_refl _) (.cells #[.int .i64 (rdGroup cols (rdGroups cols j sD).2).1.1, .slice sa cols.length sc, .slice ba cols.length bc] 88)) p1
                 have hs8 := hg8.size
                 have hn8 : w8.heap.size ≠ w.heap.size + 1 := (fun e => by rw [e] at hs8; omega))
              | (refine step_append_lies _ (by rfl) (.tmp 26) (.tmp 31) 27 (by rfl) (w.heap.size + 2) 88 iG (.agg #[.int .i64 0, .slice none 0 0, .slice none 0 0]) 3 56 Tryz.underlying27 HIG.out.1 HIG.out.2.1 HIG.out.2.2.1 HIG.out.2.2.2 rfl (by decide) (.slice xa j xc) j _ (by rfl) ((grown_row HXO.out (by omega) hg8).alloc _) ⟨w8.heap.size, 0, none⟩ 1 1 [.int .i64 (rdGroup cols (rdGroups cols j sD).2).1.1, .slice sa cols.length sc, .slice ba cols.length bc] (by rfl) rfl (fun j u hj => World.news_of_block (heap_alloc_new _ _) j u hj) (by simp [Value.oneCell']) (by omega) (by unfold maxLen; omega) (by omega) (by simp; omega) _ rfl ?_
                 intro g cap w9 ho9 hg9 hat9 hlt9
                 have HNE : Hid (some (w.heap.size + 1) ≠ (Value.slice xa j xc).ownBlock) := mkH (fun e => by have := (HXO.out.lt _ e.symm).1; omega)
                 have r1 := (hg9.cell_far ⟨w.heap.size + 1, 1, none⟩ (by simp; omega) HNE.out).trans (cell_up ((Below.refl _ _).alloc (Nat.le_refl _) _) p1)
                 have r2 := (hg9.frozen_far ⟨w.heap.size + 1, 1, none⟩ (by simp; omega) HNE.out).trans (((Below.refl w8.heap.size w8).alloc (Nat.le_refl _) (.cells #[.int .i64 (rdGroup cols (rdGroups cols j sD).2).1.1, .slice sa cols.length sc, .slice ba cols.length bc] 88)).frozen (p := ⟨w.heap.size + 1, 1, none⟩) (by show w.heap.size + 1 < _; omega) |>.trans o1))
              | fail)
          all_goals
            have hbA : Below w8.heap.size w8 (w8.alloc (.cells #[.int .i64 (rdGroup cols (rdGroups cols j sD).2).1.1, .slice sa cols.length sc, .slice ba cols.length bc] 88)) := (Below.refl _ _).alloc (Nat.le_refl _) _
            have HXA := mkH (E.ownsRow_up (grown_row HXO.out (by omega) hg8) hbA)
            have hszA : w.heap.size + 2 < (w8.alloc (.cells #[.int .i64 (rdGroup cols (rdGroups cols j sD).2).1.1, .slice sa cols.length sc, .slice ba cols.length bc] 88)).heap.size := by simp; omega
            have hA1 := (hg9.block (w.heap.size + 1) (by omega) HNE.out).trans ((hbA.block (w.heap.size + 1) (by omega)).trans hF8)
            have hA0 := (hg9.block w.heap.size (by omega) (fun e => by have := (HXO.out.lt _ e.symm).1; omega)).trans ((hbA.block w.heap.size (by omega)).trans ((hg8.block w.heap.size (by omega) (by simp; omega)).trans HRb.out))
            have hg10 := E.grown_set w9 (w.heap.size + 1) 1 (.slice (some ⟨g, 0, none⟩) (j + 1) cap)
            have HF10 := mkH (heap_setCell_same w9 (w.heap.size + 1) 1 _ 29 (.slice (some ⟨g, 0, none⟩) (j + 1) cap) hA1)
            have HRES10 := mkH ((hg10.block w.heap.size (by have := hg9.size; omega) (by simp)).trans hA0)
            have HC10 := mkH ((E.ownsRow_other (E.ownsRow_up (grown_row HCb.out (by omega) hg8) hbA) HXA.out (by decide) hg9).kept hg10 (by
              cases hob : (Value.slice ca cols.length cc).ownBlock with
              | none => exact .inl rfl
              | some q => exact .inr (fun e => by injection e with e; have := (HCb.out.lt q hob).1; omega)))
            have HSG10 : Hid (SlGO (w.heap.size + 2) (w9.setCell ⟨w.heap.size + 1, 1, none⟩ (.slice (some ⟨g, 0, none⟩) (j + 1) cap)) (.slice (some ⟨g, 0, none⟩) (j + 1) cap) (rdGroups cols (j + 1) sD).1) := mkH (by
              rw [HNX.out]
              have hgl := rdGroups_len cols j sD
              obtain ⟨el1, el2⟩ := rdGroup_len cols (rdGroups cols j sD).2
              have hx : GrpO (w8.alloc (.cells #[.int .i64 (rdGroup cols (rdGroups cols j sD).2).1.1, .slice sa cols.length sc, .slice ba cols.length bc] 88)) ((rdGroup cols (rdGroups cols j sD).2).1.1, .slice sa cols.length sc, .slice ba cols.length bc) (rdGroup cols (rdGroups cols j sD).2).1 := ⟨rfl, by rw [el1]; exact (E.ownsRow_base hsv (Nat.zero_le _)).alloc _, by rw [el2]; exact (E.ownsRow_base hbv (Nat.zero_le _)).alloc _⟩
              have happ := SlGO.app (v' := .slice (some ⟨g, 0, none⟩) (j + 1) cap) (gs := (rdGroups cols j sD).1) (by rw [hgl]; exact HXS.out) (by rw [hgl]; exact HXA.out) (fun j' x g' hx' hg' => ((HXG.out j' x g' hx' hg').other hg8 (fun r cur fr e => by
                injection e with e
                subst e
                have h' : wr.heap[rb]? = some _ := HRDb.out
                rw [h']
                constructor <;> (intro h; injection h with h; injection h with _ h _; revert h; decide))).up hbA) hx (by rw [hgl]; exact ho9) hg9
              exact happ.kept hg10 (fun r e => by injection e with e; subst e; exact ⟨_, hA1, .inr ⟨_, rfl⟩⟩))
            have HGR10 := mkH (E.grown_new (E.grown_app (E.grown_trans HGb.out (E.grown_trans hg8 (E.grown_below hbA))) HXA.out (by omega) hg9) (g := w.heap.size + 1) (j := 1) (by omega) (.slice (some ⟨g, 0, none⟩) (j + 1) cap))
            have HRD10 : Hid (E.RdT 76 [] (w9.setCell ⟨w.heap.size + 1, 1, none⟩ (.slice (some ⟨g, 0, none⟩) (j + 1) cap)) rb (rdGroups cols (j + 1) sD).2) := mkH (by
              rw [HNX.out]
              exact (hg10.block rb (by have := hg9.size; omega) (by simp; omega)).trans ((hg9.block rb (by omega) (fun e => by have := (HXO.out.lt _ e.symm).1; omega)).trans (hr8.up hbA)))
            have hsz10 : w.heap.size + 2 ≤ (w9.setCell ⟨w.heap.size + 1, 1, none⟩ (.slice (some ⟨g, 0, none⟩) (j + 1) cap)).heap.size := by have := hg9.size; have := hg10.size; omega
            clear hA1 hA0 hg10 HXA hbA hszA r1 r2 ho9 hg9 hat9 hlt9 p1 p1a o1 hg8 hg8' hs8 hn8 HNE hr8 hF8 hsv hbv
            simp only [List.setIfInBounds_toArray, List.set_cons_succ, List.set_cons_zero] at HF10
            go_wp2
            exact ⟨⟨j + 1, by omega, by go_num, ⟨_, HF10, HSG10⟩, HC10, HRES10, HRD10, HSN.out, HGR10, hsz10⟩, by simp [intOf]; omega⟩
        · have ej : j = M := by omega
          have hkl2 : ¬ (j : Int) < (M : Int) := by omega
          have HRT2 : Hid (rdFile s = ((cols, (rdGroups cols j sD).1), (rdGroups cols j sD).2)) := mkH (by rw [HRF.out, HRT.out, ej])
          obtain ⟨f0, f1⟩ := row2 hf.out
          obtain ⟨y0, y1⟩ := row2 hres.out
          have z0 := frozen_of_row wr w.heap.size 0 _ _ hres.out
          have z1 := frozen_of_row wr w.heap.size 1 _ _ hres.out
          have HRESf := mkH hres.out
          have HGSf := mkH hgs.out
          clear ej hxs hxo hxg
          go_wp2
          have hg2 : wr.grownBy ((wr.setCell ⟨w.heap.size, 0, none⟩ (.slice ca cols.length cc)).setCell ⟨w.heap.size, 1, none⟩ (.slice xa j xc)) (some w.heap.size) := E.grown_trans (E.grown_set wr w.heap.size 0 _) (E.grown_set _ w.heap.size 1 _)
          refine bodyPost_ret (v := .agg #[.slice ca cols.length cc, .slice xa j xc]) (by simp [results, Tryz.results32, go_sem, y0, y1]) rfl ⟨_, _, rfl, ?_, ?_, ?_⟩
          · rw [HRT2.out]
            exact ⟨SlE.of_own (k := 7) (enc := C.encC) (fun _ => rfl) (E.ownsRow_rd hcv.out (by omega) hg2) rfl, (HGSf.out.kept hg2 (fun r e => by injection e with e; subst e; exact ⟨_, HRESf.out, .inr ⟨_, rfl⟩⟩)).slg⟩
          · rw [HRT2.out]
            exact (hg2.block rb (by omega) (by simp; omega)).trans hrd.out
          · exact E.grown_new (E.grown_new hgR.out (Nat.le_refl _) _) (Nat.le_refl _) _
end Go.Proofs.YtodemklghajdeaaGreatDoor
