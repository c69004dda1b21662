/- What file.readGroup does, said of every call. -/
import Derived.Test.YtodemklghajdeaaGreatDoorFX3
namespace Go.Proofs.YtodemklghajdeaaGreatDoor
open Go.RowKit Go.Proofs Go.Shelf Go.Joins

theorem decode_sl (kind : Int) (b : List UInt8) (w : World) (hs : b.length ≤ 1000000) :
    Calls Tryz.prog 77 #[.int .i64 kind, .string (E.str b)] w fun e w' => ∃ a n c ev, e = .returned (.tuple #[.slice a n c, ev]) ∧ E.Sl w' (.slice a n c) ((E.decR kind b).getD []) ∧ Below w.heap.size w w' := by
  refine (E.decode_any kind (E.str b) w (by rw [E.str_size]; exact hs)).mono fun e w' h => ?_
  rw [E.str_toList] at h
  cases hd : E.decR kind b with
  | none =>
    rw [hd] at h
    obtain ⟨rfl, hb⟩ := h
    exact ⟨none, 0, 0, _, rfl, ⟨none, 0, rfl, by simp, fun hne => absurd rfl hne⟩, hb⟩
  | some L =>
    rw [hd] at h
    obtain ⟨v, rfl, hS, hb⟩ := h
    obtain ⟨a, c, rfl, _⟩ := id hS
    exact ⟨a, _, c, _, rfl, hS, hb⟩
def cellTo (l : List Col) (s : E.St) (k : Nat) : List (List UInt8) × E.St := rdCells (l.take k) s
theorem rdCells_snoc : ∀ (l : List Col) (c : Col) (s : E.St), rdCells (l ++ [c]) s = ((rdCells l s).1 ++ [(cellR (rdCells l s).2).1], (cellR (rdCells l s).2).2)
  | [], _, _ => rfl
  | _ :: l, c, s => by simp only [List.cons_append, rdCells, rdCells_snoc l c]
theorem rdCells_len : ∀ (l : List Col) (s : E.St), (rdCells l s).1.length = l.length
  | [], _ => rfl
  | _ :: l, s => by simp [rdCells, rdCells_len l]
theorem zip_snoc {l : List Col} {bs : List (List UInt8)} {c : Col} {b : List UInt8} (h : bs.length = l.length) : statsOf (l ++ [c]) (bs ++ [b]) = statsOf l bs ++ [stat1 c b] := by
  unfold statsOf
  rw [List.zipWith_append h.symm]
  rfl
theorem upTo_short {most : Int} {s : E.St} {n : Nat} (h : s.1.length ≤ n) : (E.upToR most s).2.1.length ≤ n := Nat.le_trans (E.upToR_len most s) h
theorem bytes_short (n : Nat) (s : E.St) : (E.bytesR n s).1.length ≤ s.1.length := by unfold E.bytesR; split <;> simp <;> omega
theorem cellR_short {s : E.St} {n : Nat} (h : s.1.length ≤ n) : (cellR s).1.length ≤ n ∧ (cellR s).2.1.length ≤ n ∧ (E.upToR 9223372036854775807 s).2.1.length ≤ n := by
  have h1 := upTo_short (most := 9223372036854775807) h
  exact ⟨Nat.le_trans (bytes_short _ _) h1, Nat.le_trans (E.bytesR_len _ _) h1, h1⟩

set_option maxHeartbeats 8000000 in
set_option maxRecDepth 100000 in
theorem readGroup_any (rb : Nat) (s : E.St) (lv : Value) (l : List Col) (w : World) (hr : E.RdT 76 [] w rb s) (hl : ∀ W, w.grownBy W (some rb) → SlE 7 C.encC W lv l) (h8 : l.length ≤ 8) (hs : s.1.length ≤ 1000000) :
    Calls Tryz.prog 63 #[.pointer (some ⟨rb, 0, none⟩), lv] w fun e w' => ∃ sv bv, e = .returned (.agg #[.int .i64 (rdGroup l s).1.1, sv, bv]) ∧ w'.ownsRow w.heap.size 70 8 sv l.length ((rdGroup l s).1.2.1.flatMap encS) ∧ w'.ownsRow w.heap.size 9 1 bv l.length ((rdGroup l s).1.2.2.flatMap encT) ∧ E.RdT 76 [] w' rb (rdGroup l s).2 ∧ w.grownBy w' (some rb) := by
  have HL := mkH hl
  obtain ⟨la, lc, rfl, _⟩ := (hl w (E.grown_refl _ _)).slice
  obtain ⟨iS, hiS, hzS, hz1S, hz2S⟩ := info_parts zeroS_
  have HIS := mkH (And.intro hiS (And.intro hzS (And.intro hz1S hz2S)))
  obtain ⟨iT, hiT, hzT, hz1T, hz2T⟩ := info_parts infoStr
  have HIT := mkH (And.intro hiT (And.intro hzT (And.intro hz1T hz2T)))
  have e29 : ∀ args w, (callFunc 29 args).run Tryz.prog w = .ok (.enter 29 args) w := enters_of Tryz.func29 (by kernel_rfl) rfl
  have HE29 := mkH e29
  have hb0 : Below w.heap.size w (w.alloc (.cells #[.int .i64 0, .slice none 0 0, .slice none 0 0] 88)) := (Below.refl _ _).alloc (Nat.le_refl _) _
  have HRES0 := mkH (heap_alloc_new w (.cells #[.int .i64 0, .slice none 0 0, .slice none 0 0] 88))
  have hrl := hr.lt
  have HRG : Hid (rdGroup l s = (((E.upToR 6 s).1, statsOf l (rdCells l (E.upToR 6 s).2).1, (rdCells l (E.upToR 6 s).2).1), (rdCells l (E.upToR 6 s).2).2)) := mkH rfl
  have hsA : (E.upToR 6 s).2.1.length ≤ 1000000 := upTo_short hs
  have HU := mkH (E.upToT_any 76 [] rb 6 s _ (hr.up hb0) hs (by omega) (by omega))
  clear hiS hzS hz1S hz2S hiT hzT hz1T hz2T e29 hl
  generalize (E.upToR 6 s).1 = n0 at *
  generalize (E.upToR 6 s).2 = sA at *
  go_enter Tryz.func63, Tryz.ntmps63
  go_wp2_with fail
  refine HU.out.mono ?_
  rintro e w1 ⟨rfl, hr1, hg1⟩
  have hs1 := hg1.size
  rw [World.size_alloc] at hs1
  have hbB : Below w1.heap.size w1 (w1.alloc (.cells #[.int .i64 n0, .slice none 0 0, .slice none 0 0] 88)) := (Below.refl _ _).alloc (Nat.le_refl _) _
  have HG1 := mkH (heap_alloc_new w1 (.cells #[.int .i64 n0, .slice none 0 0, .slice none 0 0] 88))
  have HRES1 := mkH ((hbB.block w.heap.size (by omega)).trans ((hg1.block w.heap.size (by simp) (by simp; omega)).trans HRES0.out))
  have HRD1 := mkH (hr1.up hbB)
  have HGR1 := mkH (E.grown_trans (E.grown_below hb0 (r := some rb)) (E.grown_trans hg1 (E.grown_below hbB)))
  clear hr hr1 hg1 hbB hb0 HU HRES0
  go_wp2
  go_loopw [16] (fun vi wr => ∃ k : Nat, k ≤ l.length ∧ vi = .int .i64 k ∧ (∃ sv bv, Hid (wr.heap[w1.heap.size]? = some (.cells #[.int .i64 n0, sv, bv] 88)) ∧ Hid (wr.ownsRow (w1.heap.size + 1) 70 8 sv k ((statsOf (l.take k) (cellTo l sA k).1).flatMap encS)) ∧ Hid (wr.ownsRow (w1.heap.size + 1) 9 1 bv k ((cellTo l sA k).1.flatMap encT))) ∧ Hid (wr.heap[w.heap.size]? = some (.cells #[.int .i64 0, .slice none 0 0, .slice none 0 0] 88)) ∧ Hid (E.RdT 76 [] wr rb (cellTo l sA k).2) ∧ (cellTo l sA k).2.1.length ≤ 1000000 ∧ Hid (w.grownBy wr (some rb)) ∧ w1.heap.size + 1 ≤ wr.heap.size) (fun vi _ => l.length - (intOf vi).toNat)
  case atStart => exact ⟨0, Nat.zero_le _, rfl, ⟨_, _, HG1, mkH (World.ownsRow_nil _ _ _ _), mkH (World.ownsRow_nil _ _ _ _)⟩, HRES1, HRD1, hsA, HGR1, by simp⟩
  case round =>
    obtain ⟨k, hk, rfl, ⟨sv, bv, hg, hsv, hbv⟩, hres, hrd, hsk, hgR, hsz⟩ := hrel
    obtain ⟨sa, sc, rfl, _⟩ := E.ownsRow_slice hsv.out
    obtain ⟨ba, bc, rfl, _⟩ := E.ownsRow_slice hbv.out
    by_cases hlt : k < l.length
    · obtain ⟨⟨c1, c2, c3, c4, c5, c6, c7⟩, hc⟩ : ∃ c, l[k]? = some c := ⟨_, List.getElem?_eq_getElem hlt⟩
      obtain ⟨lb, lo, lc', el, _, hlb, hlcell⟩ := (HL.out wr hgR.out).cons (by omega)
      injection el with el1 _ el2
      subst el1 el2
      obtain ⟨q0, q1, q2, q3, q4, q5, q6⟩ := cells7 hlcell hc
      have hkl : (k : Int) < (l.length : Int) := by omega
      have hNX : cellTo l sA (k + 1) = ((cellTo l sA k).1 ++ [(cellR (cellTo l sA k).2).1], (cellR (cellTo l sA k).2).2) := by unfold cellTo; rw [E.take_next hc, rdCells_snoc]
      have HBY : Hid ((cellTo l sA (k + 1)).1 = (cellTo l sA k).1 ++ [(cellR (cellTo l sA k).2).1]) := mkH (by rw [hNX])
      have HST : Hid ((cellTo l sA (k + 1)).2 = (cellR (cellTo l sA k).2).2) := mkH (by rw [hNX])
      obtain ⟨L, hL⟩ : ∃ L, (E.decR c3 (cellR (cellTo l sA k).2).1).getD [] = L := ⟨_, rfl⟩
      have HSNX : Hid (statsOf (l.take (k + 1)) (cellTo l sA (k + 1)).1 = statsOf (l.take k) (cellTo l sA k).1 ++ [S.stOf L]) := mkH (by rw [hNX, E.take_next hc, zip_snoc (by unfold cellTo; rw [rdCells_len])]; simp only [stat1]; rw [← hL]; rfl)
      have hsh := cellR_short hsk
      have HSH : Hid ((cellR (cellTo l sA k).2).1.length ≤ 1000000 ∧ (cellTo l sA (k + 1)).2.1.length ≤ 1000000 ∧ (E.upToR 9223372036854775807 (cellTo l sA k).2).2.1.length ≤ 1000000) := mkH ⟨hsh.1, by rw [HST.out]; exact hsh.2.1, hsh.2.2⟩
      have hL60 : L.length ≤ 60 := by
        rw [← hL]
        cases hd : E.decR c3 (cellR (cellTo l sA k).2).1 with
        | none => simp
        | some m => obtain ⟨_, _, hm⟩ := E.decR_some hd; rw [Option.getD_some, hm]; exact (E.colR_ok hsh.1).2
      have hbX : Below wr.heap.size wr (wr.alloc (.cells #[.int .i64 c1, .string c2, .int .i64 c3, .bool c4, .int .i64 c5, .int .i64 c6, .string c7] 47)) := (Below.refl _ _).alloc (Nat.le_refl _) _
      have HCB := mkH (heap_alloc_new wr (.cells #[.int .i64 c1, .string c2, .int .i64 c3, .bool c4, .int .i64 c5, .int .i64 c6, .string c7] 47))
      have HUP := mkH (E.upToT_any 76 [] rb 9223372036854775807 (cellTo l sA k).2 _ (hrd.out.up hbX) hsk (by omega) (by omega))
      have HGX := mkH (E.grown_below (r := some rb) hbX)
      have hwr := hgR.out.size
      clear hlcell hc hNX hsh hbX
      go_wp2_with fail
      refine HUP.out.mono ?_
      rintro e w4 ⟨rfl, hr4, hg4⟩
      have HBT := mkH (E.bytesT_any 76 [] rb (E.upToR 9223372036854775807 (cellTo l sA k).2).1 _ w4 hr4 HSH.out.2.2)
      have HG4 := mkH (E.grown_trans HGX.out hg4)
      have hs4 := hg4.size
      rw [World.size_alloc] at hs4
      have HCB4 := mkH ((hg4.block wr.heap.size (by simp) (by simp; omega)).trans HCB.out)
      clear hr4 hg4 q0 q1 q2 q3 q4 q5 q6 HUP HCB
      go_wp2_with fail
      refine HBT.out.mono ?_
      rintro e w5 ⟨rfl, hr5, hg5⟩
      have hr5' : E.RdT 76 [] w5 rb (cellTo l sA (k + 1)).2 := by rw [HST.out]; exact hr5
      have hs5 := hg5.size
      have cK : w5.cell? ⟨wr.heap.size, 2, none⟩ = some (.int .i64 c3) := by
        have h5 := (hg5.block wr.heap.size (by omega) (by simp; omega)).trans HCB4.out
        simp [World.cell?, h5]
      have hG5 := E.grown_trans HG4.out hg5
      have HGb := mkH ((hG5.block w1.heap.size (by omega) (by simp; omega)).trans hg.out)
      have HRb := mkH ((hG5.block w.heap.size (by omega) (by simp; omega)).trans hres.out)
      have HSb := mkH (E.ownsRow_rd hsv.out (by omega) hG5)
      have HBb := mkH (E.ownsRow_rd hbv.out (by omega) hG5)
      have HGRb := mkH (E.grown_trans hgR.out hG5)
      have HRDb := mkH hr5'
      have HDC : Hid (Calls Tryz.prog 77 #[.int .i64 c3, .string (E.str (cellR (cellTo l sA k).2).1)] w5 _) := mkH (decode_sl c3 (cellR (cellTo l sA k).2).1 w5 HSH.out.1)
      rw [hL] at HDC
      clear hg hres hsv hbv hgR hrd hr5 hr5' hg5 hG5 HCB4 HG4 HGX HBT hL
      have ecell : (E.bytesR (E.upToR 9223372036854775807 (cellTo l sA k).2).1 (E.upToR 9223372036854775807 (cellTo l sA k).2).2).1 = (cellR (cellTo l sA k).2).1 := rfl
      rw [ecell]
      clear ecell
      go_wp2_with fail
      refine HDC.out.mono ?_
      rintro e w3 ⟨va, vn, vc, ev, rfl, hsl3, hb3⟩
      have HSl3 := mkH hsl3
      have HG3 := mkH ((hb3.block w1.heap.size (by omega)).trans HGb.out)
      have HRES3 := mkH ((hb3.block w.heap.size (by omega)).trans HRb.out)
      have HSV3 := mkH (E.ownsRow_up HSb.out hb3)
      have HBV3 := mkH (E.ownsRow_up HBb.out hb3)
      have HGR3 := mkH (E.grown_trans HGRb.out (E.grown_below hb3))
      have HRD3 := mkH (HRDb.out.up hb3)
      have hs3 := hb3.size
      clear HGb HRb HSb HBb HGRb HRDb hsl3 hb3 cK
      obtain ⟨⟨s1, s2, ⟨k1, n1, t1⟩, ⟨k2, n2, t2⟩⟩, hst⟩ : ∃ s, S.stOf L = s := ⟨_, rfl⟩
      have HOF : Hid (∀ W, Below w3.heap.size w3 W → Calls Tryz.prog 29 #[.slice va vn vc] W fun e w' => e = .returned (.agg #[.int .i64 s1, .int .i64 s2, .int .i64 k1, .int .i64 n1, .string t1, .int .i64 k2, .int .i64 n2, .string t2]) ∧ Below W.heap.size W w') := mkH (fun W hW => by
        have h1 := S.of_any (.slice va vn vc) L W (HSl3.out.up hW) hL60
        rw [hst] at h1
        exact h1)
      have HSN : Hid (statsOf (l.take (k + 1)) (cellTo l sA (k + 1)).1 = statsOf (l.take k) (cellTo l sA k).1 ++ [(s1, s2, (k1, n1, t1), (k2, n2, t2))]) := mkH (by rw [HSNX.out, hst])
      have hgs : w1.heap.size < w3.heap.size := by omega
      have HKP : Hid (∀ W, Below w3.heap.size w3 W → (W.cell? ⟨w1.heap.size, 0, none⟩ = some (.int .i64 n0) ∧ W.cell? ⟨w1.heap.size, 1, none⟩ = some (.slice sa k sc) ∧ W.cell? ⟨w1.heap.size, 2, none⟩ = some (.slice ba k bc) ∧ W.frozen? ⟨w1.heap.size, 0, none⟩ = false ∧ W.frozen? ⟨w1.heap.size, 1, none⟩ = false ∧ W.frozen? ⟨w1.heap.size, 2, none⟩ = false)) := mkH (fun W hW => row3 ((hW.block (w1.heap.size) hgs).trans HG3.out))
      obtain ⟨_, g1, g2, _, z1, z2⟩ := HKP.out w3 (Below.refl _ _)
      clear hst g2 z2
      go_wp2_with fail
      go_region_law
        (first
          | (refine step_call1 (by rfl) 29 (.tmp 33) 57 (by rfl) (.slice va vn vc) (by rfl) HE29.out _ (HOF.out _ (Below.refl _ _).drew) ?_
             rintro e w4 ⟨rfl, hb4'⟩
             have hb4 : Below w3.heap.size w3 w4 := ups (Below.refl _ _).drew hb4'
             refine ⟨_, rfl, ?_⟩
             obtain ⟨_, p1, _, _, o1, _⟩ := HKP.out w4 hb4
             have p1a := cell_up ((Below.refl w4.heap.size w4).alloc (Nat.le_refl _) (.cells #[.int .i64 s1, .int .i64 s2, .int .i64 k1, .int .i64 n1, .string t1, .int .i64 k2, .int .i64 n2, .string t2] 70)) p1
             have hs4 := hb4.size
             have hn4 : w4.heap.size ≠ w1.heap.size := (fun e => by rw [e] at hs4; omega))
          | (refine step_append_lies _ (by rfl) (.tmp 32) (.tmp 35) 85 (by rfl) (w1.heap.size + 1) 70 iS (.agg #[.int .i64 0, .int .i64 0, .int .i64 0, .int .i64 0, .string ⟨#[]⟩, .int .i64 0, .int .i64 0, .string ⟨#[]⟩]) 8 80 Tryz.underlying85 HIS.out.1 HIS.out.2.1 HIS.out.2.2.1 HIS.out.2.2.2 rfl (by decide) (.slice sa k sc) k _ (by rfl) ((E.ownsRow_up HSV3.out hb4).alloc _) ⟨w4.heap.size, 0, none⟩ 1 1 [.int .i64 s1, .int .i64 s2, .int .i64 k1, .int .i64 n1, .string t1, .int .i64 k2, .int .i64 n2, .string t2] (by rfl) rfl (fun j u hj => World.news_of_block (heap_alloc_new _ _) j u hj) (encS_one (s1, s2, (k1, n1, t1), (k2, n2, t2))) (by omega) (by unfold maxLen; omega) (by omega) (by simp; omega) _ rfl ?_
             intro g cap w5 ho5 hg5 hat5 hlt5
             have HNE : Hid (some (w1.heap.size) ≠ (Value.slice sa k sc).ownBlock) := mkH (fun e => by have := (HSV3.out.lt _ e.symm).1; omega)
             have r1 := (hg5.cell_far ⟨w1.heap.size, 1, none⟩ (by simp; omega) HNE.out).trans (cell_up ((Below.refl _ _).alloc (Nat.le_refl _) _) p1)
             have r2 := (hg5.frozen_far ⟨w1.heap.size, 1, none⟩ (by simp; omega) HNE.out).trans (((Below.refl w4.heap.size w4).alloc (Nat.le_refl _) (.cells #[.int .i64 s1, .int .i64 s2, .int .i64 k1, .int .i64 n1, .string t1, .int .i64 k2, .int .i64 n2, .string t2] 70)).frozen (p := ⟨w1.heap.size, 1, none⟩) (by show w1.heap.size < _; omega) |>.trans o1))
          | fail)
      all_goals
        have hbA : Below w3.heap.size w3 (w4.alloc (.cells #[.int .i64 s1, .int .i64 s2, .int .i64 k1, .int .i64 n1, .string t1, .int .i64 k2, .int .i64 n2, .string t2] 70)) := ups hb4 ((Below.refl _ _).alloc (Nat.le_refl _) _)
        have HSVA := mkH (E.ownsRow_up HSV3.out hbA)
        have HBVA := mkH (E.ownsRow_up HBV3.out hbA)
        have hszA : w1.heap.size + 1 < (w4.alloc (.cells #[.int .i64 s1, .int .i64 s2, .int .i64 k1, .int .i64 n1, .string t1, .int .i64 k2, .int .i64 n2, .string t2] 70)).heap.size := by simp; omega
        have hA1 := (hg5.block (w1.heap.size) (by omega) HNE.out).trans ((hbA.block (w1.heap.size) hgs).trans HG3.out)
        have hA0 := (hg5.block w.heap.size (by omega) (fun e => by have := (HSV3.out.lt _ e.symm).1; omega)).trans ((hbA.block w.heap.size (by omega)).trans HRES3.out)
        have hg6 := E.grown_set w5 (w1.heap.size) 1 (.slice (some ⟨g, 0, none⟩) (k + 1) cap)
        have HG6 := mkH (heap_setCell_same w5 (w1.heap.size) 1 _ 88 (.slice (some ⟨g, 0, none⟩) (k + 1) cap) hA1)
        have HRES6 := mkH ((hg6.block w.heap.size (by have := hg5.size; omega) (by simp; omega)).trans hA0)
        have HSV6 := mkH (ho5.kept hg6 (.inr (fun e => by have := (ho5.lt _ e).1; omega)))
        have HBV6 := mkH ((E.ownsRow_other HBVA.out HSVA.out (by decide) hg5).kept hg6 (by
          cases hob : (Value.slice ba k bc).ownBlock with
          | none => exact .inl rfl
          | some q => exact .inr (fun e => by injection e with e; have := (HBV3.out.lt q hob).1; omega)))
        have HGR6 := mkH (E.grown_new (E.grown_app (E.grown_trans HGR3.out (E.grown_below hbA)) HSVA.out (by omega) hg5) (g := w1.heap.size) (j := 1) (by omega) (.slice (some ⟨g, 0, none⟩) (k + 1) cap))
        have HRD6 : Hid (E.RdT 76 [] (w5.setCell ⟨w1.heap.size, 1, none⟩ (.slice (some ⟨g, 0, none⟩) (k + 1) cap)) rb (cellTo l sA (k + 1)).2) := mkH ((hg6.block rb (by have := hg5.size; omega) (by simp; omega)).trans ((hg5.block rb (by omega) (fun e => by have := (HSV3.out.lt _ e.symm).1; omega)).trans (HRD3.out.up hbA)))
        have hsz6 : w1.heap.size + 1 < (w5.setCell ⟨w1.heap.size, 1, none⟩ (.slice (some ⟨g, 0, none⟩) (k + 1) cap)).heap.size := by have := hg5.size; have := hg6.size; omega
        clear hA1 hA0 hg6 HSVA HBVA hbA hszA r1 r2 ho5 hg5 hat5 hlt5 p1 p1a o1 hb4 hb4' hs4 hn4 HNE
        generalize w5.setCell ⟨w1.heap.size, 1, none⟩ (.slice (some ⟨g, 0, none⟩) (k + 1) cap) = w6 at *
        simp only [List.setIfInBounds_toArray, List.set_cons_succ, List.set_cons_zero] at HG6
        obtain ⟨_, _, g2', _, _, z2'⟩ := row3 HG6.out
        generalize hsb : E.str (cellR (cellTo l sA k).2).1 = sb at *
        have HSB := mkH hsb
        clear hsb HOF HKP HG3 HRES3 HSV3 HBV3 HGR3 HRD3 HSl3 g1 z1
        have hgsz : ¬ w1.heap.size = w6.heap.size := by omega
        go_wp2_with (at_builtin; refine wpList_append_own _ rfl _ _ 86 rfl (w1.heap.size + 1) 9 iT (.string ⟨#[]⟩) 1 16 Tryz.underlying86 HIT.out.1 HIT.out.2.1 HIT.out.2.2.1 HIT.out.2.2.2 rfl (by decide) _ _ _ rfl (HBV6.out.alloc _) ⟨w6.heap.size, 0, none⟩ 1 1 [.string sb] rfl rfl (fun j u hj => World.news_of_block (heap_alloc_new _ _) j u hj) (by simp [Value.oneCell']) ?d3 ?d4 ?d5 ?_)
        case d3 => unfold maxLen; omega
        case d4 => omega
        case d5 => first | omega | (simp; omega)
        intro v7 w7 ho7 hg7 _
        obtain ⟨g7, cap7, rfl, _, _⟩ := ho7.form (by omega)
        have hbA : Below w6.heap.size w6 (w6.alloc (.cells #[.string sb] 9)) := (Below.refl _ _).alloc (Nat.le_refl _) _
        have hszA : w1.heap.size + 1 < (w6.alloc (.cells #[.string sb] 9)).heap.size := by simp; omega
        have HNE : Hid (some (w1.heap.size) ≠ (Value.slice ba k bc).ownBlock) := mkH (fun e => by have := (HBV6.out.lt _ e.symm).1; omega)
        have hA1 := (hg7.block (w1.heap.size) (by omega) HNE.out).trans ((hbA.block (w1.heap.size) (by omega)).trans HG6.out)
        have hA0 := (hg7.block w.heap.size (by omega) (fun e => by have := (HBV6.out.lt _ e.symm).1; omega)).trans ((hbA.block w.heap.size (by omega)).trans HRES6.out)
        obtain ⟨_, _, p2, _, _, o2⟩ := row3 hA1
        have hg8 := E.grown_set w7 (w1.heap.size) 2 (.slice (some ⟨g7, 0, none⟩) (k + 1) cap7)
        have HG8 := mkH (heap_setCell_same w7 (w1.heap.size) 2 _ 88 (.slice (some ⟨g7, 0, none⟩) (k + 1) cap7) hA1)
        simp only [List.setIfInBounds_toArray, List.set_cons_succ, List.set_cons_zero] at HG8
        have HRES8 := mkH ((hg8.block w.heap.size (by have := hg7.size; omega) (by simp; omega)).trans hA0)
        have HBV8 := mkH (ho7.kept hg8 (.inr (fun e => by have := (ho7.lt _ e).1; omega)))
        have HSV8 := mkH ((E.ownsRow_other (E.ownsRow_up HSV6.out hbA) (HBV6.out.alloc (.cells #[.string sb] 9)) (by decide) hg7).kept hg8 (.inr (fun e => by have := (HSV6.out.lt _ e).1; omega)))
        have HGR8 := mkH (E.grown_new (E.grown_app (E.grown_trans HGR6.out (E.grown_below hbA)) (HBV6.out.alloc (.cells #[.string sb] 9)) (by omega) hg7) (g := w1.heap.size) (j := 2) (by omega) (.slice (some ⟨g7, 0, none⟩) (k + 1) cap7))
        have HRD8 : Hid (E.RdT 76 [] (w7.setCell ⟨w1.heap.size, 2, none⟩ (.slice (some ⟨g7, 0, none⟩) (k + 1) cap7)) rb (cellTo l sA (k + 1)).2) := mkH ((hg8.block rb (by have := hg7.size; omega) (by simp; omega)).trans ((hg7.block rb (by omega) (fun e => by have := (HBV6.out.lt _ e.symm).1; omega)).trans (HRD6.out.up hbA)))
        have hsz8 : w1.heap.size + 1 ≤ (w7.setCell ⟨w1.heap.size, 2, none⟩ (.slice (some ⟨g7, 0, none⟩) (k + 1) cap7)).heap.size := by have := hg7.size; have := hg8.size; omega
        clear hA1 hA0 hg8 hg7 ho7 hbA hszA
        go_wp2
        refine ⟨⟨k + 1, by omega, by go_num, ⟨_, _, HG8, mkH ?_, mkH ?_⟩, HRES8, HRD8, HSH.out.2.1, HGR8, hsz8⟩, by simp [intOf]; omega⟩
        · rw [HSN.out, List.flatMap_append]; exact HSV8.out
        · rw [HBY.out, List.flatMap_append]
          have e : [(cellR (cellTo l sA k).2).1].flatMap encT = [.string sb] := by rw [← HSB.out]; rfl
          rw [e]; exact HBV8.out
    · have ek : k = l.length := by omega
      have hkl : ¬ (k : Int) < (l.length : Int) := by omega
      obtain ⟨g0, g1, g2, _, _, _⟩ := row3 hg.out
      obtain ⟨y0, y1, y2, z0, z1, z2⟩ := row3 hres.out
      have ecell : cellTo l sA k = rdCells l sA := by unfold cellTo; rw [ek, List.take_length]
      have HSVf : Hid (wr.ownsRow (w1.heap.size + 1) 70 8 (.slice sa k sc) l.length ((rdGroup l s).1.2.1.flatMap encS)) := mkH (by have h1 := hsv.out; rw [ecell, List.take_of_length_le (by omega)] at h1; rw [HRG.out, ← ek]; exact h1)
      have HBVf : Hid (wr.ownsRow (w1.heap.size + 1) 9 1 (.slice ba k bc) l.length ((rdGroup l s).1.2.2.flatMap encT)) := mkH (by have h1 := hbv.out; rw [ecell] at h1; rw [HRG.out, ← ek]; exact h1)
      have HRDf : Hid (E.RdT 76 [] wr rb (rdGroup l s).2) := mkH (by have h1 := hrd.out; rw [ecell] at h1; rw [HRG.out]; exact h1)
      have HN0 : Hid ((rdGroup l s).1.1 = n0) := mkH (by rw [HRG.out])
      have hszw := hgR.out.size
      clear ek hsv hbv hrd ecell
      go_wp2
      refine bodyPost_ret (v := .agg #[.int .i64 n0, .slice sa k sc, .slice ba k bc]) (by simp [results, Tryz.results63, go_sem, y0, y1, y2]) rfl ⟨_, _, by rw [HN0.out], ?_, ?_, ?_, ?_⟩
      · exact E.ownsRow_base (keep3 HSVf.out (by omega) _ _ _) (by omega)
      · exact E.ownsRow_base (keep3 HBVf.out (by omega) _ _ _) (by omega)
      · exact ((E.grown_set _ w.heap.size 2 _).block rb (by have := (E.grown_set wr w.heap.size 0 (.int .i64 n0)).size; have := (E.grown_set (wr.setCell ⟨w.heap.size, 0, none⟩ (.int .i64 n0)) w.heap.size 1 (.slice sa k sc)).size; omega) (by simp; omega)).trans (((E.grown_set _ w.heap.size 1 _).block rb (by have := (E.grown_set wr w.heap.size 0 (.int .i64 n0)).size; omega) (by simp; omega)).trans (((E.grown_set _ w.heap.size 0 _).block rb (by omega) (by simp; omega)).trans HRDf.out))
      · exact E.grown_new (E.grown_new (E.grown_new hgR.out (Nat.le_refl _) _) (Nat.le_refl _) _) (Nat.le_refl _) _
end Go.Proofs.YtodemklghajdeaaGreatDoor
