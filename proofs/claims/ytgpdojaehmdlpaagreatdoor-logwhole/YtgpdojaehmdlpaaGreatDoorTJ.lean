/- The walk of LogWhole. -/
import Derived.Test.YtgpdojaehmdlpaaGreatDoorTI
import Derived.Deep.RegionHeld3
import Derived.Deep.DeepCutAuto
import Derived.Deep.CutBlock
namespace Go.Proofs.YtgpdojaehmdlpaaGreatDoor
open Go.RowKit Go.Proofs Go.Lib Go.Joins Go.Maps

set_option maxHeartbeats 800000 in
set_option maxRecDepth 100000 in
theorem whole_law (la : Option Addr) (ln lc : Nat) (l : List Com) (w : World) (hl : LogR w (.slice la ln lc) l) (hln : l.length ≤ maxLen) (hw : NcB w) (ht : TabB w) :
    Calls Tryz.prog 5 #[.slice la ln lc] w fun e w' => e = .returned (.bool true) ∧ Below w.heap.size w w' := by
  have hlen := hl.len
  subst hlen
  unfold maxLen at hln
  have HLG : Hid (Calls Tryz.prog 8 #[] w fun e w' => e = .returned (.bool true) ∧ Below w.heap.size w w') := mkH (logged_any w hw ht)
  have HL := mkH hl
  have HNC := mkH hw
  clear hl hw ht
  by_cases h20 : 20 < l.length
  · have h20z : (20 : Int) < (l.length : Int) := by omega
    go_enter Tryz.func5, Tryz.ntmps5
    go_wp2
    go_ret
    exact ⟨rfl, Below.refl _ _⟩
  have h20z : ¬ (20 : Int) < (l.length : Int) := by omega
  go_enter Tryz.func5, Tryz.ntmps5
  go_wp2_with fail
  refine HLG.out.mono ?_
  rintro e w5 ⟨rfl, hb5⟩
  have HBW : Hid (Below w.heap.size w w5) := mkH hb5
  obtain ⟨z0, z1, z2, z3⟩ := two_alloc w5 (.cells #[.int .i64 0, .slice none 0 0, .int .i64 0, .slice none 0 0] 41) (.cells #[.int .i64 0, .slice none 0 0, .int .i64 0, .slice none 0 0] 41)
  have Z0 := mkH z0
  have Z1 := mkH z1
  have Z2 := mkH z2
  have Z3 := mkH z3
  obtain ⟨p0, p1, p2, p3, _⟩ := cells4 Z1.out
  clear z0 z1 z2 z3 hb5 HLG
  go_wp2_with fail
  generalize (w5.alloc (.cells #[.int .i64 0, .slice none 0 0, .int .i64 0, .slice none 0 0] 41)).alloc (.cells #[.int .i64 0, .slice none 0 0, .int .i64 0, .slice none 0 0] 41) = w7 at *
  refine (set_any zeroS none 0 0 none 0 [] w7 (snapV_zero w7) (by decide) (fun x hx => by cases hx) List.nodup_nil).mono ?_
  rintro e w8 ⟨m0, rfl, hm0, hs0, hb8⟩
  have HS0 := mkH (hs0.below ((Below.refl _ _).alloc (Nat.le_refl _) (.cells #[.map (some m0)] 47)))
  have HB9 : Hid (Below w7.heap.size w7 (w8.alloc (.cells #[.map (some m0)] 47))) := mkH (hb8.alloc hb8.size _)
  have HX9 := mkH (heap_alloc_new w8 (.cells #[.map (some m0)] 47))
  have HZ9 : Hid (w5.heap.size + 2 ≤ w8.heap.size) := mkH (by have := Z0.out; have := hb8.size; omega)
  clear hs0 hb8 hm0 p0 p1 p2 p3
  go_wp2_with fail
  generalize w8.alloc (.cells #[.map (some m0)] 47) = w9 at *
  have HBX : Hid (w9.heap[w5.heap.size]? = some (.cells #[.int .i64 0, .slice none 0 0, .int .i64 0, .slice none 0 0] 41 (0, 0))) := mkH ((HB9.out.block w5.heap.size (by have := Z0.out; omega)).trans Z1.out)
  have HBR : Hid (w9.heap[w5.heap.size + 1]? = some (.cells #[.int .i64 0, .slice none 0 0, .int .i64 0, .slice none 0 0] 41 (0, 0))) := mkH ((HB9.out.block (w5.heap.size + 1) (by have := Z0.out; omega)).trans Z2.out)
  have HBA : Hid (Below w5.heap.size w5 w9) := mkH (Below.ups Z3.out HB9.out)
  have HH : Hid (Hist (w5.heap.size + 1) w9 (.slice (some ⟨w5.heap.size + 1, 0, none⟩) 1 1) (.slice (some ⟨w8.heap.size, 0, none⟩) 1 1) [(zeroS, (0, (none, 0, 0), 0, (none, 0, 0)), m0)]) := mkH ⟨own_lit HBR.out (Nat.le_refl _) rfl (by decide), own_lit HX9.out (by have := HZ9.out; omega) rfl (by decide), fun h hh => by
    cases List.mem_singleton.1 hh
    exact ⟨snapW_zero _, good_zero, by simp [Named, zeroS], ⟨_, [], HS0.out, by decide, rfl, (fun e he => by cases he), (fun e he => by cases he)⟩⟩⟩
  clear HS0 HB9 HX9 HBR Z0 Z1 Z2 Z3
  generalize w8.heap.size = b8 at *
  go_loopw [4, 5, 6] (fun vw vs vi wr => ∃ k : Nat, k ≤ l.length ∧ vi = .int .i64 k ∧ ∃ (s : Snap) (x0 : Int) (a1 : Option Addr) (n1 c1 : Nat) (x2 : Int) (a2 : Option Addr) (n2 c2 : Nat) (wa : Option Addr) (kw : Nat) (sa : Option Addr) (ks : Nat) (H : List Was), vw = .slice wa H.length kw ∧ vs = .slice sa H.length ks ∧ Hid (SnapW wr s (.agg #[.int .i64 x0, .slice a1 n1 c1, .int .i64 x2, .slice a2 n2 c2])) ∧ Hid (wr.heap[w5.heap.size]? = some (.cells #[.int .i64 x0, .slice a1 n1 c1, .int .i64 x2, .slice a2 n2 c2] 41 (0, 0))) ∧ Hid (Good colB fitB s ∧ Named s ∧ 0 ≤ s.ver ∧ s.ver ≤ k) ∧ Hid (Below w5.heap.size w5 wr) ∧ Hid (Hist (w5.heap.size + 1) wr (.slice wa H.length kw) (.slice sa H.length ks) H) ∧ Hid (s.ver + 1 = (H.length : Int))) (fun _ _ vi _ => l.length - (intOf vi).toNat)
  case atStart => exact ⟨0, Nat.zero_le _, rfl, zeroS, _, _, _, _, _, _, _, _, _, _, _, _, [(zeroS, (0, (none, 0, 0), 0, (none, 0, 0)), m0)], rfl, rfl, mkH (snapW_zero _), HBX, mkH ⟨good_zero, by simp [Named, zeroS], Int.le_refl _, Int.le_refl _⟩, HBA, HH, mkH rfl⟩
  case round =>
    clear HBX HBA HH
    obtain ⟨k, hk, rfl, s, x0, a1, n1, c1, x2, a2, n2, c2, wa, kw, sa, ks, H, rfl, rfl, HSN, HBX, HGD, HBI, HHI, HVR⟩ := hrel
    obtain ⟨s0, s1, s2, s3, sf⟩ := cells4 HBX.out
    have HBR : Hid (Below w.heap.size w wr) := mkH (Below.ups HBW.out HBI.out)
    by_cases hlt : k < l.length
    · have hltz : (k : Int) < (l.length : Int) := by omega
      rcases HL.out.below HBR.out with ⟨_, e0⟩ | ⟨g, o, c, eg, hcap, hgl, hact⟩
      · rw [e0] at hlt; simp at hlt
      · injection eg with eg1 _ eg2
        subst eg1 eg2
        obtain ⟨fa, fn, fc, q0, q1, q2, hR, hR1, hR2⟩ := hact k hlt
        obtain ⟨⟨tx, rd, acts⟩, hx⟩ : ∃ x, l[k]! = x := ⟨_, rfl⟩
        rw [hx] at q0 q1 hR hR1 hR2
        simp only at q0 q1 hR hR1 hR2
        have hlen20 : l.length ≤ 20 := by omega
        have HGB := mkH (Nat.succ_le_of_lt (blk_lt HBX.out))
        clear hact hx
        go_upto_block 1 with fail
        refine wp_block ?_
        refine round_law _ _ _ _ _ _ _ _ _ _ _ _ _ _ _ _ _ _ _ _ _ _ _ _ _ _ _ _ _ _ _ _ _ _ _ _ _ _ _ _ _ _ _ _ _ _ _ _ _ _ _ _ _ _ _ _ _ _ _ _ _ _ _ _ _ _ _ _ _ _ _ _ _ _ _ _ _ _ _ _ _ _ _ _ _ _ _ _ _ _ _ _ _ _ _ _ _ _ _ _ _ _ _ _ _ _ _ _ _ _ _ _ _ _ _ _ _ _ _ _ _ _ _ _ _ _ _ _ _ _ _ _ _ _ _ _ _ _ _ _ _ _ _ _ _ _ _ _ _ _ _ _ _ _ _ _ _ _ _ _ _ _ _ _ _ _ _ _ _ _ _ _ _ _ _ _ _ _ _ _ _ _ _ _ _ _ _ _ _ _ _ _ _ _ _ _ _ _ _ _ _ _ _ _ _ _ _ _ _ _ _ _ _ w5.heap.size (w5.heap.size + 1) g o l.length lc k H wa kw sa ks s x0 a1 n1 c1 x2 a2 n2 c2 tx rd acts fa fn fc wr _ hlen20 hlt hgl q0 q1 q2 hR hR1 hR2 HSN.out HBX.out HGD.out HHI.out rfl HGB.out HVR.out (HNC.out.below HBR.out) ?_ ?_ ?_
        · intro _ _ _ _ _ _ W hb
          go_wp2_with fail
          go_ret
          exact ⟨rfl, Below.ups HBR.out hb⟩
        · intro _ _ _ _ _ _ _ _ _ _ _ _ _ _ _ _ _ _ _ W hb
          go_wp2_with fail
          go_roundw
          case rel => exact ⟨k + 1, by omega, by go_num, s, _, _, _, _, _, _, _, _, _, _, _, _, H, rfl, rfl, mkH (HSN.out.up hb), mkH ((hb.block w5.heap.size (blk_lt HBX.out)).trans HBX.out), mkH ⟨HGD.out.1, HGD.out.2.1, HGD.out.2.2.1, by have := HGD.out.2.2.2; omega⟩, mkH (HBI.out.trans (hb.mono (Nat.le_of_lt (blk_lt HBX.out)))), mkH (HHI.out.up hb), HVR⟩
          case measure => simp [intOf]; omega
        · intro _ _ _ _ _ _ _ _ _ _ _ _ _ _ _ _ _ _ _ _ _ _ _ _ _ _ _ _ _ _ _ _ _ _ _ _ _ _ _ _ _ _ _ _ _ _ _ _ _ _ _ _ _ _ _ _ _ _ _ _ _ _ _ _ _ _ _ _ _ _ _ _ _ _ _ _ _ _ _ _ _ _ _ _ _ _ _ _ _ _ _ _ _ _ _ _ _ _ _ _ _ _ _ _ _ _ _ _ _ _ _ _ _ _ _ _ _ _ _ _ _ _ _ _ _ _ _ _ _ _ _ _ _ _ _ _ _ _ _ _ _ _ _ _ _ _ _ _ _ _ _ _ _ _ _ _ _ _ _ _ _ _ _ _ _ _ _ _ _ _ _ _ _ _ _ _ _ _ _ _ _ _ _ _ _ _ _ _ _ _ _ _ _ _ _ _ wa2 kw2 sa2 ks2 bc t b1 m1 e1 y2 b2 m2 e2 W hap hsn hbox hH hb
          have HAP := mkH hap
          have HS2 := mkH hsn
          have HX2 := mkH hbox
          have HH2 := mkH hH
          have HB2 := mkH hb
          clear hap hsn hbox hH hb
          go_wp2_with fail
          go_roundw
          case rel =>
            have hlen : H.length + 1 = (H ++ [(t, ((H.length : Int), (b1, m1, e1), y2, (b2, m2, e2)), bc)]).length := by simp
            have hv2 : t.ver + 1 = (((H ++ [(t, ((H.length : Int), (b1, m1, e1), y2, (b2, m2, e2)), bc)]).length : Nat) : Int) := by
              have := applies_ver HAP.out
              have := HVR.out
              rw [← hlen]
              omega
            refine ⟨k + 1, by omega, by go_num, t, _, _, _, _, _, _, _, _, wa2, kw2, sa2, ks2, _, by rw [← hlen], by rw [← hlen], HS2, HX2, mkH (next_good HAP.out HGD.out), mkH (HBI.out.trans HB2.out), mkH ?_, mkH hv2⟩
            rw [← hlen]
            exact HH2.out
          case measure => simp [intOf]; omega
    · have hltz : ¬ (k : Int) < (l.length : Int) := by omega
      go_wp2
      go_ret
      exact ⟨rfl, HBR.out⟩
end Go.Proofs.YtgpdojaehmdlpaaGreatDoor
