/- What (file.File).Known does at a column that the file has, and millpondkeep.filed; said of every call. -/
import Derived.Test.YtodemklghajdeaaGreatDoorFZ9
import Derived.Test.YtodemklghajdeaaGreatDoorFZB
import Derived.Test.YtodemklghajdeaaGreatDoorFZK
namespace Go.Proofs.YtodemklghajdeaaGreatDoor
open Go.RowKit Go.Proofs Go.Shelf Go.Joins

def L0 : List Col := [(1, ⟨#[97]⟩, 1, false, 0, 0, ⟨#[]⟩)]
def R0 : List (List V) := [[(1, 3, ⟨#[]⟩)], [(0, 0, ⟨#[]⟩)]]
theorem ok0 : makeOk L0 R0 = true := by kernel_rfl
theorem r64 : All64 R0 := by
  intro r hr v hv
  simp only [R0, List.mem_cons, List.not_mem_nil, or_false] at hr
  rcases hr with rfl | rfl <;> (simp only [List.mem_cons, List.not_mem_nil, or_false] at hv; subst hv; exact ⟨by decide, by decide⟩)
theorem g0 : groupsOf L0 R0 = [groupOf L0 R0] := rfl
theorem sl_col {W : World} {b : Nat} {c : Col} {T : TypeId} (h : W.heap[b]? = some (.cells (C.encC c).toArray T)) : SlE 7 C.encC W (.slice (some ⟨b, 0, none⟩) 1 1) [c] := by
  refine ⟨_, _, rfl, Nat.le_refl _, fun _ => ⟨b, 0, rfl, E.blk_lt h, fun j x hx i u hu => ?_⟩⟩
  have hj : j = 0 := by have := lt_of_some hx; simp at this; omega
  subst hj
  simp at hx
  subst hx
  refine cell_blk h ?_
  simpa using hu
theorem sl_val {W : World} {b : Nat} {k n : Int} {t : ByteArray} {T : TypeId} (h : W.heap[b]? = some (.cells #[.int .i64 k, .int .i64 n, .string t] T)) : E.Sl W (.slice (some ⟨b, 0, none⟩) 1 1) [(k, n, t)] := by
  refine ⟨_, _, rfl, Nat.le_refl _, fun _ => ⟨b, 0, rfl, E.blk_lt h, fun j x hx => ?_⟩⟩
  have hj : j = 0 := by have := lt_of_some hx; simp at this; omega
  subst hj
  simp at hx
  subst hx
  exact ⟨cell_blk h rfl, cell_blk h rfl, cell_blk h rfl⟩
theorem sl_rows {W : World} {b : Nat} {x y : Value} {r q : List V} {T : TypeId} (h : W.heap[b]? = some (.cells #[x, y] T)) (h1 : E.Sl W x r) (h2 : E.Sl W y q) : SlR W (.slice (some ⟨b, 0, none⟩) 2 2) [r, q] := by
  refine ⟨[x, y], ⟨_, _, rfl, Nat.le_refl _, fun _ => ⟨b, 0, rfl, E.blk_lt h, fun j u hu i v hv => ?_⟩⟩, rfl, fun j u v hu hv => ?_⟩
  · have hi : i = 0 := by have := lt_of_some hv; simp [encR] at this; omega
    subst hi
    simp [encR] at hv
    subst hv
    refine cell_blk h ?_
    simpa using hu
  · rcases j with _ | _ | j
    · simp at hu hv; subst hu hv; exact h1
    · simp at hu hv; subst hu hv; exact h2
    · simp at hu
set_option maxHeartbeats 4000000 in
set_option maxRecDepth 100000 in
theorem filed_any : ∀ W, C.NcB W → C.EtB W → Calls Tryz.prog 8 #[] W fun e w' => e = .returned (.bool true) ∧ Below W.heap.size W w' := by
  intro w hw hg
  have HN := mkH num_any
  go_enter Tryz.func8, Tryz.ntmps8
  go_wp2_with fail
  have HLB := mkH (heap_alloc_new w (.cells #[.int .i64 1, .string ⟨#[97]⟩, .int .i64 1, .bool false, .int .i64 0, .int .i64 0, .string ⟨#[]⟩] 47))
  have hbl : Below w.heap.size w (w.alloc (.cells #[.int .i64 1, .string ⟨#[97]⟩, .int .i64 1, .bool false, .int .i64 0, .int .i64 0, .string ⟨#[]⟩] 47)) := (Below.refl _ _).alloc (Nat.le_refl _) _
  have hsl : w.heap.size < (w.alloc (.cells #[.int .i64 1, .string ⟨#[97]⟩, .int .i64 1, .bool false, .int .i64 0, .int .i64 0, .string ⟨#[]⟩] 47)).heap.size := by simp
  generalize w.alloc (.cells #[.int .i64 1, .string ⟨#[97]⟩, .int .i64 1, .bool false, .int .i64 0, .int .i64 0, .string ⟨#[]⟩] 47) = wl at *
  refine (HN.out 3 wl).mono ?_
  rintro e w1 ⟨rfl, hb1⟩
  obtain ⟨hs3, hA, hB, hCC, hb3⟩ := three_new w1 (.cells #[.int .i64 1, .int .i64 3, .string ⟨#[]⟩] 45) (.cells #[.int .i64 0, .int .i64 0, .string ⟨#[]⟩] 45) (.cells #[.slice (some ⟨w1.heap.size, 0, none⟩) 1 1, .slice (some ⟨w1.heap.size + 1, 0, none⟩) 1 1] 57)
  have HRR := mkH (sl_rows hCC (sl_val hA) (sl_val hB))
  have hb03 := ups (ups hbl hb1) hb3
  have hLB := ((ups hb1 hb3).block w.heap.size hsl).trans HLB.out
  have HLL := mkH (sl_col (c := (1, ⟨#[97]⟩, 1, false, 0, 0, ⟨#[]⟩)) hLB)
  have HLB3 := mkH hLB
  have hs03 := hb03.size
  have HB3 := mkH hb03
  have HNC := mkH hw
  have HET := mkH hg
  clear hA hB hCC hb3 hLB hb1 hbl HLB hs3 hb03 hw hg
  go_wp2_with fail
  generalize ((w1.alloc (.cells #[.int .i64 1, .int .i64 3, .string ⟨#[]⟩] 45)).alloc (.cells #[.int .i64 0, .int .i64 0, .string ⟨#[]⟩] 45)).alloc (.cells #[.slice (some ⟨w1.heap.size, 0, none⟩) 1 1, .slice (some ⟨w1.heap.size + 1, 0, none⟩) 1 1] 57) = w3 at *
  have HMK := mkH (make_any (.slice (some ⟨w.heap.size, 0, none⟩) 1 1) (.slice (some ⟨w1.heap.size + 2, 0, none⟩) 2 2) L0 R0 w3 HLL.out HRR.out (by decide) (by decide) (by decide) (by decide) r64 (HNC.out.below HB3.out) (HET.out.below HB3.out))
  rw [makeR_yes ok0] at HMK
  refine HMK.out.mono ?_
  rintro e w6 ⟨cv, gv, rfl, hF6, hb6⟩
  have HWL := mkH (write_len ok0 r64)
  have HSZ : Hid (∀ g ∈ groupsOf L0 R0, ∀ b ∈ g.2.2, b.length ≤ 1000000) := mkH (fun g hg b hb => Nat.le_trans (byte_len (f := (L0, groupsOf L0 R0)) hg hb) (by have := HWL.out; omega))
  have HWR : Hid (writeR (L0, groupsOf L0 R0) = some (writeB (L0, groupsOf L0 R0))) := mkH (by unfold writeR; rw [if_pos (made_ok ok0 (sameIK_refl L0) r64)])
  have HPW := mkH (parse_write ok0 r64)
  have HAB := mkH (all_back ok0 (sameIK_strip L0) r64)
  have HRSUM := mkH (rows_sum L0 R0)
  generalize hwb : writeB (L0, groupsOf L0 R0) = t at *
  clear hwb
  obtain ⟨ca, cc, rfl, _⟩ := hF6.1.slice
  obtain ⟨ga, gc, rfl, _⟩ := hF6.2.slice
  rw [show ((L0, groupsOf L0 R0) : Fil).1.length = 1 from rfl] at hF6 ⊢
  rw [show ((L0, groupsOf L0 R0) : Fil).2.length = 1 from rfl] at hF6 ⊢
  have hbX : Below w6.heap.size w6 (w6.alloc (.cells #[.slice ca 1 cc, .slice ga 1 gc] 29)) := (Below.refl _ _).alloc (Nat.le_refl _) _
  have HFX := mkH (hF6.up hbX)
  have HBX := mkH (ups HB3.out (ups hb6 hbX))
  have HLX := mkH (HLL.out.up (ups hb6 hbX))
  have HLBX := mkH (((ups hb6 hbX).block w.heap.size (E.blk_lt HLB3.out)).trans HLB3.out)
  obtain ⟨f0, f1⟩ := row2 (heap_alloc_new w6 (.cells #[.slice ca 1 cc, .slice ga 1 gc] 29))
  have HFB := mkH (heap_alloc_new w6 (.cells #[.slice ca 1 cc, .slice ga 1 gc] 29))
  have hs6 : w6.heap.size < (w6.alloc (.cells #[.slice ca 1 cc, .slice ga 1 gc] 29)).heap.size := by simp
  clear hF6 hb6 hbX HLL HLB3 HB3 HMK
  go_wp2_with fail
  generalize w6.alloc (.cells #[.slice ca 1 cc, .slice ga 1 gc] 29) = wB at *
  refine (rows_any _ _ (groupsOf L0 R0) wB HFX.out.2 (by rw [g0]; decide) (by decide)).mono ?_
  rintro e w7 ⟨rfl, hb7⟩
  have hsum : sumTo (groupsOf L0 R0) (groupsOf L0 R0).length = 2 := by unfold sumTo; rw [List.take_length]; exact HRSUM.out
  rw [hsum]
  have hFB7 := (hb7.block w6.heap.size hs6).trans HFB.out
  obtain ⟨f0, f1⟩ := row2 hFB7
  have HB7 := mkH (ups HBX.out hb7)
  have HF7 := mkH (HFX.out.up hb7)
  have HL7 := mkH (HLX.out.up hb7)
  have HLB7 := mkH ((hb7.block w.heap.size (E.blk_lt HLBX.out)).trans HLBX.out)
  have HWW := mkH (write_any _ _ L0 (groupsOf L0 R0) w7 HF7.out (by decide) HSZ.out (by decide) (HNC.out.below HB7.out) (HET.out.below HB7.out))
  rw [HWR.out] at HWW
  clear hb7 hFB7 HFX HLX HLBX HBX HFB hs6 hsum
  go_wp2_with fail
  refine HWW.out.mono ?_
  rintro e w8 ⟨rfl, hb8⟩
  have HB8 := mkH (ups HB7.out hb8)
  have HL8 := mkH (HL7.out.up hb8)
  have HLB8 := mkH ((hb8.block w.heap.size (E.blk_lt HLB7.out)).trans HLB7.out)
  have HPP := mkH (parse_any t w8 (by have := HWL.out; omega) (HNC.out.below HB8.out) (HET.out.below HB8.out))
  rw [HPW.out] at HPP
  clear hb8 HL7 HLB7 HB7 HWW HF7
  go_wp2_with fail
  refine HPP.out.mono ?_
  rintro e w9 ⟨dv, ev, rfl, hF9, hb9⟩
  obtain ⟨da, dc, rfl, _⟩ := hF9.1.slice
  obtain ⟨ea, ec, rfl, _⟩ := hF9.2.slice
  rw [show ((stripC L0, groupsOf L0 R0) : Fil).1.length = 1 from rfl] at hF9 ⊢
  rw [show ((stripC L0, groupsOf L0 R0) : Fil).2.length = 1 from rfl] at hF9 ⊢
  have hbY : Below w9.heap.size w9 (w9.alloc (.cells #[.slice da 1 dc, .slice ea 1 ec] 29)) := (Below.refl _ _).alloc (Nat.le_refl _) _
  have HFY := mkH (hF9.up hbY)
  have HBY := mkH (ups HB8.out (ups hb9 hbY))
  have HLY := mkH (HL8.out.up (ups hb9 hbY))
  have HLBY := mkH (((ups hb9 hbY).block w.heap.size (E.blk_lt HLB8.out)).trans HLB8.out)
  obtain ⟨f0, f1⟩ := row2 (heap_alloc_new w9 (.cells #[.slice da 1 dc, .slice ea 1 ec] 29))
  have HGB := mkH (heap_alloc_new w9 (.cells #[.slice da 1 dc, .slice ea 1 ec] 29))
  have hs9 : w9.heap.size < (w9.alloc (.cells #[.slice da 1 dc, .slice ea 1 ec] 29)).heap.size := by simp
  have hread : readG (stripC L0) (groupOf L0 R0) L0 = some R0 := by
    have h := HAB.out
    rw [g0] at h
    cases hr : readG (stripC L0) (groupOf L0 R0) L0 with
    | none => rw [allGo_none hr] at h; cases h
    | some r => rw [allGo_some hr, allGo] at h; exact h
  have HRD := mkH (read_any 0 _ _ (.slice (some ⟨w.heap.size, 0, none⟩) 1 1) (stripC L0) (groupsOf L0 R0) (groupOf L0 R0) L0 _ HFY.out rfl HLY.out (by decide) (by decide) (by decide) (fun c hc => by rw [(sameIK_strip L0).posq]; revert c; decide) (HSZ.out _ (by rw [g0]; exact List.mem_singleton.2 rfl)))
  rw [hread] at HRD
  clear hF9 hb9 hbY hread HL8 HLB8 HB8 HPP
  go_wp2_with fail
  generalize w9.alloc (.cells #[.slice da 1 dc, .slice ea 1 ec] 29) = wD at *
  refine HRD.out.mono ?_
  rintro e w10 ⟨xv, rfl, hso, hb10⟩
  have HX := mkH hso.slr
  have HB10 := mkH (ups HBY.out hb10)
  have HF10 := mkH (HFY.out.up hb10)
  have HLB10 := mkH ((hb10.block w.heap.size (E.blk_lt HLBY.out)).trans HLBY.out)
  have HGB10 := mkH ((hb10.block w9.heap.size hs9).trans HGB.out)
  obtain ⟨xb, xo, xc, rv, ex, _, hx0, hS0⟩ := hso.slr.at (k := 0) (r := [(1, 3, ⟨#[]⟩)]) rfl
  subst ex
  obtain ⟨ra, rc, rfl, _, hrc⟩ := hS0
  obtain ⟨rb, ro, rfl, _, hrcell⟩ := hrc (by simp)
  obtain ⟨v0, v1, v2⟩ := hrcell 0 _ rfl
  simp only [Nat.zero_mul, Nat.add_zero] at v0 v1 v2 hx0
  rw [show R0.length = 2 from rfl] at HX ⊢
  clear hso hrc hrcell hb10 HLBY HGB HFY HLY HBY hs9 HRD
  have HK : Hid (∀ W, Below w10.heap.size w10 W → W.cell? ⟨xb, xo, none⟩ = some (.slice (some ⟨rb, ro, none⟩) 1 rc) ∧ W.cell? ⟨rb, ro, none⟩ = some (.int .i64 1) ∧ W.cell? ⟨rb, ro + 1, none⟩ = some (.int .i64 3) ∧ W.cell? ⟨rb, ro + 2, none⟩ = some (.string ⟨#[]⟩) ∧ W.cell? ⟨w9.heap.size, 0, none⟩ = some (.slice da 1 dc) ∧ W.cell? ⟨w9.heap.size, 1, none⟩ = some (.slice ea 1 ec) ∧ W.cell? ⟨w.heap.size, 0, none⟩ = some (.int .i64 1) ∧ W.cell? ⟨w.heap.size, 1, none⟩ = some (.string ⟨#[97]⟩) ∧ W.cell? ⟨w.heap.size, 2, none⟩ = some (.int .i64 1) ∧ W.cell? ⟨w.heap.size, 3, none⟩ = some (.bool false) ∧ W.cell? ⟨w.heap.size, 4, none⟩ = some (.int .i64 0) ∧ W.cell? ⟨w.heap.size, 5, none⟩ = some (.int .i64 0) ∧ W.cell? ⟨w.heap.size, 6, none⟩ = some (.string ⟨#[]⟩)) := mkH (fun W hW => by
    have hL := (hW.block w.heap.size (E.blk_lt HLB10.out)).trans HLB10.out
    have hG := (hW.block w9.heap.size (E.blk_lt HGB10.out)).trans HGB10.out
    exact ⟨cell_up hW hx0, cell_up hW v0, cell_up hW v1, cell_up hW v2, (row2 hG).1, (row2 hG).2, cell_blk hL rfl, cell_blk hL rfl, cell_blk hL rfl, cell_blk hL rfl, cell_blk hL rfl, cell_blk hL rfl, cell_blk hL rfl⟩)
  have HKN : Hid (∀ W, Below w10.heap.size w10 W → Calls Tryz.prog 28 #[.agg #[.slice da 1 dc, .slice ea 1 ec], .int .i64 0, .agg #[.int .i64 1, .string ⟨#[97]⟩, .int .i64 1, .bool false, .int .i64 0, .int .i64 0, .string ⟨#[]⟩]] W fun e w' => e = .returned (.agg #[.int .i64 2, .int .i64 1, .int .i64 1, .int .i64 3, .string ⟨#[]⟩, .int .i64 1, .int .i64 3, .string ⟨#[]⟩]) ∧ Below W.heap.size W w') := mkH (fun W hW => known_any 0 0 _ _ (stripC L0) (groupsOf L0 R0) (groupOf L0 R0) (2, 1, (1, 3, ⟨#[]⟩), (1, 3, ⟨#[]⟩)) 1 ⟨#[97]⟩ 1 false 0 0 ⟨#[]⟩ W (HF10.out.up hW) rfl (by decide) (by decide) (by kernel_rfl) (by kernel_rfl) (by kernel_rfl))
  obtain ⟨q0, q1, q2, q3, q4, q5, q6, q7, q8, q9, q10, q11, q12⟩ := HK.out w10 (Below.refl _ _)
  clear hx0 v0 v1 v2
  go_wp2_with fail
  go_region_held3 (fun W => W.cell? ⟨xb, xo, none⟩ = some (.slice (some ⟨rb, ro, none⟩) 1 rc) ∧ W.cell? ⟨rb, ro, none⟩ = some (.int .i64 1) ∧ W.cell? ⟨rb, ro + 1, none⟩ = some (.int .i64 3) ∧ W.cell? ⟨rb, ro + 2, none⟩ = some (.string ⟨#[]⟩) ∧ W.cell? ⟨w9.heap.size, 0, none⟩ = some (.slice da 1 dc) ∧ W.cell? ⟨w9.heap.size, 1, none⟩ = some (.slice ea 1 ec) ∧ W.cell? ⟨w.heap.size, 0, none⟩ = some (.int .i64 1) ∧ W.cell? ⟨w.heap.size, 1, none⟩ = some (.string ⟨#[97]⟩) ∧ W.cell? ⟨w.heap.size, 2, none⟩ = some (.int .i64 1) ∧ W.cell? ⟨w.heap.size, 3, none⟩ = some (.bool false) ∧ W.cell? ⟨w.heap.size, 4, none⟩ = some (.int .i64 0) ∧ W.cell? ⟨w.heap.size, 5, none⟩ = some (.int .i64 0) ∧ W.cell? ⟨w.heap.size, 6, none⟩ = some (.string ⟨#[]⟩))
    (first
      | (go_keep; done)
      | exact HK.out _ hb14
      | exact HK.out _ hb13
      | exact HK.out _ hb12
      | exact HK.out _ hb11
      | fail)
    (first
      | (go_at_call 30; refine (HN.out 3 w10.drew).mono ?_; rintro e w11 ⟨rfl, hb11'⟩; have hb11 : Below w10.heap.size w10 w11 := ups (Below.refl _ _).drew hb11')
      | (go_at_call 28; refine (HKN.out w11 hb11).mono ?_; rintro e w12 ⟨rfl, hb12'⟩; have hb12 := ups hb11 hb12')
      | (go_at_call 30; refine (HN.out 3 w12).mono ?_; rintro e w13 ⟨rfl, hb13'⟩; have hb13 := ups hb12 hb13')
      | (go_at_call 30; refine (HN.out 3 w13).mono ?_; rintro e w14 ⟨rfl, hb14'⟩; have hb14 := ups hb13 hb14')
      | fail)
  all_goals
    have hbf := ups HB10.out hb14
    go_wp2
    go_ret
    exact ⟨rfl, hbf⟩
end Go.Proofs.YtodemklghajdeaaGreatDoor
