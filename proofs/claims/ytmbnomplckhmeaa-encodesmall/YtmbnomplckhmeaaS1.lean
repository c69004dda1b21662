/- What millpondkeep.EncodeSmall does at a value of one make, said of every call: it answers true. -/
import Derived.Test.YtmbnomplckhmeaaWr
namespace Go.Proofs.Ytmbnomplckhmeaa
open Go.RowKit Go.Proofs Go.Shelf

set_option maxHeartbeats 4000000 in
set_option maxRecDepth 100000 in
theorem small_int (x n fr st : Int) (t : ByteArray) (w : World) (ht : t.size ≤ 100) (hright : rightV 1 x t = true) (hx1 : -9223372036854775808 ≤ x) (hx2 : x ≤ 9223372036854775807) :
    Calls Try.prog 4 #[.agg #[.int .i64 1, .int .i64 x, .string t], .int .i64 n, .int .i64 fr, .int .i64 st] w fun e w' => e = .returned (.bool true) ∧ Below w.heap.size w w' := by
  obtain ⟨i32, hi32, hz32, hz132, hz232⟩ := info_parts info32
  have HI32 := mkHid (And.intro hi32 (And.intro hz32 (And.intro hz132 hz232)))
  clear hi32 hz32 hz132 hz232
  have ht100 : ¬ (100 : Int) < (t.size : Int) := by omega
  have HP := mkHid packed_any
  have HPK := mkHid (fun a m h1 h2 W => pick_any a m h1 h2 W)
  have HRT := mkHid (fun W => rightV_any 1 x t W (by unfold maxLen; omega))
  rw [hright] at HRT
  have HN := mkHid num_any
  have HV : Hid (-9223372036854775808 ≤ x ∧ x ≤ 9223372036854775807 ∧ t.size ≤ 40 ∧ rightV 1 x t = true) := mkHid ⟨hx1, hx2, right_small hright, hright⟩
  clear hx1 hx2
  clear hright
  go_enter Try.func4, Try.ntmps4
  go_wp2_with fail
  refine (HP.out _).mono ?_
  rintro e w1 ⟨rfl, hb1⟩
  have hs1 := hb1.size
  have hb01 : Below w.heap.size w w1 := ((Below.refl _ _).alloc (Nat.le_refl _) _).trans (hb1.mono (by simp))
  have hbx1 : w1.heap[w.heap.size]? = some (.cells #[.int .i64 1, .int .i64 x, .string t] 32) := blk_up (heap_alloc_new _ _) hb1
  go_wp2_with fail
  refine (HPK.out n 61 (by omega) (by omega) _).mono ?_
  rintro e w1a ⟨r, hr, rfl, rfl⟩
  go_wp2_with fail
  refine (HPK.out st 60 (by omega) (by omega) _).mono ?_
  rintro e w1b ⟨r2, hr2, rfl, rfl⟩
  obtain ⟨y0, y1, y2⟩ := cell_box hbx1
  have HBX1 := mkHid hbx1
  clear hbx1
  have hr60 : r ≤ 60 := by omega
  obtain ⟨sp, hsp⟩ : ∃ sp : Int, (r2 : Int) - 30 = sp := ⟨_, rfl⟩
  have hsp1 : -30 ≤ sp := by omega
  have hsp2 : sp ≤ 30 := by omega
  go_wp2_with fail
  refine (HRT.out _).mono ?_
  rintro e w2 ⟨rfl, hb2⟩
  have hs2 := hb2.size
  have hb02 : Below w.heap.size w w2 := hb01.trans (hb2.mono hb01.size)
  have hbx2 := blk_up HBX1.out hb2
  clear y0 y1 y2
  obtain ⟨y0, y1, y2⟩ := cell_box hbx2
  have HBX := mkHid hbx2
  have HBL := mkHid hb02
  clear hbx2
  go_wp2
  go_loopw [9, 10, 11, 12] (fun va vb vc vi wr => ∃ i : Nat, i ≤ r ∧ vi = .int .i64 i ∧ Hid (Three w (1, x, t) fr sp i va vb vc wr)) (fun _ _ _ vi _ => r - (intOf vi).toNat)
  case atStart => exact ⟨0, Nat.zero_le _, rfl, mkHid (three_zero HBX.out HBL.out)⟩
  case round =>
    obtain ⟨i, hi, rfl, h3⟩ := hrel
    have hsz := h3.out.bel.size
    have hbxlt := blk_lt h3.out.box
    by_cases hlt : i < r
    · obtain ⟨y0, y1, y2⟩ := cell_box h3.out.box
      have EB : Hid ((bAt fr sp i) = (1, wrap64 (fr + wrap64 ((i : Int) * sp)), ⟨#[]⟩)) := mkHid rfl
      have HA := mkHid h3.out.a
      go_wp2_with (at_builtin; refine wpList_append_lies _ rfl _ _ 22 rfl (w.heap.size + 1) 32 i32 (.agg #[.int .i64 0, .int .i64 0, .string ⟨#[]⟩]) 3 32 Try.underlying22 HI32.out.1 HI32.out.2.1 HI32.out.2.2.1 HI32.out.2.2.2 rfl (by decide) _ _ _ rfl (HA.out.alloc _) ⟨wr.heap.size, 0, none⟩ 1 1 [.int .i64 1, .int .i64 x, .string t] rfl rfl (fun j u hj => World.news_of_block (heap_alloc_new _ _) j u hj) (flatV_one [(1, x, t)]) Nat.one_pos ?a4 ?a5 (by simp; omega) _ rfl ?_)
      case a4 => unfold maxLen; omega
      case a5 => omega
      intro ga ca wa hoa hga hata hlta
      have hsa := hga.size
      have hsa' : wr.heap.size + 1 ≤ wa.heap.size := by simp at hsa; omega
      have HOB := mkHid (kept_dis (h3.out.b.alloc (.cells #[.int .i64 1, .int .i64 x, .string t] 32)) h3.out.ab hga)
      have HOC := mkHid (kept_dis (h3.out.c.alloc (.cells #[.int .i64 1, .int .i64 x, .string t] 32)) h3.out.ac hga)
      have HBX2 := mkHid (box_grown ((Below.heap_alloc wr (.cells #[.int .i64 1, .int .i64 x, .string t] 32) _ hbxlt).trans h3.out.box) (HA.out.alloc _) (Nat.lt_succ_self _) hga)
      have HBL2 := mkHid (below_grown_own (h3.out.bel.alloc hsz (.cells #[.int .i64 1, .int .i64 x, .string t] 32)) (ownsRow_base (HA.out.alloc _) (Nat.le_succ _)) hga (by simp; omega))
      have HAB := mkHid (dis_step (n := i + 1) (c := ca) h3.out.ab hata (fun j hj => by have := (h3.out.b.lt j hj).2; simp; omega))
      have HAC := mkHid (dis_step (n := i + 1) (c := ca) h3.out.ac hata (fun j hj => by have := (h3.out.c.lt j hj).2; simp; omega))
      have HBC := mkHid h3.out.bc
      have HOA := mkHid hoa
      clear hoa hga hata y0 y1 y2 HA
      go_wp2_with fail
      refine (HN.out _ _).mono ?_
      rintro e w5 ⟨rfl, hb5⟩
      have hs5 := hb5.size
      have HOA5 := mkHid (ownsRow_up HOA.out hb5)
      have HOB5 := mkHid (ownsRow_up HOB.out hb5)
      have HOC5 := mkHid (ownsRow_up HOC.out hb5)
      have HBX5 := mkHid (blk_up HBX2.out hb5)
      have HBL5 := mkHid (HBL2.out.trans (hb5.mono (by omega)))
      generalize hbv : wrap64 (fr + wrap64 ((i : Int) * sp)) = bv at *
      go_wp2_with (at_builtin; refine wpList_append_lies _ rfl _ _ 22 rfl (w.heap.size + 1) 32 i32 (.agg #[.int .i64 0, .int .i64 0, .string ⟨#[]⟩]) 3 32 Try.underlying22 HI32.out.1 HI32.out.2.1 HI32.out.2.2.1 HI32.out.2.2.2 rfl (by decide) _ _ _ rfl (HOB5.out.alloc _) ⟨w5.heap.size, 0, none⟩ 1 1 [.int .i64 1, .int .i64 bv, .string ⟨#[]⟩] rfl rfl (fun j u hj => World.news_of_block (heap_alloc_new _ _) j u hj) (flatV_one [(1, bv, ⟨#[]⟩)]) Nat.one_pos ?b4 ?b5 (by simp; omega) _ rfl ?_)
      case b4 => unfold maxLen; omega
      case b5 => omega
      intro gb cb wb hob hgb hatb hltb
      have hsb := hgb.size
      have hsb' : w5.heap.size + 1 ≤ wb.heap.size := by simp at hsb; omega
      have HOA6 := mkHid (kept_dis (HOA5.out.alloc (.cells #[.int .i64 1, .int .i64 bv, .string ⟨#[]⟩] 32)) HAB.out.symm hgb)
      have HOC6 := mkHid (kept_dis (HOC5.out.alloc (.cells #[.int .i64 1, .int .i64 bv, .string ⟨#[]⟩] 32)) HBC.out hgb)
      have HBX6 := mkHid (box_grown ((Below.heap_alloc w5 (.cells #[.int .i64 1, .int .i64 bv, .string ⟨#[]⟩] 32) _ (blk_lt HBX5.out)).trans HBX5.out) (HOB5.out.alloc _) (Nat.lt_succ_self _) hgb)
      have HBL6 := mkHid (below_grown_own (HBL5.out.alloc (by omega) (.cells #[.int .i64 1, .int .i64 bv, .string ⟨#[]⟩] 32)) (ownsRow_base (HOB5.out.alloc _) (Nat.le_succ _)) hgb (by simp; omega))
      have HAB6 := mkHid ((dis_step (n := i + 1) (c := cb) HAB.out.symm hatb (fun j hj => by have := (HOA5.out.lt j hj).2; simp; omega)).symm)
      have HBC6 := mkHid (dis_step (n := i + 1) (c := cb) HBC.out hatb (fun j hj => by have := (HOC5.out.lt j hj).2; simp; omega))
      have HOB6 := mkHid hob
      clear hob hgb hatb
      go_wp2_with (at_builtin; refine wpList_append_lies _ rfl _ _ 22 rfl (w.heap.size + 1) 32 i32 (.agg #[.int .i64 0, .int .i64 0, .string ⟨#[]⟩]) 3 32 Try.underlying22 HI32.out.1 HI32.out.2.1 HI32.out.2.2.1 HI32.out.2.2.2 rfl (by decide) _ _ _ rfl (HOC6.out.alloc _) ⟨wb.heap.size, 0, none⟩ 1 1 [.int .i64 0, .int .i64 0, .string ⟨#[]⟩] rfl rfl (fun j u hj => World.news_of_block (heap_alloc_new _ _) j u hj) (flatV_one [(0, 0, ⟨#[]⟩)]) Nat.one_pos ?c4 ?c5 (by simp; omega) _ rfl ?_)
      case c4 => unfold maxLen; omega
      case c5 => omega
      intro gc cc wc hoc hgc hatc hltc
      have HOA7 := kept_dis (HOA6.out.alloc (.cells #[.int .i64 0, .int .i64 0, .string ⟨#[]⟩] 32)) HAC.out.symm hgc
      have HOB7 := kept_dis (HOB6.out.alloc (.cells #[.int .i64 0, .int .i64 0, .string ⟨#[]⟩] 32)) HBC6.out.symm hgc
      have HBX7 := box_grown ((Below.heap_alloc wb (.cells #[.int .i64 0, .int .i64 0, .string ⟨#[]⟩] 32) _ (blk_lt HBX6.out)).trans HBX6.out) (HOC6.out.alloc _) (Nat.lt_succ_self _) hgc
      have HBL7 := below_grown_own (HBL6.out.alloc (by omega) (.cells #[.int .i64 0, .int .i64 0, .string ⟨#[]⟩] 32)) (ownsRow_base (HOC6.out.alloc _) (Nat.le_succ _)) hgc (by simp; omega)
      have HAC7 := (dis_step (n := i + 1) (c := cc) HAC.out.symm hatc (fun j hj => by have := (HOA6.out.lt j hj).2; simp; omega)).symm
      have HBC7 := (dis_step (n := i + 1) (c := cc) HBC6.out.symm hatc (fun j hj => by have := (HOB6.out.lt j hj).2; simp; omega)).symm
      go_wp2
      exact ⟨⟨i + 1, by omega, by go_num, mkHid ⟨by rw [rep_next, flatV_app]; exact HOA7, by rw [bL_next, flatV_app, EB.out]; exact HOB7, by rw [rep_next, flatV_app]; exact hoc, HAB6.out, HAC7, HBC7, HBX7, HBL7⟩⟩, by simp [intOf]; omega⟩
    · obtain rfl : i = r := by omega
      have HSA : Hid (Sl wr _ (List.replicate i (1, x, t))) := mkHid (Sl_of_owns (by rw [List.length_replicate]; exact h3.out.a))
      have HSB : Hid (Sl wr _ (bL fr sp i)) := mkHid (Sl_of_owns (by rw [bL_len]; exact h3.out.b))
      have HSC : Hid (Sl wr _ (List.replicate i (0, 0, ⟨#[]⟩))) := mkHid (Sl_of_owns (by rw [List.length_replicate]; exact h3.out.c))
      have HE1 := mkHid (encode_any 1 _ _ wr HSA.out (by simp; omega) (oklA (v := (1, x, t)) HV.out.1 HV.out.2.1 HV.out.2.2.1 i))
      have HE2 := mkHid (fun W hW => encode_any 1 _ _ W (HSB.out.up (W := W) hW) (by rw [bL_len]; omega) (oklB fr sp i))
      have HE3 := mkHid (fun W hW => encode_any 1 _ _ W (HSC.out.up (W := W) hW) (by simp; omega) (oklC i))
      rw [encRes_ok (fitsA (v := (1, x, t)) (.inl rfl) HV.out.2.2.2 i) (by simp; omega)] at HE1
      rw [encRes_ok (fitsBb fr sp i) (by rw [bL_len]; omega)] at HE2
      rw [encRes_ok (fitsC (kind := 1) (.inl rfl) i) (by simp; omega)] at HE3
      have hX1 : (str (encB 1 (List.replicate i (1, x, t)))).size ≤ 3 + (i + 7) / 8 + 10 := by rw [str_size]; exact encA_len (v := (1, x, t)) (.inl rfl) HV.out.1 HV.out.2.1 HV.out.2.2.1 i (by omega)
      have hX2 : (str (encB 1 (bL fr sp i))).size ≤ 2 + (i + 7) / 8 + 10 + i := by rw [str_size]; exact encBb_len fr sp hsp1 hsp2 i (by omega)
      have hX3 : (str (encB 1 (List.replicate i (0, 0, ⟨#[]⟩)))).size ≤ 3 + (i + 7) / 8 := by rw [str_size]; exact encC_len 1 i (by omega)
      generalize str (encB 1 (List.replicate i (1, x, t))) = X1 at *
      generalize str (encB 1 (bL fr sp i)) = X2 at *
      generalize str (encB 1 (List.replicate i (0, 0, ⟨#[]⟩))) = X3 at *
      have q1 : (X1.size : Int) ≤ 3 + ((i : Int) + 7) / 8 + 10 := by omega
      have q2 : (X2.size : Int) ≤ 2 + ((i : Int) + 7) / 8 + 10 + (i : Int) := by omega
      have q3 : (X3.size : Int) ≤ 3 + ((i : Int) + 7) / 8 := by omega
      have tsz := HV.out.2.2.1
      obtain ⟨y0, y1, y2⟩ := cell_box h3.out.box
      try simp only at y0 y1 y2
      clear hX1 hX2 hX3
      go_wp2_with fail
      refine HE1.out.mono ?_
      rintro e w6 ⟨rfl, hb6⟩
      go_wp2_with fail
      refine (HE2.out _ hb6).mono ?_
      rintro e w7 ⟨rfl, hb7⟩
      have hb67 := hb6.trans (hb7.mono hb6.size)
      have hbx7 := blk_up h3.out.box hb67
      clear y0 y1 y2
      obtain ⟨y0, y1, y2⟩ := cell_box hbx7
      try simp only at y0 y1 y2
      go_wp2_with fail
      refine (HE3.out _ hb67).mono ?_
      rintro e w8 ⟨rfl, hb8⟩
      have hb68 := hb67.trans (hb8.mono hb67.size)
      have hbx8 := blk_up hbx7 hb8
      clear y0 y1 y2
      obtain ⟨y0, y1, y2⟩ := cell_box hbx8
      try simp only at y0 y1 y2
      clear hbx7 hbx8
      go_wp2
      go_ret
      exact ⟨rfl, h3.out.bel.trans (hb68.mono hsz)⟩
end Go.Proofs.Ytmbnomplckhmeaa
