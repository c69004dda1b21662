/- What the reader's values and steps do, said of every call. -/
import Derived.Test.YtodemklghajdeaaGreatDoorEWh
namespace Go.Proofs.YtodemklghajdeaaGreatDoor.E
open Go.RowKit Go.Proofs Go.Shelf

theorem upToR_len (most : Int) (s : St) : (upToR most s).2.1.length ≤ s.1.length := by
  unfold upToR; split <;> exact numR_len s
theorem upToR_le (most : Int) (s : St) : ((upToR most s).1 : Int) ≤ max most 0 := by
  unfold upToR
  split
  · simp; omega
  · rename_i h
    simp only [badR, Bool.or_eq_true, decide_eq_true_eq, not_or] at h
    omega
theorem upToR_less {most : Int} {s : St} (h : (upToR most s).2.2 = false) : (upToR most s).2.1.length < s.1.length := by
  cases hb : badR most s with
  | true => rw [upToR_bad hb] at h; cases h
  | false => rw [upToR_ok hb] at h ⊢; exact numR_less h
theorem upToR_wrong {most : Int} {s : St} (h : s.2 = true) : (upToR most s).2.2 = true := by
  have : badR most s = true := by simp [badR, numR_wrong h]
  rw [upToR_bad this]
theorem bytesR_len (n : Nat) (s : St) : (bytesR n s).2.1.length ≤ s.1.length := by unfold bytesR; split <;> simp
theorem bytesR_wrong {n : Nat} {s : St} (h : s.2 = true) : (bytesR n s).2.2 = true := by unfold bytesR; split <;> simp [h]
theorem valueR_len (kind : Int) (s : St) : (valueR kind s).2.1.length ≤ s.1.length := by
  unfold valueR
  split
  · exact numR_len s
  · exact Nat.le_trans (bytesR_len _ _) (upToR_len _ _)
theorem valueR_wrong {kind : Int} {s : St} (h : s.2 = true) : (valueR kind s).2.2 = true := by
  unfold valueR
  split
  · exact numR_wrong h
  · exact bytesR_wrong (upToR_wrong h)
theorem unzig_in {n : Nat} (h : n < 18446744073709551616) : -9223372036854775808 ≤ Lib.unzigzag n ∧ Lib.unzigzag n ≤ 9223372036854775807 := by unfold Lib.unzigzag; split <;> omega

theorem Rd.other {w : World} {b g j : Nat} {k : Int} {s : St} (h : Rd w b k s) (hg : ¬ g = b) (u : Value) : Rd (w.setCell ⟨g, j, none⟩ u) b k s :=
  (heap_setCell_other w ⟨g, j, none⟩ b u (fun e => hg e.symm)).trans h

set_option maxHeartbeats 2000000 in
set_option maxRecDepth 100000 in
theorem value_any (b : Nat) (k : Int) (s : St) (w : World) (hr : Rd w b k s) (hl : s.1.length ≤ 1000000) :
    Calls Tryz.prog 163 #[.pointer (some ⟨b, 0, none⟩)] w fun e w' => e = .returned (aggV (valueR k s).1) ∧ Rd w' b k (valueR k s).2 ∧ w.grownBy w' (some b) := by
  have HR := mkHid hr
  have hb := hr.lt
  have hne : ¬ w.heap.size = b := by omega
  obtain ⟨c0, _, _, _, _⟩ := rd_cells hr
  clear hr
  by_cases hk : k = 1
  · have HV : Hid (valueR k s = ((1, Lib.unzigzag (numR s).1, str []), (numR s).2)) := mkHid (by unfold valueR; rw [if_pos hk])
    have HC := mkHid (fun W hW => number_any b k s W (HR.out.up (W := W) hW) hl)
    have HS := mkHid (signed_any (numR s).1 (numR_lt s))
    have bk : (k == 1) = true := by simpa using hk
    rw [HV.out]
    generalize numR s = R at *
    obtain ⟨n, st⟩ := R
    clear hk HV
    go_enter Tryz.func163, Tryz.ntmps163
    go_wp2_with fail
    refine (HC.out _ ((Below.refl _ _).alloc (Nat.le_refl _) _)).mono ?_
    rintro e w1 ⟨rfl, hR1, hg1⟩
    go_wp2_with fail
    refine (HS.out _).mono ?_
    rintro e w2 ⟨rfl, rfl⟩
    have hz : w2.heap[w.heap.size]? = some (.cells #[.int .i64 0, .int .i64 0, .string ⟨#[]⟩] 45) := (hg1.block w.heap.size (by simp) (by simp; omega)).trans (heap_alloc_new _ _)
    obtain ⟨y0, y1, y2⟩ := cell_box hz
    have f0 := frozen_of_row w2 w.heap.size 0 _ 45 hz
    have f1 := frozen_of_row w2 w.heap.size 1 _ 45 hz
    have f2 := frozen_of_row w2 w.heap.size 2 _ 45 hz
    have HG : Hid (w.grownBy w2 (some b)) := mkHid (grown_trans (World.grownBy_alloc _ _ _) hg1)
    have HR1 := mkHid hR1
    clear hz hg1 hR1
    go_wp2
    refine bodyPost_ret (v := aggV (1, Lib.unzigzag n, str [])) (by simp [results, Tryz.results163, go_sem, str, y0, y1, y2]) rfl ⟨rfl, ?_, ?_⟩
    · exact ((HR1.out.other hne _).other hne _).other hne _
    · exact grown_new (grown_new (grown_new HG.out (Nat.le_refl _) _) (Nat.le_refl _) _) (Nat.le_refl _) _
  · have HV : Hid (valueR k s = ((2, 0, str (bytesR (upToR 40 s).1 (upToR 40 s).2).1), (bytesR (upToR 40 s).1 (upToR 40 s).2).2)) := mkHid (by unfold valueR; rw [if_neg hk])
    have HC := mkHid (fun W hW => upTo_any b k 40 s W (HR.out.up (W := W) hW) hl (by omega) (by omega))
    have hu1 := upToR_le 40 s
    have hu2 := upToR_len 40 s
    have bk : (k == 1) = false := by simpa using hk
    rw [HV.out]
    generalize upToR 40 s = R at *
    obtain ⟨n, st⟩ := R
    simp only at hu1 hu2
    have HB := mkHid (fun W hW => bytes_any b n k st W hW (by omega) (by omega))
    generalize bytesR n st = Q at *
    obtain ⟨t, st2⟩ := Q
    clear hk HV
    go_enter Tryz.func163, Tryz.ntmps163
    go_wp2_with fail
    go_region_with
      (first
        | (go_at_call 62; refine (HC.out _ ((Below.refl _ _).alloc (Nat.le_refl _) _).drew).mono ?_; rintro e w1 ⟨rfl, hR1, hg1⟩)
        | (go_at_call 90; refine (HB.out _ hR1).mono ?_; rintro e w2 ⟨rfl, hR2, hg2⟩; have hg12 := grown_trans hg1 hg2; have hz : w2.heap[w.heap.size]? = some (.cells #[.int .i64 0, .int .i64 0, .string ⟨#[]⟩] 45) := (hg12.block w.heap.size (by simp) (by simp; omega)).trans (heap_alloc_new _ _); obtain ⟨y0, y1, y2⟩ := cell_box hz; have f0 := frozen_of_row w2 w.heap.size 0 _ 45 hz; have f1 := frozen_of_row w2 w.heap.size 1 _ 45 hz; have f2 := frozen_of_row w2 w.heap.size 2 _ 45 hz; have HG : Hid (w.grownBy w2 (some b)) := mkHid (grown_trans (grown_below ((Below.refl _ _).alloc (Nat.le_refl _) _).drew) hg12); have HR1 := mkHid hR2; clear hz hg1 hR1 hg2 hR2 hg12))
    go_wp2
    refine bodyPost_ret (v := aggV (2, 0, str t)) (by simp [results, Tryz.results163, go_sem, y0, y1, y2]) rfl ⟨rfl, ?_, ?_⟩
    · exact ((HR1.out.other hne _).other hne _).other hne _
    · exact grown_new (grown_new (grown_new HG.out (Nat.le_refl _) _) (Nat.le_refl _) _) (Nat.le_refl _) _
end Go.Proofs.YtodemklghajdeaaGreatDoor.E

namespace Go.Proofs.YtodemklghajdeaaGreatDoor.E
open Go.RowKit Go.Proofs Go.Shelf

theorem ownsRow_rd {w W : World} {B e z n b : Nat} {v : Value} {xs : List Value} (h : w.ownsRow B e z v n xs) (hb : b < B) (hg : w.grownBy W (some b)) : W.ownsRow B e z v n xs := by
  refine h.kept hg ?_
  cases hv : v.ownBlock with
  | none => exact .inl rfl
  | some k => refine .inr (fun e => ?_); simp at e; have := (h.lt k hv).1; omega
theorem Rd.app {w W : World} {B e z n b : Nat} {k : Int} {s : St} {v : Value} {xs : List Value} (hr : Rd w b k s) (h : w.ownsRow B e z v n xs) (hb : b < B) (hg : w.grownBy W v.ownBlock) : Rd W b k s :=
  (hg.block b (blk_lt hr) (fun e => by have := (h.lt b e.symm).1; omega)).trans hr
theorem grown_app {a w W : World} {B e z n : Nat} {r : Option Nat} {v : Value} {xs : List Value} (ha : a.grownBy w r) (h : w.ownsRow B e z v n xs) (hB : a.heap.size ≤ B) (hg : w.grownBy W v.ownBlock) : a.grownBy W r :=
  ⟨hg.os.trans ha.os, hg.tape.trans ha.tape, hg.output.trans ha.output, Nat.le_trans ha.size hg.size, fun k hk hn => (hg.block k (Nat.lt_of_lt_of_le hk ha.size) (fun e => by have := (h.lt k e.symm).1; omega)).trans (ha.block k hk hn)⟩
theorem Rd.alloc {w : World} {b : Nat} {k : Int} {s : St} (hr : Rd w b k s) (o : Obj) : Rd (w.alloc o) b k s := (Below.heap_alloc w o b (blk_lt hr)).trans hr

set_option maxHeartbeats 4000000 in
set_option maxRecDepth 100000 in
theorem values_any (b n : Nat) (k : Int) (s : St) (w : World) (hr : Rd w b k s) (hl : s.1.length ≤ 1000000) (hn : n ≤ 1000) :
    Calls Tryz.prog 147 #[.pointer (some ⟨b, 0, none⟩), .int .i64 n] w fun e w' => ∃ v', e = .returned v' ∧ w'.ownsRow w.heap.size 45 3 v' (valuesR k n s).1.length (flatV (valuesR k n s).1) ∧ Rd w' b k (valuesR k n s).2 ∧ w.grownBy w' (some b) := by
  obtain ⟨i32, hi32, hz32, hz132, hz232⟩ := info_parts info32
  have HI32 := mkHid (And.intro hi32 (And.intro hz32 (And.intro hz132 hz232)))
  clear hi32 hz32 hz132 hz232
  have hb := hr.lt
  have HR0 := mkHid hr
  clear hr
  go_enter Tryz.func147, Tryz.ntmps147
  go_wp2
  go_loopw [5, 7] (fun vl vi wr => ∃ (i : Nat) (D : List V) (st : St), i ≤ n ∧ vi = .int .i64 i ∧ Hid (D.length = i ∧ valuesR k n s = (D ++ (valuesR k (n - i) st).1, (valuesR k (n - i) st).2) ∧ st.1.length ≤ s.1.length) ∧ Hid (wr.ownsRow w.heap.size 45 3 vl i (flatV D)) ∧ Hid (Rd wr b k st) ∧ Hid (w.grownBy wr (some b))) (fun _ vi _ => n - (intOf vi).toNat)
  case atStart => exact ⟨0, [], s, Nat.zero_le _, rfl, mkHid ⟨rfl, by simp, Nat.le_refl _⟩, World.ownsRow_nil _ _ _ _, HR0, grown_refl _ _⟩
  case round =>
    obtain ⟨i, D, st, hi, rfl, hD, ho, hrd, hg⟩ := hrel
    have hsz := hg.out.size
    by_cases hlt : i < n
    · have HC := mkHid (value_any b k st wr hrd.out (by have := hD.out.2.2; omega))
      have HE : Hid (valuesR k (n - i) st = ((valueR k st).1 :: (valuesR k (n - (i + 1)) (valueR k st).2).1, (valuesR k (n - (i + 1)) (valueR k st).2).2)) := mkHid (by
        obtain ⟨m, hm⟩ : ∃ m, n - i = m + 1 := ⟨n - i - 1, by omega⟩
        rw [hm, show n - (i + 1) = m by omega]; rfl)
      have HL := mkHid (valueR_len k st)
      generalize valueR k st = R at *
      obtain ⟨⟨kx, nx, tx⟩, st1⟩ := R
      go_wp2_with fail
      refine HC.out.mono ?_
      rintro e w1 ⟨rfl, hR1, hg1⟩
      have hs1 := hg1.size
      have HO1 := mkHid (ownsRow_rd ho.out hb hg1)
      go_wp2_with (at_builtin; refine wpList_append_own _ rfl _ _ 57 rfl w.heap.size 45 i32 (.agg #[.int .i64 0, .int .i64 0, .string ⟨#[]⟩]) 3 32 Tryz.underlying57 HI32.out.1 HI32.out.2.1 HI32.out.2.2.1 HI32.out.2.2.2 rfl (by decide) _ _ _ rfl (HO1.out.alloc _) ⟨w1.heap.size, 0, none⟩ 1 1 [.int .i64 kx, .int .i64 nx, .string tx] rfl rfl ?c1 ?c2 ?c3 ?c4 ?c5 ?_)
      case c1 => exact fun j u hj => World.news_of_block (heap_alloc_new _ _) j u hj
      case c2 => exact flatV_one [(kx, nx, tx)]
      case c3 => unfold maxLen; omega
      case c4 => omega
      case c5 => simp; omega
      intro v2 w2 ho2 hg2 _
      have hR2 := (hR1.alloc (.cells #[.int .i64 kx, .int .i64 nx, .string tx] 45)).app (HO1.out.alloc _) hb hg2
      have hG2 := grown_app (grown_alloc (grown_trans hg.out hg1) (.cells #[.int .i64 kx, .int .i64 nx, .string tx] 45)) (HO1.out.alloc _) (Nat.le_refl _) hg2
      go_wp2
      refine ⟨⟨i + 1, D ++ [(kx, nx, tx)], st1, by omega, by go_num, mkHid ⟨by simp [hD.out.1], ?_, ?_⟩, mkHid (by rw [flatV_app]; exact ho2), mkHid hR2, mkHid hG2⟩, by simp [intOf]; omega⟩
      · rw [hD.out.2.1, HE.out]; simp
      · have h1 := HL.out; have h2 := hD.out.2.2; exact Nat.le_trans h1 h2
    · have e : i = n := by omega
      subst e
      have HE : Hid (valuesR k i s = (D, st)) := mkHid (by rw [hD.out.2.1, Nat.sub_self]; simp [valuesR])
      go_wp2
      go_ret
      rw [HE.out]
      exact ⟨_, rfl, by rw [show (D, st).1.length = i from hD.out.1]; exact ho.out, hrd.out, hg.out⟩

set_option maxHeartbeats 4000000 in
set_option maxRecDepth 100000 in
theorem steps_any (b n : Nat) (k : Int) (s : St) (w : World) (hr : Rd w b k s) (hl : s.1.length ≤ 1000000) (hn : n ≤ 1000) :
    Calls Tryz.prog 150 #[.pointer (some ⟨b, 0, none⟩), .int .i64 n] w fun e w' => ∃ v', e = .returned v' ∧ w'.ownsRow w.heap.size 45 3 v' (stepsR n 0 s).1.length (flatV (stepsR n 0 s).1) ∧ Rd w' b k (stepsR n 0 s).2 ∧ w.grownBy w' (some b) := by
  obtain ⟨i32, hi32, hz32, hz132, hz232⟩ := info_parts info32
  have HI32 := mkHid (And.intro hi32 (And.intro hz32 (And.intro hz132 hz232)))
  clear hi32 hz32 hz132 hz232
  have hb := hr.lt
  have HR0 := mkHid hr
  clear hr
  go_enter Tryz.func150, Tryz.ntmps150
  go_wp2
  go_loopw [5, 6, 8] (fun vl va vi wr => ∃ (i : Nat) (D : List V) (st : St) (ah : Int), i ≤ n ∧ vi = .int .i64 i ∧ va = .int .i64 ah ∧ Hid (D.length = i ∧ stepsR n 0 s = (D ++ (stepsR (n - i) ah st).1, (stepsR (n - i) ah st).2) ∧ st.1.length ≤ s.1.length) ∧ Hid (wr.ownsRow w.heap.size 45 3 vl i (flatV D)) ∧ Hid (Rd wr b k st) ∧ Hid (w.grownBy wr (some b))) (fun _ _ vi _ => n - (intOf vi).toNat)
  case atStart => exact ⟨0, [], s, 0, Nat.zero_le _, rfl, rfl, mkHid ⟨rfl, by simp, Nat.le_refl _⟩, World.ownsRow_nil _ _ _ _, HR0, grown_refl _ _⟩
  case round =>
    obtain ⟨i, D, st, ah, hi, rfl, rfl, hD, ho, hrd, hg⟩ := hrel
    have hsz := hg.out.size
    by_cases hlt : i < n
    · have HC := mkHid (number_any b k st wr hrd.out (by have := hD.out.2.2; omega))
      have HE : Hid (stepsR (n - i) ah st = ((1, wr64 (ah + Lib.unzigzag (numR st).1), str []) :: (stepsR (n - (i + 1)) (wr64 (ah + Lib.unzigzag (numR st).1)) (numR st).2).1, (stepsR (n - (i + 1)) (wr64 (ah + Lib.unzigzag (numR st).1)) (numR st).2).2)) := mkHid (by
        obtain ⟨m, hm⟩ : ∃ m, n - i = m + 1 := ⟨n - i - 1, by omega⟩
        rw [hm, show n - (i + 1) = m by omega]; rfl)
      have HL := mkHid (numR_len st)
      have HS := mkHid (signed_any (numR st).1 (numR_lt st))
      generalize numR st = R at *
      obtain ⟨un, st1⟩ := R
      simp only at HC HE HL HS
      rw [← wr_eq] at HE
      generalize Lib.unzigzag un = un at *
      go_wp2_with fail
      refine HC.out.mono ?_
      rintro e w1 ⟨rfl, hR1, hg1⟩
      have hs1 := hg1.size
      have HO1 := mkHid (ownsRow_rd ho.out hb hg1)
      go_wp2_with fail
      refine (HS.out _).mono ?_
      rintro e w1' ⟨rfl, rfl⟩
      generalize hah : wrap64 (ah + un) = ah2 at *
      go_wp2_with (at_builtin; refine wpList_append_own _ rfl _ _ 57 rfl w.heap.size 45 i32 (.agg #[.int .i64 0, .int .i64 0, .string ⟨#[]⟩]) 3 32 Tryz.underlying57 HI32.out.1 HI32.out.2.1 HI32.out.2.2.1 HI32.out.2.2.2 rfl (by decide) _ _ _ rfl (HO1.out.alloc _) ⟨w1'.heap.size, 0, none⟩ 1 1 [.int .i64 1, .int .i64 ah2, .string ⟨#[]⟩] rfl rfl ?c1 ?c2 ?c3 ?c4 ?c5 ?_)
      case c1 => exact fun j u hj => World.news_of_block (heap_alloc_new _ _) j u hj
      case c2 => exact flatV_one [(1, ah2, ⟨#[]⟩)]
      case c3 => unfold maxLen; omega
      case c4 => omega
      case c5 => simp; omega
      intro v2 w2 ho2 hg2 _
      have hR2 := (hR1.alloc (.cells #[.int .i64 1, .int .i64 ah2, .string ⟨#[]⟩] 45)).app (HO1.out.alloc _) hb hg2
      have hG2 := grown_app (grown_alloc (grown_trans hg.out hg1) (.cells #[.int .i64 1, .int .i64 ah2, .string ⟨#[]⟩] 45)) (HO1.out.alloc _) (Nat.le_refl _) hg2
      go_wp2
      refine ⟨⟨i + 1, D ++ [(1, ah2, str [])], st1, ah2, by omega, by go_num, rfl, mkHid ⟨by simp [hD.out.1], ?_, ?_⟩, mkHid (by rw [flatV_app]; exact ho2), mkHid hR2, mkHid hG2⟩, by simp [intOf]; omega⟩
      · rw [hD.out.2.1, HE.out]; simp
      · have h1 := HL.out; have h2 := hD.out.2.2; exact Nat.le_trans h1 h2
    · have e : i = n := by omega
      subst e
      have HE : Hid (stepsR i 0 s = (D, st)) := mkHid (by rw [hD.out.2.1, Nat.sub_self]; simp [stepsR])
      go_wp2
      go_ret
      rw [HE.out]
      exact ⟨_, rfl, by rw [show (D, st).1.length = i from hD.out.1]; exact ho.out, hrd.out, hg.out⟩
end Go.Proofs.YtodemklghajdeaaGreatDoor.E
