/- What the reader's value does, said of every call. -/
import Derived.Test.YtmbnomplckhmeaaWh
namespace Go.Proofs.Ytmbnomplckhmeaa
open Go.RowKit Go.Proofs Go.Shelf

theorem upToR_len (most : Int) (s : St) : (upToR most s).2.1.length ≤ s.1.length := by
  unfold upToR; split <;> exact numR_len s
theorem upToR_le (most : Int) (s : St) : ((upToR most s).1 : Int) ≤ max most 0 := by
  unfold upToR
  split
  · simp; omega
  · rename_i h
    simp only [badR, Bool.or_eq_true, decide_eq_true_eq, not_or] at h
    omega
theorem upToR_less {most : Int} {s : St} (h : (upToR most s).2.2 = false) : (upToR most s).2.1.length < s.1.length := by
  cases hb : badR most s with
  | true => rw [upToR_bad hb] at h; cases h
  | false => rw [upToR_ok hb] at h ⊢; exact numR_less h
theorem upToR_wrong {most : Int} {s : St} (h : s.2 = true) : (upToR most s).2.2 = true := by
  have : badR most s = true := by simp [badR, numR_wrong h]
  rw [upToR_bad this]
theorem bytesR_len (n : Nat) (s : St) : (bytesR n s).2.1.length ≤ s.1.length := by unfold bytesR; split <;> simp
theorem bytesR_wrong {n : Nat} {s : St} (h : s.2 = true) : (bytesR n s).2.2 = true := by unfold bytesR; split <;> simp [h]
theorem valueR_len (kind : Int) (s : St) : (valueR kind s).2.1.length ≤ s.1.length := by
  unfold valueR
  split
  · exact numR_len s
  · exact Nat.le_trans (bytesR_len _ _) (upToR_len _ _)
theorem valueR_wrong {kind : Int} {s : St} (h : s.2 = true) : (valueR kind s).2.2 = true := by
  unfold valueR
  split
  · exact numR_wrong h
  · exact bytesR_wrong (upToR_wrong h)
theorem unzig_in {n : Nat} (h : n < 18446744073709551616) : -9223372036854775808 ≤ Lib.unzigzag n ∧ Lib.unzigzag n ≤ 9223372036854775807 := by unfold Lib.unzigzag; split <;> omega

theorem Rd.other {w : World} {b g j : Nat} {k : Int} {s : St} (h : Rd w b k s) (hg : ¬ g = b) (u : Value) : Rd (w.setCell ⟨g, j, none⟩ u) b k s :=
  (heap_setCell_other w ⟨g, j, none⟩ b u (fun e => hg e.symm)).trans h

set_option maxHeartbeats 2000000 in
set_option maxRecDepth 100000 in
theorem value_any (b : Nat) (k : Int) (s : St) (w : World) (hr : Rd w b k s) (hl : s.1.length ≤ 1000000) :
    Calls Try.prog 46 #[.pointer (some ⟨b, 0, none⟩)] w fun e w' => e = .returned (aggV (valueR k s).1) ∧ Rd w' b k (valueR k s).2 ∧ w.grownBy w' (some b) := by
  have HR := mkHid hr
  have hb := hr.lt
  have hne : ¬ w.heap.size = b := by omega
  obtain ⟨c0, _, _, _, _⟩ := rd_cells hr
  clear hr
  by_cases hk : k = 1
  · have HV : Hid (valueR k s = ((1, Lib.unzigzag (numR s).1, str []), (numR s).2)) := mkHid (by unfold valueR; rw [if_pos hk])
    have HC := mkHid (fun W hW => number_any b k s W (HR.out.up (W := W) hW) hl)
    have HS := mkHid (signed_any (numR s).1 (numR_lt s))
    have bk : (k == 1) = true := by simpa using hk
    rw [HV.out]
    generalize numR s = R at *
    obtain ⟨n, st⟩ := R
    clear hk HV
    go_enter Try.func46, Try.ntmps46
    go_wp2_with fail
    refine (HC.out _ ((Below.refl _ _).alloc (Nat.le_refl _) _)).mono ?_
    rintro e w1 ⟨rfl, hR1, hg1⟩
    go_wp2_with fail
    refine (HS.out _).mono ?_
    rintro e w2 ⟨rfl, rfl⟩
    have hz : w2.heap[w.heap.size]? = some (.cells #[.int .i64 0, .int .i64 0, .string ⟨#[]⟩] 32) := (hg1.block w.heap.size (by simp) (by simp; omega)).trans (heap_alloc_new _ _)
    obtain ⟨y0, y1, y2⟩ := cell_box hz
    have f0 := frozen_of_row w2 w.heap.size 0 _ 32 hz
    have f1 := frozen_of_row w2 w.heap.size 1 _ 32 hz
    have f2 := frozen_of_row w2 w.heap.size 2 _ 32 hz
    have HG : Hid (w.grownBy w2 (some b)) := mkHid (grown_trans (World.grownBy_alloc _ _ _) hg1)
    have HR1 := mkHid hR1
    clear hz hg1 hR1
    go_wp2
    refine bodyPost_ret (v := aggV (1, Lib.unzigzag n, str [])) (by simp [results, Try.results46, go_sem, str, y0, y1, y2]) rfl ⟨rfl, ?_, ?_⟩
    · exact ((HR1.out.other hne _).other hne _).other hne _
    · exact grown_new (grown_new (grown_new HG.out (Nat.le_refl _) _) (Nat.le_refl _) _) (Nat.le_refl _) _
  · have HV : Hid (valueR k s = ((2, 0, str (bytesR (upToR 40 s).1 (upToR 40 s).2).1), (bytesR (upToR 40 s).1 (upToR 40 s).2).2)) := mkHid (by unfold valueR; rw [if_neg hk])
    have HC := mkHid (fun W hW => upTo_any b k 40 s W (HR.out.up (W := W) hW) hl (by omega) (by omega))
    have hu1 := upToR_le 40 s
    have hu2 := upToR_len 40 s
    have bk : (k == 1) = false := by simpa using hk
    rw [HV.out]
    generalize upToR 40 s = R at *
    obtain ⟨n, st⟩ := R
    simp only at hu1 hu2
    have HB := mkHid (fun W hW => bytes_any b n k st W hW (by omega) (by omega))
    generalize bytesR n st = Q at *
    obtain ⟨t, st2⟩ := Q
    clear hk HV
    go_enter Try.func46, Try.ntmps46
    go_wp2_with fail
    go_region_with
      (first
        | (go_at_call 21; refine (HC.out _ ((Below.refl _ _).alloc (Nat.le_refl _) _).drew).mono ?_; rintro e w1 ⟨rfl, hR1, hg1⟩)
        | (go_at_call 22; refine (HB.out _ hR1).mono ?_; rintro e w2 ⟨rfl, hR2, hg2⟩; have hg12 := grown_trans hg1 hg2; have hz : w2.heap[w.heap.size]? = some (.cells #[.int .i64 0, .int .i64 0, .string ⟨#[]⟩] 32) := (hg12.block w.heap.size (by simp) (by simp; omega)).trans (heap_alloc_new _ _); obtain ⟨y0, y1, y2⟩ := cell_box hz; have f0 := frozen_of_row w2 w.heap.size 0 _ 32 hz; have f1 := frozen_of_row w2 w.heap.size 1 _ 32 hz; have f2 := frozen_of_row w2 w.heap.size 2 _ 32 hz; have HG : Hid (w.grownBy w2 (some b)) := mkHid (grown_trans (grown_below ((Below.refl _ _).alloc (Nat.le_refl _) _).drew) hg12); have HR1 := mkHid hR2; clear hz hg1 hR1 hg2 hR2 hg12))
    go_wp2
    refine bodyPost_ret (v := aggV (2, 0, str t)) (by simp [results, Try.results46, go_sem, y0, y1, y2]) rfl ⟨rfl, ?_, ?_⟩
    · exact ((HR1.out.other hne _).other hne _).other hne _
    · exact grown_new (grown_new (grown_new HG.out (Nat.le_refl _) _) (Nat.le_refl _) _) (Nat.le_refl _) _
end Go.Proofs.Ytmbnomplckhmeaa
