/- What encode.marks does, said of every call. -/
import Derived.Test.YtmbnomplckhmeaaWd
import Derived.Lib.EndianBits
namespace Go.Proofs.Ytmbnomplckhmeaa
open Go.RowKit Go.Proofs Go.Shelf

set_option maxHeartbeats 1000000 in
theorem bytesOf_any (n : Nat) (hn : n ≤ 1000) (w : World) :
    Calls Try.prog 23 #[.int .i64 n] w fun e w' => e = .returned (.int .i64 ((n + 7) / 8 : Nat)) ∧ w' = w := by
  go_enter Try.func23, Try.ntmps23
  go_wp2
  go_ret
  exact ⟨ret_int (by omega), rfl⟩

theorem marksTo_len (l : List V) (m : Nat) : ∀ k, (marksTo l m k).length = m
  | 0 => by simp [marksTo]
  | k + 1 => by unfold marksTo; split <;> simp [marksTo_len l m k]
theorem pow_mono {a b : Nat} (h : a ≤ b) : 2 ^ a ≤ 2 ^ b := Nat.pow_le_pow_right (by decide) h
theorem marksTo_lt (l : List V) (m : Nat) : ∀ k j x, (marksTo l m k)[j]? = some x → x < 2 ^ (min (k - 8 * j) 8)
  | 0, j, x, h => by
    simp only [marksTo] at h
    have := List.mem_of_getElem? h
    have e := List.eq_of_mem_replicate this
    subst e
    exact Nat.two_pow_pos _
  | k + 1, j, x, h => by
    unfold marksTo at h
    have hm : 2 ^ (min (k - 8 * j) 8) ≤ 2 ^ (min (k + 1 - 8 * j) 8) := pow_mono (by omega)
    split at h
    · by_cases hj : k / 8 = j
      · subst hj
        have hlt : k / 8 < (marksTo l m k).length := by
          rcases Nat.lt_or_ge (k / 8) (marksTo l m k).length with h' | h'
          · exact h'
          · rw [List.getElem?_eq_none (by simpa using h')] at h; cases h
        rw [List.getElem?_set_self hlt, List.getElem?_eq_getElem hlt] at h
        have ih := marksTo_lt l m k (k / 8) _ (List.getElem?_eq_getElem hlt)
        simp only [Option.getD_some, Option.some.injEq] at h
        have e1 : min (k - 8 * (k / 8)) 8 = k % 8 := by omega
        have e2 : min (k + 1 - 8 * (k / 8)) 8 = k % 8 + 1 := by omega
        rw [e1] at ih
        rw [e2, Nat.pow_succ]
        omega
      · rw [List.getElem?_set_ne hj] at h
        exact Nat.lt_of_lt_of_le (marksTo_lt l m k j x h) hm
    · exact Nat.lt_of_lt_of_le (marksTo_lt l m k j x h) hm

def markCells (l : List Nat) : List Value := l.map fun (x : Nat) => Value.int .u8 (x : Int)
theorem or_add (s : Nat) (x : Nat) (hs : s < 8) (hx : x < 2 ^ s) : bits .or .u8 (x : Int) ((2 : Int) ^ s) = ((x + 2 ^ s : Nat) : Int) := by
  have hp : (2 : Int) ^ s = ((2 ^ s : Nat) : Int) := by simp
  have h8 : 2 ^ s ≤ 2 ^ 7 := pow_mono (by omega)
  rw [hp]
  have := bits_join_low .u8 8 (by decide) wraps_u8 s (x : Int) ((2 ^ s : Nat) : Int) (by omega) (by exact_mod_cast hx) (by omega) (by omega) (by simp) (by omega)
  rw [this]; simp
theorem markCells_set (l : List Nat) (j x : Nat) : markCells (l.set j x) = (markCells l).set j (.int .u8 (x : Int)) := by
  unfold markCells; rw [List.map_set]
theorem marksTo_yes {l : List V} {m k : Nat} {x : V} (hx : l[k]? = some x) (hn : nul x = true) : marksTo l m (k + 1) = (marksTo l m k).set (k / 8) (((marksTo l m k)[k / 8]?.getD 0) + 2 ^ (k % 8)) := by
  rw [marksTo, if_pos (by rw [hx]; simp [hn])]
theorem marksTo_no {l : List V} {m k : Nat} {x : V} (hx : l[k]? = some x) (hn : nul x = false) : marksTo l m (k + 1) = marksTo l m k := by
  rw [marksTo, if_neg (by rw [hx]; simp [hn])]

set_option maxHeartbeats 8000000 in
set_option maxRecDepth 100000 in
theorem marks_any (v : Value) (l : List V) (w : World) (hs : Sl w v l) (h60 : l.length ≤ 1000) :
    Calls Try.prog 17 #[v] w fun e w' => ∃ v', e = .returned v' ∧ w'.ownsRow w.heap.size 5 1 v' ((l.length + 7) / 8) (markCells (marksN l)) ∧ Below w.heap.size w w' := by
  obtain ⟨i5, hi5, hz5, hz15, hz25⟩ := info_parts info5
  have HI5 := mkHid (And.intro hi5 (And.intro hz5 (And.intro hz15 hz25)))
  clear hi5 hz5 hz15 hz25
  obtain ⟨a, c, rfl, _, hl⟩ := hs
  have HL := mkHid hl
  have HB := mkHid (bytesOf_any l.length h60)
  obtain ⟨m, hm⟩ : ∃ m, m = (l.length + 7) / 8 := ⟨_, rfl⟩
  have HM := mkHid hm
  have HMN : Hid (marksN l = marksTo l m l.length) := by rw [HM.out]; exact rfl
  rw [← hm] at HB ⊢
  have hmb : m ≤ 200 := by omega
  have hmn : ∀ k, k < l.length → k / 8 < m := fun k hk => by omega
  have HMK := mkHid hmn
  clear hl hm hmn
  go_enter Try.func17, Try.ntmps17
  go_wp2_with fail
  refine (HB.out _).mono ?_
  rintro e w1 ⟨rfl, rfl⟩
  go_wp2_with (refine wpList_make_full _ rfl _ _ 46 rfl w1.heap.size 5 i5 (.int .u8 0) 1 Try.underlying46 HI5.out.1 HI5.out.2.1 HI5.out.2.2.1 .i64 .i64 _ _ m rfl rfl rfl rfl ?m1 ?m2 ?m3 ?_)
  case m1 => rw [HI5.out.2.2.2]; omega
  case m2 => unfold maxLen; omega
  case m3 => exact Nat.le_refl _
  intro w2 ho2 hg2
  have HO2 : Hid (w2.ownsRow w1.heap.size 5 1 (.slice (some ⟨w1.heap.size, 0, none⟩) m m) m (markCells (marksTo l m 0))) := mkHid (by
    have e : (madeCells #[Value.int .u8 0] m).toList = markCells (marksTo l m 0) := by
      rw [toList_madeCells_one]; simp [markCells, marksTo]
    rw [← e]; exact ho2)
  have HB2 : Hid (Below w1.heap.size w1 w2) := mkHid ((Below.refl _ _).grown hg2 (Nat.le_refl _) (by simp))
  clear ho2 hg2
  go_wp2
  go_loopw [11] (fun vi wr => ∃ k : Nat, k ≤ l.length ∧ vi = .int .i64 k ∧ Hid (wr.ownsRow w1.heap.size 5 1 (.slice (some ⟨w1.heap.size, 0, none⟩) m m) m (markCells (marksTo l m k))) ∧ Hid (Below w1.heap.size w1 wr)) (fun vi _ => l.length - (intOf vi).toNat)
  case atStart => exact ⟨0, Nat.zero_le _, rfl, HO2, HB2⟩
  case round =>
    obtain ⟨k, hk, rfl, ho, hw⟩ := hrel
    by_cases hlt : k < l.length
    · obtain ⟨b, off, rfl, hb, hc⟩ := HL.out (by intro e; rw [e] at hlt; simp at hlt)
      obtain ⟨⟨kx, nx, tx⟩, hx⟩ := getEx hlt
      obtain ⟨g0, g1, g2⟩ := hc k _ hx
      have c0 : wr.cell? ⟨b, off + k * 3, none⟩ = some (.int .i64 kx) := (hw.out.cell (p := ⟨b, off + k * 3, none⟩) hb).trans g0
      have hsz := hw.out.size
      clear g0 g1 g2 hc
      by_cases hz : kx = 0
      · subst hz
        have HN := mkHid (marksTo_yes (m := m) hx rfl)
        have hq := HMK.out k hlt
        have hlm : k / 8 < (marksTo l m k).length := by rw [marksTo_len]; exact hq
        have hxe : (marksTo l m k)[k / 8]? = some ((marksTo l m k)[k / 8]) := List.getElem?_eq_getElem hlm
        have hxl := marksTo_lt l m k (k / 8) _ hxe
        rw [show min (k - 8 * (k / 8)) 8 = k % 8 by omega] at hxl
        rw [hxe, Option.getD_some] at HN
        generalize (marksTo l m k)[k / 8] = mx at *
        have cm : wr.cell? ⟨w1.heap.size, k / 8, none⟩ = some (.int .u8 (mx : Int)) := by rw [ho.out.cellAt _ (by omega)]; simp [markCells, hxe]
        have fm := ho.out.frozenAt (k / 8)
        have HS := mkHid (ho.out.stored (k / 8) (.int .u8 ((mx + 2 ^ (k % 8) : Nat) : Int)))
        have HOR := or_add (k % 8) mx (by omega) hxl
        rw [← markCells_set, ← HN.out] at HS
        generalize hqq : k / 8 = q at *
        have hqi : (k : Int) / 8 = (q : Int) := by omega
        have hqm : (q : Int) < (m : Int) := by omega
        generalize hss : k % 8 = s at *
        have hsi : (k : Int) % 8 = (s : Int) := by omega
        have hs8 : s < 8 := by omega
        clear hqq hss hxe hxl hlm
        have hs : s = 0 ∨ s = 1 ∨ s = 2 ∨ s = 3 ∨ s = 4 ∨ s = 5 ∨ s = 6 ∨ s = 7 := by omega
        rcases hs with rfl | rfl | rfl | rfl | rfl | rfl | rfl | rfl
        · have HH := mkHid (show bits .or .u8 (mx : Int) 1 = ((mx + 2 ^ 0 : Nat) : Int) from HOR)
          clear HOR
          go_wp2_with fail
          go_region
          go_wp2
          exact ⟨⟨k + 1, by omega, by go_num, mkHid (by rw [HH.out]; exact HS.out.1), mkHid (hw.out.setCell (p := ⟨w1.heap.size, q, none⟩) (Nat.le_refl _) _).drew⟩, by simp [intOf]; omega⟩
        · have HH := mkHid (show bits .or .u8 (mx : Int) 2 = ((mx + 2 ^ 1 : Nat) : Int) from HOR)
          clear HOR
          go_wp2_with fail
          go_region
          go_wp2
          exact ⟨⟨k + 1, by omega, by go_num, mkHid (by rw [HH.out]; exact HS.out.1), mkHid (hw.out.setCell (p := ⟨w1.heap.size, q, none⟩) (Nat.le_refl _) _).drew⟩, by simp [intOf]; omega⟩
        · have HH := mkHid (show bits .or .u8 (mx : Int) 4 = ((mx + 2 ^ 2 : Nat) : Int) from HOR)
          clear HOR
          go_wp2_with fail
          go_region
          go_wp2
          exact ⟨⟨k + 1, by omega, by go_num, mkHid (by rw [HH.out]; exact HS.out.1), mkHid (hw.out.setCell (p := ⟨w1.heap.size, q, none⟩) (Nat.le_refl _) _).drew⟩, by simp [intOf]; omega⟩
        · have HH := mkHid (show bits .or .u8 (mx : Int) 8 = ((mx + 2 ^ 3 : Nat) : Int) from HOR)
          clear HOR
          go_wp2_with fail
          go_region
          go_wp2
          exact ⟨⟨k + 1, by omega, by go_num, mkHid (by rw [HH.out]; exact HS.out.1), mkHid (hw.out.setCell (p := ⟨w1.heap.size, q, none⟩) (Nat.le_refl _) _).drew⟩, by simp [intOf]; omega⟩
        · have HH := mkHid (show bits .or .u8 (mx : Int) 16 = ((mx + 2 ^ 4 : Nat) : Int) from HOR)
          clear HOR
          go_wp2_with fail
          go_region
          go_wp2
          exact ⟨⟨k + 1, by omega, by go_num, mkHid (by rw [HH.out]; exact HS.out.1), mkHid (hw.out.setCell (p := ⟨w1.heap.size, q, none⟩) (Nat.le_refl _) _).drew⟩, by simp [intOf]; omega⟩
        · have HH := mkHid (show bits .or .u8 (mx : Int) 32 = ((mx + 2 ^ 5 : Nat) : Int) from HOR)
          clear HOR
          go_wp2_with fail
          go_region
          go_wp2
          exact ⟨⟨k + 1, by omega, by go_num, mkHid (by rw [HH.out]; exact HS.out.1), mkHid (hw.out.setCell (p := ⟨w1.heap.size, q, none⟩) (Nat.le_refl _) _).drew⟩, by simp [intOf]; omega⟩
        · have HH := mkHid (show bits .or .u8 (mx : Int) 64 = ((mx + 2 ^ 6 : Nat) : Int) from HOR)
          clear HOR
          go_wp2_with fail
          go_region
          go_wp2
          exact ⟨⟨k + 1, by omega, by go_num, mkHid (by rw [HH.out]; exact HS.out.1), mkHid (hw.out.setCell (p := ⟨w1.heap.size, q, none⟩) (Nat.le_refl _) _).drew⟩, by simp [intOf]; omega⟩
        · have HH := mkHid (show bits .or .u8 (mx : Int) 128 = ((mx + 2 ^ 7 : Nat) : Int) from HOR)
          clear HOR
          go_wp2_with fail
          go_region
          go_wp2
          exact ⟨⟨k + 1, by omega, by go_num, mkHid (by rw [HH.out]; exact HS.out.1), mkHid (hw.out.setCell (p := ⟨w1.heap.size, q, none⟩) (Nat.le_refl _) _).drew⟩, by simp [intOf]; omega⟩
      · have bz : (kx == 0) = false := by simpa using hz
        have HN := mkHid (marksTo_no (m := m) hx bz)
        go_wp2
        exact ⟨⟨k + 1, by omega, by go_num, by rw [HN.out]; exact ho, hw⟩, by simp [intOf]; omega⟩
    · have e : k = l.length := by omega
      subst e
      go_wp2
      go_ret
      exact ⟨_, rfl, by rw [HMN.out]; exact ho.out, hw.out⟩
end Go.Proofs.Ytmbnomplckhmeaa
