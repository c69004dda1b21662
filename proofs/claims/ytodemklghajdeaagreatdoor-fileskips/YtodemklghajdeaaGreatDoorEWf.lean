/- What encode.Encode does, said of every call. -/
import Derived.Test.YtodemklghajdeaaGreatDoorEWd
import Derived.Lib.EndianBits
import Derived.Laws.IdiomStrings
namespace Go.Proofs.YtodemklghajdeaaGreatDoor.E
open Go.RowKit Go.Proofs Go.Shelf

set_option maxHeartbeats 1000000 in
theorem bytesOf_any (n : Nat) (hn : n ≤ 1000) (w : World) :
    Calls Tryz.prog 124 #[.int .i64 n] w fun e w' => e = .returned (.int .i64 ((n + 7) / 8 : Nat)) ∧ w' = w := by
  go_enter Tryz.func124, Tryz.ntmps124
  go_wp2
  go_ret
  exact ⟨ret_int (by omega), rfl⟩

theorem marksTo_len (l : List V) (m : Nat) : ∀ k, (marksTo l m k).length = m
  | 0 => by simp [marksTo]
  | k + 1 => by unfold marksTo; split <;> simp [marksTo_len l m k]
theorem pow_mono {a b : Nat} (h : a ≤ b) : 2 ^ a ≤ 2 ^ b := Nat.pow_le_pow_right (by decide) h
theorem marksTo_lt (l : List V) (m : Nat) : ∀ k j x, (marksTo l m k)[j]? = some x → x < 2 ^ (min (k - 8 * j) 8)
  | 0, j, x, h => by
    simp only [marksTo] at h
    have := List.mem_of_getElem? h
    have e := List.eq_of_mem_replicate this
    subst e
    exact Nat.two_pow_pos _
  | k + 1, j, x, h => by
    unfold marksTo at h
    have hm : 2 ^ (min (k - 8 * j) 8) ≤ 2 ^ (min (k + 1 - 8 * j) 8) := pow_mono (by omega)
    split at h
    · by_cases hj : k / 8 = j
      · subst hj
        have hlt : k / 8 < (marksTo l m k).length := by
          rcases Nat.lt_or_ge (k / 8) (marksTo l m k).length with h' | h'
          · exact h'
          · rw [List.getElem?_eq_none (by simpa using h')] at h; cases h
        rw [List.getElem?_set_self hlt, List.getElem?_eq_getElem hlt] at h
        have ih := marksTo_lt l m k (k / 8) _ (List.getElem?_eq_getElem hlt)
        simp only [Option.getD_some, Option.some.injEq] at h
        have e1 : min (k - 8 * (k / 8)) 8 = k % 8 := by omega
        have e2 : min (k + 1 - 8 * (k / 8)) 8 = k % 8 + 1 := by omega
        rw [e1] at ih
        rw [e2, Nat.pow_succ]
        omega
      · rw [List.getElem?_set_ne hj] at h
        exact Nat.lt_of_lt_of_le (marksTo_lt l m k j x h) hm
    · exact Nat.lt_of_lt_of_le (marksTo_lt l m k j x h) hm

def markCells (l : List Nat) : List Value := l.map fun (x : Nat) => Value.int .u8 (x : Int)
theorem or_add (s : Nat) (x : Nat) (hs : s < 8) (hx : x < 2 ^ s) : bits .or .u8 (x : Int) ((2 : Int) ^ s) = ((x + 2 ^ s : Nat) : Int) := by
  have hp : (2 : Int) ^ s = ((2 ^ s : Nat) : Int) := by simp
  have h8 : 2 ^ s ≤ 2 ^ 7 := pow_mono (by omega)
  rw [hp]
  have := bits_join_low .u8 8 (by decide) wraps_u8 s (x : Int) ((2 ^ s : Nat) : Int) (by omega) (by exact_mod_cast hx) (by omega) (by omega) (by simp) (by omega)
  rw [this]; simp
theorem markCells_set (l : List Nat) (j x : Nat) : markCells (l.set j x) = (markCells l).set j (.int .u8 (x : Int)) := by
  unfold markCells; rw [List.map_set]
theorem marksTo_yes {l : List V} {m k : Nat} {x : V} (hx : l[k]? = some x) (hn : nul x = true) : marksTo l m (k + 1) = (marksTo l m k).set (k / 8) (((marksTo l m k)[k / 8]?.getD 0) + 2 ^ (k % 8)) := by
  rw [marksTo, if_pos (by rw [hx]; simp [hn])]
theorem marksTo_no {l : List V} {m k : Nat} {x : V} (hx : l[k]? = some x) (hn : nul x = false) : marksTo l m (k + 1) = marksTo l m k := by
  rw [marksTo, if_neg (by rw [hx]; simp [hn])]

set_option maxHeartbeats 8000000 in
set_option maxRecDepth 100000 in
theorem marks_any (v : Value) (l : List V) (w : World) (hs : Sl w v l) (h60 : l.length ≤ 1000) :
    Calls Tryz.prog 101 #[v] w fun e w' => ∃ v', e = .returned v' ∧ w'.ownsRow w.heap.size 5 1 v' ((l.length + 7) / 8) (markCells (marksN l)) ∧ Below w.heap.size w w' := by
  obtain ⟨i5, hi5, hz5, hz15, hz25⟩ := info_parts info5
  have HI5 := mkHid (And.intro hi5 (And.intro hz5 (And.intro hz15 hz25)))
  clear hi5 hz5 hz15 hz25
  obtain ⟨a, c, rfl, _, hl⟩ := hs
  have HL := mkHid hl
  have HB := mkHid (bytesOf_any l.length h60)
  obtain ⟨m, hm⟩ : ∃ m, m = (l.length + 7) / 8 := ⟨_, rfl⟩
  have HM := mkHid hm
  have HMN : Hid (marksN l = marksTo l m l.length) := by rw [HM.out]; exact rfl
  rw [← hm] at HB ⊢
  have hmb : m ≤ 200 := by omega
  have hmn : ∀ k, k < l.length → k / 8 < m := fun k hk => by omega
  have HMK := mkHid hmn
  clear hl hm hmn
  go_enter Tryz.func101, Tryz.ntmps101
  go_wp2_with fail
  refine (HB.out _).mono ?_
  rintro e w1 ⟨rfl, rfl⟩
  go_wp2_with (refine wpList_make_full _ rfl _ _ 82 rfl w1.heap.size 5 i5 (.int .u8 0) 1 Tryz.underlying82 HI5.out.1 HI5.out.2.1 HI5.out.2.2.1 .i64 .i64 _ _ m rfl rfl rfl rfl ?m1 ?m2 ?m3 ?_)
  case m1 => rw [HI5.out.2.2.2]; omega
  case m2 => unfold maxLen; omega
  case m3 => exact Nat.le_refl _
  intro w2 ho2 hg2
  have HO2 : Hid (w2.ownsRow w1.heap.size 5 1 (.slice (some ⟨w1.heap.size, 0, none⟩) m m) m (markCells (marksTo l m 0))) := mkHid (by
    have e : (madeCells #[Value.int .u8 0] m).toList = markCells (marksTo l m 0) := by
      rw [toList_madeCells_one]; simp [markCells, marksTo]
    rw [← e]; exact ho2)
  have HB2 : Hid (Below w1.heap.size w1 w2) := mkHid ((Below.refl _ _).grown hg2 (Nat.le_refl _) (by simp))
  clear ho2 hg2
  go_wp2
  go_loopw [11] (fun vi wr => ∃ k : Nat, k ≤ l.length ∧ vi = .int .i64 k ∧ Hid (wr.ownsRow w1.heap.size 5 1 (.slice (some ⟨w1.heap.size, 0, none⟩) m m) m (markCells (marksTo l m k))) ∧ Hid (Below w1.heap.size w1 wr)) (fun vi _ => l.length - (intOf vi).toNat)
  case atStart => exact ⟨0, Nat.zero_le _, rfl, HO2, HB2⟩
  case round =>
    obtain ⟨k, hk, rfl, ho, hw⟩ := hrel
    by_cases hlt : k < l.length
    · obtain ⟨b, off, rfl, hb, hc⟩ := HL.out (by intro e; rw [e] at hlt; simp at hlt)
      obtain ⟨⟨kx, nx, tx⟩, hx⟩ := getEx hlt
      obtain ⟨g0, g1, g2⟩ := hc k _ hx
      have c0 : wr.cell? ⟨b, off + k * 3, none⟩ = some (.int .i64 kx) := (hw.out.cell (p := ⟨b, off + k * 3, none⟩) hb).trans g0
      have hsz := hw.out.size
      clear g0 g1 g2 hc
      by_cases hz : kx = 0
      · subst hz
        have HN := mkHid (marksTo_yes (m := m) hx rfl)
        have hq := HMK.out k hlt
        have hlm : k / 8 < (marksTo l m k).length := by rw [marksTo_len]; exact hq
        have hxe : (marksTo l m k)[k / 8]? = some ((marksTo l m k)[k / 8]) := List.getElem?_eq_getElem hlm
        have hxl := marksTo_lt l m k (k / 8) _ hxe
        rw [show min (k - 8 * (k / 8)) 8 = k % 8 by omega] at hxl
        rw [hxe, Option.getD_some] at HN
        generalize (marksTo l m k)[k / 8] = mx at *
        have cm : wr.cell? ⟨w1.heap.size, k / 8, none⟩ = some (.int .u8 (mx : Int)) := by rw [ho.out.cellAt _ (by omega)]; simp [markCells, hxe]
        have fm := ho.out.frozenAt (k / 8)
        have HS := mkHid (ho.out.stored (k / 8) (.int .u8 ((mx + 2 ^ (k % 8) : Nat) : Int)))
        have HOR := or_add (k % 8) mx (by omega) hxl
        rw [← markCells_set, ← HN.out] at HS
        generalize hqq : k / 8 = q at *
        have hqi : (k : Int) / 8 = (q : Int) := by omega
        have hqm : (q : Int) < (m : Int) := by omega
        generalize hss : k % 8 = s at *
        have hsi : (k : Int) % 8 = (s : Int) := by omega
        have hs8 : s < 8 := by omega
        clear hqq hss hxe hxl hlm
        have hs : s = 0 ∨ s = 1 ∨ s = 2 ∨ s = 3 ∨ s = 4 ∨ s = 5 ∨ s = 6 ∨ s = 7 := by omega
        rcases hs with rfl | rfl | rfl | rfl | rfl | rfl | rfl | rfl
        · have HH := mkHid (show bits .or .u8 (mx : Int) 1 = ((mx + 2 ^ 0 : Nat) : Int) from HOR)
          clear HOR
          go_wp2_with fail
          go_region
          go_wp2
          exact ⟨⟨k + 1, by omega, by go_num, mkHid (by rw [HH.out]; exact HS.out.1), mkHid (hw.out.setCell (p := ⟨w1.heap.size, q, none⟩) (Nat.le_refl _) _).drew⟩, by simp [intOf]; omega⟩
        · have HH := mkHid (show bits .or .u8 (mx : Int) 2 = ((mx + 2 ^ 1 : Nat) : Int) from HOR)
          clear HOR
          go_wp2_with fail
          go_region
          go_wp2
          exact ⟨⟨k + 1, by omega, by go_num, mkHid (by rw [HH.out]; exact HS.out.1), mkHid (hw.out.setCell (p := ⟨w1.heap.size, q, none⟩) (Nat.le_refl _) _).drew⟩, by simp [intOf]; omega⟩
        · have HH := mkHid (show bits .or .u8 (mx : Int) 4 = ((mx + 2 ^ 2 : Nat) : Int) from HOR)
          clear HOR
          go_wp2_with fail
          go_region
          go_wp2
          exact ⟨⟨k + 1, by omega, by go_num, mkHid (by rw [HH.out]; exact HS.out.1), mkHid (hw.out.setCell (p := ⟨w1.heap.size, q, none⟩) (Nat.le_refl _) _).drew⟩, by simp [intOf]; omega⟩
        · have HH := mkHid (show bits .or .u8 (mx : Int) 8 = ((mx + 2 ^ 3 : Nat) : Int) from HOR)
          clear HOR
          go_wp2_with fail
          go_region
          go_wp2
          exact ⟨⟨k + 1, by omega, by go_num, mkHid (by rw [HH.out]; exact HS.out.1), mkHid (hw.out.setCell (p := ⟨w1.heap.size, q, none⟩) (Nat.le_refl _) _).drew⟩, by simp [intOf]; omega⟩
        · have HH := mkHid (show bits .or .u8 (mx : Int) 16 = ((mx + 2 ^ 4 : Nat) : Int) from HOR)
          clear HOR
          go_wp2_with fail
          go_region
          go_wp2
          exact ⟨⟨k + 1, by omega, by go_num, mkHid (by rw [HH.out]; exact HS.out.1), mkHid (hw.out.setCell (p := ⟨w1.heap.size, q, none⟩) (Nat.le_refl _) _).drew⟩, by simp [intOf]; omega⟩
        · have HH := mkHid (show bits .or .u8 (mx : Int) 32 = ((mx + 2 ^ 5 : Nat) : Int) from HOR)
          clear HOR
          go_wp2_with fail
          go_region
          go_wp2
          exact ⟨⟨k + 1, by omega, by go_num, mkHid (by rw [HH.out]; exact HS.out.1), mkHid (hw.out.setCell (p := ⟨w1.heap.size, q, none⟩) (Nat.le_refl _) _).drew⟩, by simp [intOf]; omega⟩
        · have HH := mkHid (show bits .or .u8 (mx : Int) 64 = ((mx + 2 ^ 6 : Nat) : Int) from HOR)
          clear HOR
          go_wp2_with fail
          go_region
          go_wp2
          exact ⟨⟨k + 1, by omega, by go_num, mkHid (by rw [HH.out]; exact HS.out.1), mkHid (hw.out.setCell (p := ⟨w1.heap.size, q, none⟩) (Nat.le_refl _) _).drew⟩, by simp [intOf]; omega⟩
        · have HH := mkHid (show bits .or .u8 (mx : Int) 128 = ((mx + 2 ^ 7 : Nat) : Int) from HOR)
          clear HOR
          go_wp2_with fail
          go_region
          go_wp2
          exact ⟨⟨k + 1, by omega, by go_num, mkHid (by rw [HH.out]; exact HS.out.1), mkHid (hw.out.setCell (p := ⟨w1.heap.size, q, none⟩) (Nat.le_refl _) _).drew⟩, by simp [intOf]; omega⟩
      · have bz : (kx == 0) = false := by simpa using hz
        have HN := mkHid (marksTo_no (m := m) hx bz)
        go_wp2
        exact ⟨⟨k + 1, by omega, by go_num, by rw [HN.out]; exact ho, hw⟩, by simp [intOf]; omega⟩
    · have e : k = l.length := by omega
      subst e
      go_wp2
      go_ret
      exact ⟨_, rfl, by rw [HMN.out]; exact ho.out, hw.out⟩
end Go.Proofs.YtodemklghajdeaaGreatDoor.E

namespace Go.Proofs.YtodemklghajdeaaGreatDoor.E
open Go.RowKit Go.Proofs Go.Shelf

theorem markCells_bytes (l : List V) : markCells (marksN l) = Lib.byteCells (marksB l) := by
  unfold markCells Lib.byteCells marksB
  rw [List.map_map]
  apply List.map_congr_left
  intro x hx
  obtain ⟨j, hj, e⟩ := List.mem_iff_getElem.1 hx
  have h1 := marksTo_lt l ((l.length + 7) / 8) l.length j x (by rw [← e]; exact List.getElem?_eq_getElem hj)
  have h2 : 2 ^ (min (l.length - 8 * j) 8) ≤ 2 ^ 8 := pow_mono (by omega)
  simp [Lib.toUInt8_toNat (show x < 256 by omega)]
theorem marksB_len (l : List V) : (marksB l).length = (l.length + 7) / 8 := by unfold marksB marksN; rw [List.length_map, marksTo_len]
theorem right_small {k n : Int} {t : ByteArray} (h : rightV k n t = true) : t.size ≤ 40 := by
  unfold rightV at h
  have he : t.toList.isEmpty = true → t.size ≤ 40 := fun h' => by
    have : t.data.toList = [] := by simpa [ByteArray.toList_eq] using h'
    have e : t.size = t.data.toList.length := by rw [Array.length_toList]; rfl
    rw [e, this]; simp
  split at h
  · simp only [Bool.and_eq_true] at h; exact he h.2
  · split at h
    · exact he h
    · split at h
      · simp only [Bool.and_eq_true, rtB, decide_eq_true_eq] at h; exact h.2.1
      · cases h
/-- Numbers of 64 bits, texts that can be. -/
def Okl (l : List V) : Prop := ∀ x ∈ l, -9223372036854775808 ≤ x.2.1 ∧ x.2.1 ≤ 9223372036854775807 ∧ x.2.2.size ≤ maxLen
theorem fits_few {kind : Int} {l : List V} (h : fitsB kind l = true) (ho : Okl l) (hl : l.length ≤ 60) : Few l := by
  refine ⟨hl, fun x hx => ⟨(ho x hx).1, (ho x hx).2.1, ?_⟩⟩
  simp only [fitsB, Bool.and_eq_true, Bool.not_eq_true', List.any_eq_false] at h
  have := h.2 x hx
  simp only [badV, Bool.or_eq_true, not_or, Bool.not_eq_true, Bool.not_eq_false'] at this
  exact right_small this.1
theorem known_few {l : List V} (h : Few l) : Few (known l) :=
  ⟨Nat.le_trans (List.length_filter_le _ _) h.1, fun x hx => h.2 x (List.mem_filter.1 hx).1⟩
theorem fits_kind {kind : Int} {l : List V} (h : fitsB kind l = true) : kind = 1 ∨ kind = 2 := by
  simp only [fitsB, Bool.and_eq_true, Bool.or_eq_true, beq_iff_eq] at h
  exact h.1
/-- What Encode answers. -/
def encRes (kind : Int) (l : List V) : Value :=
  if fitsB kind l then
    if l.length ≤ 60 then .tuple #[.string (str (encB kind l)), .nilIface] else .tuple #[.string ⟨#[]⟩, .iface 80 (.int .i64 4)]
  else .tuple #[.string ⟨#[]⟩, .iface 80 (.int .i64 1)]
theorem fewB_len {kind : Int} {l : List V} (h : Few l) : (fewB kind l).length ≤ 4001 := fewTo_len h 4

set_option maxHeartbeats 4000000 in
set_option maxRecDepth 100000 in
theorem encode_any (kind : Int) (v : Value) (l : List V) (w : World) (hs : Sl w v l) (hl : l.length ≤ 1000) (ho : Okl l) :
    Calls Tryz.prog 71 #[.int .i64 kind, v] w fun e w' => e = .returned (encRes kind l) ∧ Below w.heap.size w w' := by
  have HF := mkHid (fits_any kind v l w hs hl (fun x hx => (ho x hx).2.2))
  have HS := mkHid hs
  obtain ⟨i5, hi5, hz5, hz15, hz25⟩ := info_parts info5
  have HI5 := mkHid (And.intro hi5 (And.intro hz5 (And.intro hz15 hz25)))
  clear hi5 hz5 hz15 hz25
  obtain ⟨a, c, rfl, _, _⟩ := hs
  cases hf : fitsB kind l with
  | false =>
    rw [hf] at HF
    have HR : Hid (encRes kind l = .tuple #[.string ⟨#[]⟩, .iface 80 (.int .i64 1)]) := mkHid (by unfold encRes; rw [hf]; rfl)
    clear ho hf
    go_enter Tryz.func71, Tryz.ntmps71
    go_wp2_with (go_at_call 100; refine HF.out.mono ?_; rintro e w1 ⟨rfl, hb1⟩)
    go_ret2
    exact ⟨by rw [HR.out]; rfl, hb1⟩
  | true =>
    rw [hf] at HF
    by_cases h60 : l.length ≤ 60
    · have HR : Hid (encRes kind l = .tuple #[.string (str (encB kind l)), .nilIface]) := mkHid (by unfold encRes; rw [hf]; simp [h60])
      have HFW := mkHid (fits_few hf ho h60)
      have HK := mkHid (fits_kind hf)
      clear ho hf
      go_enter Tryz.func71, Tryz.ntmps71
      go_wp2_with fail
      refine HF.out.mono ?_
      rintro e w1 ⟨rfl, hb1⟩
      have hs1 := hb1.size
      go_wp2_with fail
      refine (append_any w1.heap.size 0 l.length (by omega) _ [] w1 (World.ownsRow_nil _ _ _ _) (Nat.le_refl _) (by omega)).mono ?_
      rintro e w2 ⟨v2, rfl, ho2, hw2⟩
      have hb2 : Below w1.heap.size w1 w2 := hw2.1
      have hs2 := hb2.size
      have hb02 : Below w.heap.size w w2 := hb1.trans (hb2.mono hs1)
      have HM := mkHid (marks_any _ l w2 (HS.out.up hb02) hl)
      go_wp2_with fail
      refine HM.out.mono ?_
      rintro e w3 ⟨v3, rfl, ho3, hb3⟩
      have hs3 := hb3.size
      have HA := mkHid (ownsRow_up ho2 hb3)
      rw [markCells_bytes] at ho3
      have HB := mkHid ho3
      clear ho2 ho3
      have hul : (Lib.uvarint l.length).length ≤ 10 := Lib.uvarint_length64 (by omega)
      go_wp2_with (at_builtin; refine wpList_append_row rfl _ _ 82 rfl w1.heap.size 5 i5 (.int .u8 0) 1 1 Tryz.underlying82 HI5.out.1 HI5.out.2.1 HI5.out.2.2.1 HI5.out.2.2.2 rfl (by decide) _ _ _ rfl HA.out _ _ _ _ rfl HB.out (byteCells_one _) ?f1 ?f2 ?f3 ?_)
      case f1 => unfold maxLen; omega
      case f2 => omega
      case f3 => omega
      intro v4 w4 ho4 hg4
      have hb14 : Below w1.heap.size w1 w4 := below_grown_own (hb2.trans (hb3.mono hs2)) HA.out hg4 (by omega)
      have hs4 := hb14.size
      have hb04 : Below w.heap.size w w4 := hb1.trans (hb14.mono hs1)
      have HO4 := mkHid ho4
      clear ho4 hg4
      have HKN := mkHid (known_any _ l w4 (HS.out.up hb04) hl)
      go_wp2_with fail
      refine HKN.out.mono ?_
      rintro e w5 ⟨v5, rfl, hS5, hb5⟩
      have hs5 := hb5.size
      have HFE := mkHid (fewest_any kind v5 (known l) w5 hS5 (known_few HFW.out) HK.out)
      clear hS5
      go_wp2_with fail
      refine HFE.out.mono ?_
      rintro e w6 ⟨v6, rfl, ho6, hb6⟩
      have hs6 := hb6.size
      have HA6 := mkHid (ownsRow_up (ownsRow_up HO4.out hb5) hb6)
      have HB6 := mkHid ho6
      have hfl := fewB_len (kind := kind) (known_few HFW.out)
      clear ho6
      go_wp2_with (at_builtin; refine wpList_append_row rfl _ _ 82 rfl w1.heap.size 5 i5 (.int .u8 0) 1 1 Tryz.underlying82 HI5.out.1 HI5.out.2.1 HI5.out.2.2.1 HI5.out.2.2.2 rfl (by decide) _ _ _ rfl HA6.out _ _ _ _ rfl HB6.out (byteCells_one _) ?f4 ?f5 ?f6 ?_)
      case f4 => unfold maxLen; omega
      case f5 => omega
      case f6 => omega
      intro v7 w7 ho7 hg7
      have hb07 : Below w.heap.size w w7 := hb1.trans ((below_grown_own (hb14.trans ((hb5.mono hs4).trans (hb6.mono (by omega)))) HA6.out hg7 (by omega)).mono hs1)
      have ho8 : w7.ownsRow w1.heap.size 5 1 v7 (encB kind l).length (Lib.byteCells (encB kind l)) := by
        unfold encB
        rw [List.length_append, List.length_append, marksB_len, byteCells_app, byteCells_app]
        simpa using ho7
      obtain ⟨g, cap, rfl, _, _⟩ := ho8.form (by unfold encB; have := Lib.uvarint_pos l.length; simp; omega)
      have hcv : (convert 82 9 (.slice (some ⟨g, 0, none⟩) (encB kind l).length cap)).run Tryz.prog w7 = .ok (.string (str (encB kind l))) w7 :=
        run_convert_bytes_back w7 82 9 5 ⟨g, 0, none⟩ cap (encB kind l) Tryz.underlying82 Tryz.underlying5 Tryz.underlying9 (fun j hj => ho8.cells rfl j _ (by simp [Lib.byteCells, hj]))
      clear ho7 ho8 hg7
      go_wp2
      go_ret2
      exact ⟨by rw [HR.out]; rfl, hb07⟩
    · have HR : Hid (encRes kind l = .tuple #[.string ⟨#[]⟩, .iface 80 (.int .i64 4)]) := mkHid (by unfold encRes; rw [hf]; simp [h60])
      clear ho hf
      go_enter Tryz.func71, Tryz.ntmps71
      go_wp2_with (go_at_call 100; refine HF.out.mono ?_; rintro e w1 ⟨rfl, hb1⟩)
      go_ret2
      exact ⟨by rw [HR.out]; rfl, hb1⟩
end Go.Proofs.YtodemklghajdeaaGreatDoor.E
