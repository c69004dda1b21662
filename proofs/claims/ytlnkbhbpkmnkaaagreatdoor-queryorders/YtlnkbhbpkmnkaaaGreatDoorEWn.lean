/- What the reader's column does, said of every call. -/
import Derived.Test.YtlnkbhbpkmnkaaaGreatDoorEWd
import Derived.Lib.EndianBits
import Derived.Laws.IdiomStrings
import Derived.Laws.ShiftsVarLaws
import Derived.Deep.RegionWith
import Derived.Laws.Closers25b
import Derived.Lib.Strings
import Derived.Lib.IndexBytes
namespace Go.Proofs.YtlnkbhbpkmnkaaaGreatDoor.E
open Go.RowKit Go.Proofs Go.Shelf

set_option maxHeartbeats 1000000 in
theorem bytesOf_any (n : Nat) (hn : n ≤ 1000) (w : World) :
    Calls Tryz.prog 158 #[.int .i64 n] w fun e w' => e = .returned (.int .i64 ((n + 7) / 8 : Nat)) ∧ w' = w := by
  go_enter Tryz.func158, Tryz.ntmps158
  go_wp2
  go_ret
  exact ⟨ret_int (by omega), rfl⟩

theorem marksTo_len (l : List V) (m : Nat) : ∀ k, (marksTo l m k).length = m
  | 0 => by simp [marksTo]
  | k + 1 => by unfold marksTo; split <;> simp [marksTo_len l m k]
theorem pow_mono {a b : Nat} (h : a ≤ b) : 2 ^ a ≤ 2 ^ b := Nat.pow_le_pow_right (by decide) h
theorem marksTo_lt (l : List V) (m : Nat) : ∀ k j x, (marksTo l m k)[j]? = some x → x < 2 ^ (min (k - 8 * j) 8)
  | 0, j, x, h => by
    simp only [marksTo] at h
    have := List.mem_of_getElem? h
    have e := List.eq_of_mem_replicate this
    subst e
    exact Nat.two_pow_pos _
  | k + 1, j, x, h => by
    unfold marksTo at h
    have hm : 2 ^ (min (k - 8 * j) 8) ≤ 2 ^ (min (k + 1 - 8 * j) 8) := pow_mono (by omega)
    split at h
    · by_cases hj : k / 8 = j
      · subst hj
        have hlt : k / 8 < (marksTo l m k).length := by
          rcases Nat.lt_or_ge (k / 8) (marksTo l m k).length with h' | h'
          · exact h'
          · rw [List.getElem?_eq_none (by simpa using h')] at h; cases h
        rw [List.getElem?_set_self hlt, List.getElem?_eq_getElem hlt] at h
        have ih := marksTo_lt l m k (k / 8) _ (List.getElem?_eq_getElem hlt)
        simp only [Option.getD_some, Option.some.injEq] at h
        have e1 : min (k - 8 * (k / 8)) 8 = k % 8 := by omega
        have e2 : min (k + 1 - 8 * (k / 8)) 8 = k % 8 + 1 := by omega
        rw [e1] at ih
        rw [e2, Nat.pow_succ]
        omega
      · rw [List.getElem?_set_ne hj] at h
        exact Nat.lt_of_lt_of_le (marksTo_lt l m k j x h) hm
    · exact Nat.lt_of_lt_of_le (marksTo_lt l m k j x h) hm

def markCells (l : List Nat) : List Value := l.map fun (x : Nat) => Value.int .u8 (x : Int)
theorem or_add (s : Nat) (x : Nat) (hs : s < 8) (hx : x < 2 ^ s) : bits .or .u8 (x : Int) ((2 : Int) ^ s) = ((x + 2 ^ s : Nat) : Int) := by
  have hp : (2 : Int) ^ s = ((2 ^ s : Nat) : Int) := by simp
  have h8 : 2 ^ s ≤ 2 ^ 7 := pow_mono (by omega)
  rw [hp]
  have := bits_join_low .u8 8 (by decide) wraps_u8 s (x : Int) ((2 ^ s : Nat) : Int) (by omega) (by exact_mod_cast hx) (by omega) (by omega) (by simp) (by omega)
  rw [this]; simp
theorem markCells_set (l : List Nat) (j x : Nat) : markCells (l.set j x) = (markCells l).set j (.int .u8 (x : Int)) := by
  unfold markCells; rw [List.map_set]
theorem marksTo_yes {l : List V} {m k : Nat} {x : V} (hx : l[k]? = some x) (hn : nul x = true) : marksTo l m (k + 1) = (marksTo l m k).set (k / 8) (((marksTo l m k)[k / 8]?.getD 0) + 2 ^ (k % 8)) := by
  rw [marksTo, if_pos (by rw [hx]; simp [hn])]
theorem marksTo_no {l : List V} {m k : Nat} {x : V} (hx : l[k]? = some x) (hn : nul x = false) : marksTo l m (k + 1) = marksTo l m k := by
  rw [marksTo, if_neg (by rw [hx]; simp [hn])]

set_option maxHeartbeats 8000000 in
set_option maxRecDepth 100000 in
theorem marks_any (v : Value) (l : List V) (w : World) (hs : Sl w v l) (h60 : l.length ≤ 1000) :
    Calls Tryz.prog 126 #[v] w fun e w' => ∃ v', e = .returned v' ∧ w'.ownsRow w.heap.size 5 1 v' ((l.length + 7) / 8) (markCells (marksN l)) ∧ Below w.heap.size w w' := by
  obtain ⟨i5, hi5, hz5, hz15, hz25⟩ := info_parts info5
  have HI5 := mkHid (And.intro hi5 (And.intro hz5 (And.intro hz15 hz25)))
  clear hi5 hz5 hz15 hz25
  obtain ⟨a, c, rfl, _, hl⟩ := hs
  have HL := mkHid hl
  have HB := mkHid (bytesOf_any l.length h60)
  obtain ⟨m, hm⟩ : ∃ m, m = (l.length + 7) / 8 := ⟨_, rfl⟩
  have HM := mkHid hm
  have HMN : Hid (marksN l = marksTo l m l.length) := by rw [HM.out]; exact rfl
  rw [← hm] at HB ⊢
  have hmb : m ≤ 200 := by omega
  have hmn : ∀ k, k < l.length → k / 8 < m := fun k hk => by omega
  have HMK := mkHid hmn
  clear hl hm hmn
  go_enter Tryz.func126, Tryz.ntmps126
  go_wp2_with fail
  refine (HB.out _).mono ?_
  rintro e w1 ⟨rfl, rfl⟩
  go_wp2_with (refine wpList_make_full _ rfl _ _ 41 rfl w1.heap.size 5 i5 (.int .u8 0) 1 Tryz.underlying41 HI5.out.1 HI5.out.2.1 HI5.out.2.2.1 .i64 .i64 _ _ m rfl rfl rfl rfl ?m1 ?m2 ?m3 ?_)
  case m1 => rw [HI5.out.2.2.2]; omega
  case m2 => unfold maxLen; omega
  case m3 => exact Nat.le_refl _
  intro w2 ho2 hg2
  have HO2 : Hid (w2.ownsRow w1.heap.size 5 1 (.slice (some ⟨w1.heap.size, 0, none⟩) m m) m (markCells (marksTo l m 0))) := mkHid (by
    have e : (madeCells #[Value.int .u8 0] m).toList = markCells (marksTo l m 0) := by
      rw [toList_madeCells_one]; simp [markCells, marksTo]
    rw [← e]; exact ho2)
  have HB2 : Hid (Below w1.heap.size w1 w2) := mkHid ((Below.refl _ _).grown hg2 (Nat.le_refl _) (by simp))
  clear ho2 hg2
  go_wp2
  go_loopw [11] (fun vi wr => ∃ k : Nat, k ≤ l.length ∧ vi = .int .i64 k ∧ Hid (wr.ownsRow w1.heap.size 5 1 (.slice (some ⟨w1.heap.size, 0, none⟩) m m) m (markCells (marksTo l m k))) ∧ Hid (Below w1.heap.size w1 wr)) (fun vi _ => l.length - (intOf vi).toNat)
  case atStart => exact ⟨0, Nat.zero_le _, rfl, HO2, HB2⟩
  case round =>
    obtain ⟨k, hk, rfl, ho, hw⟩ := hrel
    by_cases hlt : k < l.length
    · obtain ⟨b, off, rfl, hb, hc⟩ := HL.out (by intro e; rw [e] at hlt; simp at hlt)
      obtain ⟨⟨kx, nx, tx⟩, hx⟩ := getEx hlt
      obtain ⟨g0, g1, g2⟩ := hc k _ hx
      have c0 : wr.cell? ⟨b, off + k * 3, none⟩ = some (.int .i64 kx) := (hw.out.cell (p := ⟨b, off + k * 3, none⟩) hb).trans g0
      have hsz := hw.out.size
      clear g0 g1 g2 hc
      by_cases hz : kx = 0
      · subst hz
        have HN := mkHid (marksTo_yes (m := m) hx rfl)
        have hq := HMK.out k hlt
        have hlm : k / 8 < (marksTo l m k).length := by rw [marksTo_len]; exact hq
        have hxe : (marksTo l m k)[k / 8]? = some ((marksTo l m k)[k / 8]) := List.getElem?_eq_getElem hlm
        have hxl := marksTo_lt l m k (k / 8) _ hxe
        rw [show min (k - 8 * (k / 8)) 8 = k % 8 by omega] at hxl
        rw [hxe, Option.getD_some] at HN
        generalize (marksTo l m k)[k / 8] = mx at *
        have cm : wr.cell? ⟨w1.heap.size, k / 8, none⟩ = some (.int .u8 (mx : Int)) := by rw [ho.out.cellAt _ (by omega)]; simp [markCells, hxe]
        have fm := ho.out.frozenAt (k / 8)
        have HS := mkHid (ho.out.stored (k / 8) (.int .u8 ((mx + 2 ^ (k % 8) : Nat) : Int)))
        have HOR := or_add (k % 8) mx (by omega) hxl
        rw [← markCells_set, ← HN.out] at HS
        generalize hqq : k / 8 = q at *
        have hqi : (k : Int) / 8 = (q : Int) := by omega
        have hqm : (q : Int) < (m : Int) := by omega
        generalize hss : k % 8 = s at *
        have hsi : (k : Int) % 8 = (s : Int) := by omega
        have hs8 : s < 8 := by omega
        clear hqq hss hxe hxl hlm
        have hs : s = 0 ∨ s = 1 ∨ s = 2 ∨ s = 3 ∨ s = 4 ∨ s = 5 ∨ s = 6 ∨ s = 7 := by omega
        rcases hs with rfl | rfl | rfl | rfl | rfl | rfl | rfl | rfl
        · have HH := mkHid (show bits .or .u8 (mx : Int) 1 = ((mx + 2 ^ 0 : Nat) : Int) from HOR)
          clear HOR
          go_wp2_with fail
          go_region
          go_wp2
          exact ⟨⟨k + 1, by omega, by go_num, mkHid (by rw [HH.out]; exact HS.out.1), mkHid (hw.out.setCell (p := ⟨w1.heap.size, q, none⟩) (Nat.le_refl _) _).drew⟩, by simp [intOf]; omega⟩
        · have HH := mkHid (show bits .or .u8 (mx : Int) 2 = ((mx + 2 ^ 1 : Nat) : Int) from HOR)
          clear HOR
          go_wp2_with fail
          go_region
          go_wp2
          exact ⟨⟨k + 1, by omega, by go_num, mkHid (by rw [HH.out]; exact HS.out.1), mkHid (hw.out.setCell (p := ⟨w1.heap.size, q, none⟩) (Nat.le_refl _) _).drew⟩, by simp [intOf]; omega⟩
        · have HH := mkHid (show bits .or .u8 (mx : Int) 4 = ((mx + 2 ^ 2 : Nat) : Int) from HOR)
          clear HOR
          go_wp2_with fail
          go_region
          go_wp2
          exact ⟨⟨k + 1, by omega, by go_num, mkHid (by rw [HH.out]; exact HS.out.1), mkHid (hw.out.setCell (p := ⟨w1.heap.size, q, none⟩) (Nat.le_refl _) _).drew⟩, by simp [intOf]; omega⟩
        · have HH := mkHid (show bits .or .u8 (mx : Int) 8 = ((mx + 2 ^ 3 : Nat) : Int) from HOR)
          clear HOR
          go_wp2_with fail
          go_region
          go_wp2
          exact ⟨⟨k + 1, by omega, by go_num, mkHid (by rw [HH.out]; exact HS.out.1), mkHid (hw.out.setCell (p := ⟨w1.heap.size, q, none⟩) (Nat.le_refl _) _).drew⟩, by simp [intOf]; omega⟩
        · have HH := mkHid (show bits .or .u8 (mx : Int) 16 = ((mx + 2 ^ 4 : Nat) : Int) from HOR)
          clear HOR
          go_wp2_with fail
          go_region
          go_wp2
          exact ⟨⟨k + 1, by omega, by go_num, mkHid (by rw [HH.out]; exact HS.out.1), mkHid (hw.out.setCell (p := ⟨w1.heap.size, q, none⟩) (Nat.le_refl _) _).drew⟩, by simp [intOf]; omega⟩
        · have HH := mkHid (show bits .or .u8 (mx : Int) 32 = ((mx + 2 ^ 5 : Nat) : Int) from HOR)
          clear HOR
          go_wp2_with fail
          go_region
          go_wp2
          exact ⟨⟨k + 1, by omega, by go_num, mkHid (by rw [HH.out]; exact HS.out.1), mkHid (hw.out.setCell (p := ⟨w1.heap.size, q, none⟩) (Nat.le_refl _) _).drew⟩, by simp [intOf]; omega⟩
        · have HH := mkHid (show bits .or .u8 (mx : Int) 64 = ((mx + 2 ^ 6 : Nat) : Int) from HOR)
          clear HOR
          go_wp2_with fail
          go_region
          go_wp2
          exact ⟨⟨k + 1, by omega, by go_num, mkHid (by rw [HH.out]; exact HS.out.1), mkHid (hw.out.setCell (p := ⟨w1.heap.size, q, none⟩) (Nat.le_refl _) _).drew⟩, by simp [intOf]; omega⟩
        · have HH := mkHid (show bits .or .u8 (mx : Int) 128 = ((mx + 2 ^ 7 : Nat) : Int) from HOR)
          clear HOR
          go_wp2_with fail
          go_region
          go_wp2
          exact ⟨⟨k + 1, by omega, by go_num, mkHid (by rw [HH.out]; exact HS.out.1), mkHid (hw.out.setCell (p := ⟨w1.heap.size, q, none⟩) (Nat.le_refl _) _).drew⟩, by simp [intOf]; omega⟩
      · have bz : (kx == 0) = false := by simpa using hz
        have HN := mkHid (marksTo_no (m := m) hx bz)
        go_wp2
        exact ⟨⟨k + 1, by omega, by go_num, by rw [HN.out]; exact ho, hw⟩, by simp [intOf]; omega⟩
    · have e : k = l.length := by omega
      subst e
      go_wp2
      go_ret
      exact ⟨_, rfl, by rw [HMN.out]; exact ho.out, hw.out⟩
end Go.Proofs.YtlnkbhbpkmnkaaaGreatDoor.E
namespace Go.Proofs.YtlnkbhbpkmnkaaaGreatDoor.E
open Go.RowKit Go.Proofs Go.Shelf

theorem markCells_bytes (l : List V) : markCells (marksN l) = Lib.byteCells (marksB l) := by
  unfold markCells Lib.byteCells marksB
  rw [List.map_map]
  apply List.map_congr_left
  intro x hx
  obtain ⟨j, hj, e⟩ := List.mem_iff_getElem.1 hx
  have h1 := marksTo_lt l ((l.length + 7) / 8) l.length j x (by rw [← e]; exact List.getElem?_eq_getElem hj)
  have h2 : 2 ^ (min (l.length - 8 * j) 8) ≤ 2 ^ 8 := pow_mono (by omega)
  simp [Lib.toUInt8_toNat (show x < 256 by omega)]
theorem marksB_len (l : List V) : (marksB l).length = (l.length + 7) / 8 := by unfold marksB marksN; rw [List.length_map, marksTo_len]
theorem right_small {k n : Int} {t : ByteArray} (h : rightV k n t = true) : t.size ≤ 40 := by
  unfold rightV at h
  have he : t.toList.isEmpty = true → t.size ≤ 40 := fun h' => by
    have : t.data.toList = [] := by simpa [ByteArray.toList_eq] using h'
    have e : t.size = t.data.toList.length := by rw [Array.length_toList]; rfl
    rw [e, this]; simp
  split at h
  · simp only [Bool.and_eq_true] at h; exact he h.2
  · split at h
    · exact he h
    · split at h
      · simp only [Bool.and_eq_true, rtB, decide_eq_true_eq] at h; exact h.2.1
      · cases h
/-- Numbers of 64 bits, texts that can be. -/
def Okl (l : List V) : Prop := ∀ x ∈ l, -9223372036854775808 ≤ x.2.1 ∧ x.2.1 ≤ 9223372036854775807 ∧ x.2.2.size ≤ maxLen
theorem fits_few {kind : Int} {l : List V} (h : fitsB kind l = true) (ho : Okl l) (hl : l.length ≤ 60) : Few l := by
  refine ⟨hl, fun x hx => ⟨(ho x hx).1, (ho x hx).2.1, ?_⟩⟩
  simp only [fitsB, Bool.and_eq_true, Bool.not_eq_true', List.any_eq_false] at h
  have := h.2 x hx
  simp only [badV, Bool.or_eq_true, not_or, Bool.not_eq_true, Bool.not_eq_false'] at this
  exact right_small this.1
theorem known_few {l : List V} (h : Few l) : Few (known l) :=
  ⟨Nat.le_trans (List.length_filter_le _ _) h.1, fun x hx => h.2 x (List.mem_filter.1 hx).1⟩
theorem fits_kind {kind : Int} {l : List V} (h : fitsB kind l = true) : kind = 1 ∨ kind = 2 := by
  simp only [fitsB, Bool.and_eq_true, Bool.or_eq_true, beq_iff_eq] at h
  exact h.1
/-- What Encode answers. -/
def encRes (kind : Int) (l : List V) : Value :=
  if fitsB kind l then
    if l.length ≤ 60 then .tuple #[.string (str (encB kind l)), .nilIface] else .tuple #[.string ⟨#[]⟩, .iface 89 (.int .i64 4)]
  else .tuple #[.string ⟨#[]⟩, .iface 89 (.int .i64 1)]
theorem fewB_len {kind : Int} {l : List V} (h : Few l) : (fewB kind l).length ≤ 4001 := fewTo_len h 4

set_option maxHeartbeats 4000000 in
set_option maxRecDepth 100000 in
theorem encode_any (kind : Int) (v : Value) (l : List V) (w : World) (hs : Sl w v l) (hl : l.length ≤ 1000) (ho : Okl l) :
    Calls Tryz.prog 89 #[.int .i64 kind, v] w fun e w' => e = .returned (encRes kind l) ∧ Below w.heap.size w w' := by
  have HF := mkHid (fits_any kind v l w hs hl (fun x hx => (ho x hx).2.2))
  have HS := mkHid hs
  obtain ⟨i5, hi5, hz5, hz15, hz25⟩ := info_parts info5
  have HI5 := mkHid (And.intro hi5 (And.intro hz5 (And.intro hz15 hz25)))
  clear hi5 hz5 hz15 hz25
  obtain ⟨a, c, rfl, _, _⟩ := hs
  cases hf : fitsB kind l with
  | false =>
    rw [hf] at HF
    have HR : Hid (encRes kind l = .tuple #[.string ⟨#[]⟩, .iface 89 (.int .i64 1)]) := mkHid (by unfold encRes; rw [hf]; rfl)
    clear ho hf
    go_enter Tryz.func89, Tryz.ntmps89
    go_wp2_with (go_at_call 124; refine HF.out.mono ?_; rintro e w1 ⟨rfl, hb1⟩)
    go_ret2
    exact ⟨by rw [HR.out]; rfl, hb1⟩
  | true =>
    rw [hf] at HF
    by_cases h60 : l.length ≤ 60
    · have HR : Hid (encRes kind l = .tuple #[.string (str (encB kind l)), .nilIface]) := mkHid (by unfold encRes; rw [hf]; simp [h60])
      have HFW := mkHid (fits_few hf ho h60)
      have HK := mkHid (fits_kind hf)
      clear ho hf
      go_enter Tryz.func89, Tryz.ntmps89
      go_wp2_with fail
      refine HF.out.mono ?_
      rintro e w1 ⟨rfl, hb1⟩
      have hs1 := hb1.size
      go_wp2_with fail
      refine (append_any w1.heap.size 0 l.length (by omega) _ [] w1 (World.ownsRow_nil _ _ _ _) (Nat.le_refl _) (by omega)).mono ?_
      rintro e w2 ⟨v2, rfl, ho2, hw2⟩
      have hb2 : Below w1.heap.size w1 w2 := hw2.1
      have hs2 := hb2.size
      have hb02 : Below w.heap.size w w2 := hb1.trans (hb2.mono hs1)
      have HM := mkHid (marks_any _ l w2 (HS.out.up hb02) hl)
      go_wp2_with fail
      refine HM.out.mono ?_
      rintro e w3 ⟨v3, rfl, ho3, hb3⟩
      have hs3 := hb3.size
      have HA := mkHid (ownsRow_up ho2 hb3)
      rw [markCells_bytes] at ho3
      have HB := mkHid ho3
      clear ho2 ho3
      have hul : (Lib.uvarint l.length).length ≤ 10 := Lib.uvarint_length64 (by omega)
      go_wp2_with (at_builtin; refine wpList_append_row rfl _ _ 41 rfl w1.heap.size 5 i5 (.int .u8 0) 1 1 Tryz.underlying41 HI5.out.1 HI5.out.2.1 HI5.out.2.2.1 HI5.out.2.2.2 rfl (by decide) _ _ _ rfl HA.out _ _ _ _ rfl HB.out (byteCells_one _) ?f1 ?f2 ?f3 ?_)
      case f1 => unfold maxLen; omega
      case f2 => omega
      case f3 => omega
      intro v4 w4 ho4 hg4
      have hb14 : Below w1.heap.size w1 w4 := below_grown_own (hb2.trans (hb3.mono hs2)) HA.out hg4 (by omega)
      have hs4 := hb14.size
      have hb04 : Below w.heap.size w w4 := hb1.trans (hb14.mono hs1)
      have HO4 := mkHid ho4
      clear ho4 hg4
      have HKN := mkHid (known_any _ l w4 (HS.out.up hb04) hl)
      go_wp2_with fail
      refine HKN.out.mono ?_
      rintro e w5 ⟨v5, rfl, hS5, hb5⟩
      have hs5 := hb5.size
      have HFE := mkHid (fewest_any kind v5 (known l) w5 hS5 (known_few HFW.out) HK.out)
      clear hS5
      go_wp2_with fail
      refine HFE.out.mono ?_
      rintro e w6 ⟨v6, rfl, ho6, hb6⟩
      have hs6 := hb6.size
      have HA6 := mkHid (ownsRow_up (ownsRow_up HO4.out hb5) hb6)
      have HB6 := mkHid ho6
      have hfl := fewB_len (kind := kind) (known_few HFW.out)
      clear ho6
      go_wp2_with (at_builtin; refine wpList_append_row rfl _ _ 41 rfl w1.heap.size 5 i5 (.int .u8 0) 1 1 Tryz.underlying41 HI5.out.1 HI5.out.2.1 HI5.out.2.2.1 HI5.out.2.2.2 rfl (by decide) _ _ _ rfl HA6.out _ _ _ _ rfl HB6.out (byteCells_one _) ?f4 ?f5 ?f6 ?_)
      case f4 => unfold maxLen; omega
      case f5 => omega
      case f6 => omega
      intro v7 w7 ho7 hg7
      have hb07 : Below w.heap.size w w7 := hb1.trans ((below_grown_own (hb14.trans ((hb5.mono hs4).trans (hb6.mono (by omega)))) HA6.out hg7 (by omega)).mono hs1)
      have ho8 : w7.ownsRow w1.heap.size 5 1 v7 (encB kind l).length (Lib.byteCells (encB kind l)) := by
        unfold encB
        rw [List.length_append, List.length_append, marksB_len, byteCells_app, byteCells_app]
        simpa using ho7
      obtain ⟨g, cap, rfl, _, _⟩ := ho8.form (by unfold encB; have := Lib.uvarint_pos l.length; simp; omega)
      have hcv : (convert 41 9 (.slice (some ⟨g, 0, none⟩) (encB kind l).length cap)).run Tryz.prog w7 = .ok (.string (str (encB kind l))) w7 :=
        run_convert_bytes_back w7 41 9 5 ⟨g, 0, none⟩ cap (encB kind l) Tryz.underlying41 Tryz.underlying5 Tryz.underlying9 (fun j hj => ho8.cells rfl j _ (by simp [Lib.byteCells, hj]))
      clear ho7 ho8 hg7
      go_wp2
      go_ret2
      exact ⟨by rw [HR.out]; rfl, hb07⟩
    · have HR : Hid (encRes kind l = .tuple #[.string ⟨#[]⟩, .iface 89 (.int .i64 4)]) := mkHid (by unfold encRes; rw [hf]; simp [h60])
      clear ho hf
      go_enter Tryz.func89, Tryz.ntmps89
      go_wp2_with (go_at_call 124; refine HF.out.mono ?_; rintro e w1 ⟨rfl, hb1⟩)
      go_ret2
      exact ⟨by rw [HR.out]; rfl, hb1⟩
end Go.Proofs.YtlnkbhbpkmnkaaaGreatDoor.E
namespace Go.Proofs.YtlnkbhbpkmnkaaaGreatDoor.E
open Go.RowKit Go.Proofs Go.Shelf

theorem or_shift (k acc c : Nat) (hk : k ≤ 9) (hacc : acc < 2 ^ (7 * k)) (hc : c < 256) :
    bits .or .u64 (acc : Int) (IntKind.u64.wrap (IntKind.u64.wrap (bits .and .u8 (c : Int) 127) * 2 ^ (7 * k))) = ((acc + c % 128 * 2 ^ (7 * k) % 18446744073709551616 : Nat) : Int) := by
  have h63 : 2 ^ (7 * k) ≤ 2 ^ 63 := pow_mono (by omega)
  have e1 : IntKind.u64.wrap (bits .and .u8 (c : Int) 127) = ((c % 128 : Nat) : Int) := by
    rw [u8_and127 _ (by omega) (by omega), IntKind.wrap_u64]; omega
  have e2 : (((c % 128 : Nat) : Int) * 2 ^ (7 * k)) = ((c % 128 * 2 ^ (7 * k) : Nat) : Int) := by simp
  have e3 : IntKind.u64.wrap ((c % 128 * 2 ^ (7 * k) : Nat) : Int) = ((c % 128 * 2 ^ (7 * k) % 18446744073709551616 : Nat) : Int) := by
    rw [IntKind.wrap_u64]; omega
  rw [e1, e2, e3]
  have hd : (2 : Nat) ^ (7 * k) ∣ 18446744073709551616 := ⟨2 ^ (64 - 7 * k), by rw [← Nat.pow_add, show 7 * k + (64 - 7 * k) = 64 by omega]⟩
  have hm : (c % 128 * 2 ^ (7 * k) % 18446744073709551616) % 2 ^ (7 * k) = 0 := by
    rw [Nat.mod_mod_of_dvd _ hd]; simp
  rw [bits_join_low .u64 64 (by decide) wraps_u64 (7 * k) (acc : Int) _ (by omega) (by exact_mod_cast hacc) (by omega) (by omega) (by exact_mod_cast hm) (by omega)]
  simp
theorem acc_lt {k acc c : Nat} (hk : k ≤ 9) (hacc : acc < 2 ^ (7 * k)) : acc + c % 128 * 2 ^ (7 * k) % 18446744073709551616 < 2 ^ (7 * (k + 1)) ∧ acc + c % 128 * 2 ^ (7 * k) % 18446744073709551616 < 18446744073709551616 := by
  have h1 : c % 128 * 2 ^ (7 * k) % 18446744073709551616 ≤ c % 128 * 2 ^ (7 * k) := Nat.mod_le _ _
  have h2 : c % 128 * 2 ^ (7 * k) ≤ 127 * 2 ^ (7 * k) := Nat.mul_le_mul_right _ (by omega)
  have e : 2 ^ (7 * (k + 1)) = 128 * 2 ^ (7 * k) := by rw [show 7 * (k + 1) = 7 * k + 7 by omega, Nat.pow_add, Nat.mul_comm]
  refine ⟨by rw [e]; omega, ?_⟩
  have hd : (2 : Nat) ^ (7 * k) ∣ 18446744073709551616 := ⟨2 ^ (64 - 7 * k), by rw [← Nat.pow_add, show 7 * k + (64 - 7 * k) = 64 by omega]⟩
  have hm : (2 : Nat) ^ (7 * k) ∣ c % 128 * 2 ^ (7 * k) % 18446744073709551616 := (Nat.dvd_mod_iff hd).2 ⟨c % 128, by rw [Nat.mul_comm]⟩
  obtain ⟨q, hq⟩ := hd
  obtain ⟨p, hp⟩ := hm
  have hlt : c % 128 * 2 ^ (7 * k) % 18446744073709551616 < 18446744073709551616 := Nat.mod_lt _ (by decide)
  rw [hp]
  rw [hp, hq] at hlt
  have hpq : p < q := Nat.lt_of_mul_lt_mul_left hlt
  have : 2 ^ (7 * k) * (p + 1) ≤ 2 ^ (7 * k) * q := Nat.mul_le_mul_left _ hpq
  rw [Nat.mul_add, Nat.mul_one] at this
  omega
theorem extract_head (s : ByteArray) (b : Nat) : s.extract 0 b = str (s.data.toList.take b) := by
  apply ByteArray.ext
  apply Array.toList_inj.mp
  rw [str_toList, Lib.extract_data]; simp
theorem extract_tail (s : ByteArray) (a : Nat) : s.extract a s.size = str (s.data.toList.drop a) := by
  apply ByteArray.ext
  apply Array.toList_inj.mp
  rw [str_toList, Lib.extract_to_end]
theorem eq_bytes (a : List UInt8) (s : ByteArray) (b : Nat) : ((str a).toList == (s.extract 0 b).toList) = decide (a = s.data.toList.take b) := by
  rw [extract_head, ByteArray.toList_eq, ByteArray.toList_eq, str_toList, str_toList]
  by_cases h : a = s.data.toList.take b <;> simp [h]
theorem conv_row {W : World} {B n : Nat} {v : Value} {l : List UInt8} (h : W.ownsRow B 5 1 v n (Lib.byteCells l)) (hl : n = l.length) (hp : 0 < l.length) :
    ∃ g cap, v = .slice (some ⟨g, 0, none⟩) l.length cap ∧ (∀ m, (convert 41 9 (.slice (some ⟨g, 0, none⟩) l.length cap)).run Tryz.prog (W.drewN m) = .ok (.string (str l)) (W.drewN m)) := by
  subst hl
  obtain ⟨g, cap, rfl, _, _⟩ := h.form hp
  exact ⟨g, cap, rfl, fun m => run_convert_bytes_back (W.drewN m) 41 9 5 ⟨g, 0, none⟩ cap l Tryz.underlying41 Tryz.underlying5 Tryz.underlying9 (fun j hj => by rw [World.cell?_drewN]; exact h.cells rfl j _ (by simp [Lib.byteCells, hj]))⟩
theorem ret3 {a a' b b' c c' : Value} (h1 : a = a') (h2 : b = b') (h3 : c = c') : Ending.returned (.tuple #[a, b, c]) = .returned (.tuple #[a', b', c']) := by rw [h1, h2, h3]
theorem drop_byte (s : ByteArray) (k : Nat) (h : k < s.size) : s.data.toList.drop k = s[k] :: s.data.toList.drop (k + 1) := by
  rw [List.drop_eq_getElem_cons (by simpa using h)]; rfl
theorem rd_go {full : List UInt8} {k acc : Nat} {c : UInt8} {r : List UInt8} (hk : k ≠ 10) (hc : ¬ c.toNat < 128) : rdGo full k (c :: r) acc = rdGo full (k + 1) r (acc + c.toNat % 128 * 2 ^ (7 * k) % 18446744073709551616) := by
  rw [rdGo, if_neg hk, if_neg hc]
theorem rd_end {full : List UInt8} {k acc : Nat} {c : UInt8} {r : List UInt8} (hk : k ≠ 10) (hc : c.toNat < 128) : rdGo full k (c :: r) acc = (acc + c.toNat % 128 * 2 ^ (7 * k) % 18446744073709551616, r, decide (Lib.uvarint (acc + c.toNat % 128 * 2 ^ (7 * k) % 18446744073709551616) = full.take (k + 1))) := by
  rw [rdGo, if_neg hk, if_pos hc]
theorem rd_ten (full r : List UInt8) (acc : Nat) : rdGo full 10 r acc = (0, full, false) := by cases r <;> simp [rdGo]
theorem rd_nil (full : List UInt8) (k acc : Nat) : rdGo full k [] acc = (0, full, false) := by simp [rdGo]

end Go.Proofs.YtlnkbhbpkmnkaaaGreatDoor.E
namespace Go.Proofs.YtlnkbhbpkmnkaaaGreatDoor.E
open Go.RowKit Go.Proofs Go.Shelf

/-- number.Reader's struct, as it lies at the beginning of a block, with what lies behind it. -/
def RdT (T : TypeId) (tl : List Value) (w : World) (b : Nat) (s : St) : Prop := w.heap[b]? = some (.cells (.string (str s.1) :: .bool s.2 :: tl).toArray T (0, 0))
theorem rdT_cells {T : TypeId} {tl : List Value} {w : World} {b : Nat} {s : St} (h : RdT T tl w b s) : w.cell? ⟨b, 0, none⟩ = some (.string (str s.1)) ∧ w.cell? ⟨b, 1, none⟩ = some (.bool s.2) ∧ w.frozen? ⟨b, 0, none⟩ = false ∧ w.frozen? ⟨b, 1, none⟩ = false := by
  have h' : w.heap[b]? = some (.cells (.string (str s.1) :: .bool s.2 :: tl).toArray T (0, 0)) := h
  refine ⟨by simp [World.cell?, h'], by simp [World.cell?, h'], frozen_of_row w b 0 _ T h', frozen_of_row w b 1 _ T h'⟩
theorem RdT.up {T : TypeId} {tl : List Value} {w W : World} {b : Nat} {s : St} (h : RdT T tl w b s) (hb : Below w.heap.size w W) : RdT T tl W b s := blk_up h hb
theorem RdT.lt {T : TypeId} {tl : List Value} {w : World} {b : Nat} {s : St} (h : RdT T tl w b s) : b < w.heap.size := blk_lt h
theorem RdT.set1 {T : TypeId} {tl : List Value} {w : World} {b : Nat} {s : St} (h : RdT T tl w b s) (l : List UInt8) : RdT T tl (w.setCell ⟨b, 0, none⟩ (.string (str l))) b (l, s.2) := by
  have := heap_setCell_same w b 0 _ T (.string (str l)) h
  simpa [RdT] using this
theorem RdT.set2 {T : TypeId} {tl : List Value} {w : World} {b : Nat} {s : St} (h : RdT T tl w b s) (q : Bool) : RdT T tl (w.setCell ⟨b, 1, none⟩ (.bool q)) b (s.1, q) := by
  have := heap_setCell_same w b 1 _ T (.bool q) h
  simpa [RdT] using this
theorem grown_refl (w : World) (r : Option Nat) : w.grownBy w r := ⟨rfl, rfl, rfl, Nat.le_refl _, fun _ _ _ => rfl⟩
theorem grown_trans {a b c : World} {r : Option Nat} (h : a.grownBy b r) (k : b.grownBy c r) : a.grownBy c r :=
  ⟨k.os.trans h.os, k.tape.trans h.tape, k.output.trans h.output, Nat.le_trans h.size k.size, fun i hi hn => (k.block i (Nat.lt_of_lt_of_le hi h.size) hn).trans (h.block i hi hn)⟩
theorem grown_below {a b : World} {r : Option Nat} (h : Below a.heap.size a b) : a.grownBy b r := ⟨h.os, h.tape, h.output, h.size, fun i hi _ => h.block i hi⟩
theorem grown_set (w : World) (b j : Nat) (u : Value) : w.grownBy (w.setCell ⟨b, j, none⟩ u) (some b) :=
  ⟨rfl, rfl, rfl, by simp, fun k _ hk => heap_setCell_other w ⟨b, j, none⟩ k u (fun e => hk (by simp [e]))⟩

theorem rdGo_lt (full : List UInt8) : ∀ (r : List UInt8) (i acc : Nat), i ≤ 10 → acc < 2 ^ (7 * i) → acc < 18446744073709551616 → (rdGo full i r acc).1 < 18446744073709551616
  | [], i, acc, _, _, _ => by simp [rdGo]
  | c :: r, i, acc, hi, ha, _ => by
    by_cases h10 : i = 10
    · rw [h10, rd_ten]; show (0 : Nat) < _; decide
    · obtain ⟨h1, h2⟩ := acc_lt (k := i) (acc := acc) (c := c.toNat) (by omega) ha
      by_cases hc : c.toNat < 128
      · rw [rd_end h10 hc]; exact h2
      · rw [rd_go h10 hc]; exact rdGo_lt full r _ _ (by omega) h1 h2
theorem rdGo_len (full : List UInt8) : ∀ (r : List UInt8) (i acc : Nat), r.length ≤ full.length → (rdGo full i r acc).2.1.length ≤ full.length ∧ ((rdGo full i r acc).2.2 = true → (rdGo full i r acc).2.1.length < full.length)
  | [], i, acc, _ => by simp [rdGo]
  | c :: r, i, acc, h => by
    by_cases h10 : i = 10
    · rw [h10, rd_ten]; simp
    · by_cases hc : c.toNat < 128
      · rw [rd_end h10 hc]; simp at h ⊢; exact ⟨by omega, fun _ => by omega⟩
      · rw [rd_go h10 hc]; exact rdGo_len full r _ _ (by simp at h; omega)
theorem numR_lt (s : St) : (numR s).1 < 18446744073709551616 := rdGo_lt s.1 s.1 0 0 (by omega) (by decide) (by decide)
theorem numR_len (s : St) : (numR s).2.1.length ≤ s.1.length := (rdGo_len s.1 s.1 0 0 (Nat.le_refl _)).1
theorem numR_less {s : St} (h : (numR s).2.2 = false) : (numR s).2.1.length < s.1.length := by
  have h2 : (rdNum s.1).2.2 = true := by simp [numR] at h; exact h.2
  exact (rdGo_len s.1 s.1 0 0 (Nat.le_refl _)).2 h2
theorem numR_wrong {s : St} (h : s.2 = true) : (numR s).2.2 = true := by simp [numR, h]

theorem grown_new {a w : World} {r : Option Nat} (h : a.grownBy w r) {g j : Nat} (hg : a.heap.size ≤ g) (u : Value) : a.grownBy (w.setCell ⟨g, j, none⟩ u) r :=
  ⟨h.os, h.tape, h.output, by have := h.size; simpa using this, fun k hk hn => (heap_setCell_other w ⟨g, j, none⟩ k u (by simp; omega)).trans (h.block k hk hn)⟩
theorem grown_alloc {a w : World} {r : Option Nat} (h : a.grownBy w r) (o : Obj) : a.grownBy (w.alloc o) r := grown_trans h (World.grownBy_alloc w o r)
theorem upToR_bad {most : Int} {s : St} (h : badR most s = true) : upToR most s = (0, ((numR s).2.1, true)) := by unfold upToR; rw [if_pos h]
theorem upToR_ok {most : Int} {s : St} (h : badR most s = false) : upToR most s = numR s := by unfold upToR; rw [if_neg (by simp [h])]

end Go.Proofs.YtlnkbhbpkmnkaaaGreatDoor.E
namespace Go.Proofs.YtlnkbhbpkmnkaaaGreatDoor.E
open Go.RowKit Go.Proofs Go.Shelf

theorem upToR_len (most : Int) (s : St) : (upToR most s).2.1.length ≤ s.1.length := by
  unfold upToR; split <;> exact numR_len s
theorem upToR_le (most : Int) (s : St) : ((upToR most s).1 : Int) ≤ max most 0 := by
  unfold upToR
  split
  · simp; omega
  · rename_i h
    simp only [badR, Bool.or_eq_true, decide_eq_true_eq, not_or] at h
    omega
theorem upToR_less {most : Int} {s : St} (h : (upToR most s).2.2 = false) : (upToR most s).2.1.length < s.1.length := by
  cases hb : badR most s with
  | true => rw [upToR_bad hb] at h; cases h
  | false => rw [upToR_ok hb] at h ⊢; exact numR_less h
theorem upToR_wrong {most : Int} {s : St} (h : s.2 = true) : (upToR most s).2.2 = true := by
  have : badR most s = true := by simp [badR, numR_wrong h]
  rw [upToR_bad this]
theorem bytesR_len (n : Nat) (s : St) : (bytesR n s).2.1.length ≤ s.1.length := by unfold bytesR; split <;> simp
theorem bytesR_wrong {n : Nat} {s : St} (h : s.2 = true) : (bytesR n s).2.2 = true := by unfold bytesR; split <;> simp [h]
theorem valueR_len (kind : Int) (s : St) : (valueR kind s).2.1.length ≤ s.1.length := by
  unfold valueR
  split
  · exact numR_len s
  · exact Nat.le_trans (bytesR_len _ _) (upToR_len _ _)
theorem valueR_wrong {kind : Int} {s : St} (h : s.2 = true) : (valueR kind s).2.2 = true := by
  unfold valueR
  split
  · exact numR_wrong h
  · exact bytesR_wrong (upToR_wrong h)
theorem unzig_in {n : Nat} (h : n < 18446744073709551616) : -9223372036854775808 ≤ Lib.unzigzag n ∧ Lib.unzigzag n ≤ 9223372036854775807 := by unfold Lib.unzigzag; split <;> omega

end Go.Proofs.YtlnkbhbpkmnkaaaGreatDoor.E
namespace Go.Proofs.YtlnkbhbpkmnkaaaGreatDoor.E
open Go.RowKit Go.Proofs Go.Shelf

theorem ownsRow_rd {w W : World} {B e z n b : Nat} {v : Value} {xs : List Value} (h : w.ownsRow B e z v n xs) (hb : b < B) (hg : w.grownBy W (some b)) : W.ownsRow B e z v n xs := by
  refine h.kept hg ?_
  cases hv : v.ownBlock with
  | none => exact .inl rfl
  | some k => refine .inr (fun e => ?_); simp at e; have := (h.lt k hv).1; omega
theorem grown_app {a w W : World} {B e z n : Nat} {r : Option Nat} {v : Value} {xs : List Value} (ha : a.grownBy w r) (h : w.ownsRow B e z v n xs) (hB : a.heap.size ≤ B) (hg : w.grownBy W v.ownBlock) : a.grownBy W r :=
  ⟨hg.os.trans ha.os, hg.tape.trans ha.tape, hg.output.trans ha.output, Nat.le_trans ha.size hg.size, fun k hk hn => (hg.block k (Nat.lt_of_lt_of_le hk ha.size) (fun e => by have := (h.lt k e.symm).1; omega)).trans (ha.block k hk hn)⟩
end Go.Proofs.YtlnkbhbpkmnkaaaGreatDoor.E
namespace Go.Proofs.YtlnkbhbpkmnkaaaGreatDoor.E
open Go.RowKit Go.Proofs Go.Shelf

theorem valuesR_num (k : Int) : ∀ (n : Nat) (s : St), (valuesR k n s).1.length = n
  | 0, _ => rfl
  | n + 1, s => by simp [valuesR, valuesR_num k n]
theorem valuesR_len (k : Int) : ∀ (n : Nat) (s : St), (valuesR k n s).2.1.length ≤ s.1.length
  | 0, _ => Nat.le_refl _
  | n + 1, s => Nat.le_trans (valuesR_len k n _) (valueR_len k s)

end Go.Proofs.YtlnkbhbpkmnkaaaGreatDoor.E
namespace Go.Proofs.YtlnkbhbpkmnkaaaGreatDoor.E
open Go.RowKit Go.Proofs Go.Shelf

/-- How much is left of the reader at b: nothing, once something is wrong. -/
def mu (w : World) (b : Nat) : Nat :=
  match w.cell? ⟨b, 0, none⟩, w.cell? ⟨b, 1, none⟩ with
  | some (.string t), some (.bool false) => t.size + 1
  | _, _ => 0
theorem runsR_stop {k : Int} {n f : Nat} {D : List V} {st : St} (h : ¬ (D.length < n ∧ st.2 = false)) : runsR k n f D st = (D, st) := by
  cases f with
  | zero => rfl
  | succ f => rw [runsR, if_neg h]
theorem runsR_go {k : Int} {n f : Nat} {D : List V} {st : St} (h : D.length < n ∧ st.2 = false) : runsR k n (f + 1) D st = runsR k n f (runL k n D st) (runSt k n D st) := by
  rw [runsR, if_pos h]

end Go.Proofs.YtlnkbhbpkmnkaaaGreatDoor.E
namespace Go.Proofs.YtlnkbhbpkmnkaaaGreatDoor.E
open Go.RowKit Go.Proofs Go.Shelf

theorem runsR_num {k : Int} {n : Nat} : ∀ (f : Nat) (D : List V) (s : St), (s.2 = false → s.1.length < f) → D.length ≤ n → (runsR k n f D s).2.2 = false → (runsR k n f D s).1.length = n
  | 0, D, s, hf, hd, h => by
    rw [runsR] at h
    have := hf h; omega
  | f + 1, D, s, hf, hd, h => by
    by_cases hc : D.length < n ∧ s.2 = false
    · rw [runsR_go hc] at h ⊢
      have hu1 := upToR_le ((n - D.length : Nat) : Int) s
      refine runsR_num f _ _ (fun h2 => ?_) ?_ h
      · have h3 : (upToR ((n - D.length : Nat) : Int) s).2.2 = false := by
          cases h4 : (upToR ((n - D.length : Nat) : Int) s).2.2 with
          | false => rfl
          | true => have := valueR_wrong (kind := k) h4; rw [runSt, this] at h2; cases h2
        have h5 := upToR_less h3
        have h6 := valueR_len k (upToR ((n - D.length : Nat) : Int) s).2
        have h7 := hf hc.2
        show (runSt k n D s).1.length < f
        unfold runSt; omega
      · unfold runL; rw [List.length_append, List.length_replicate]; omega
    · rw [runsR_stop hc] at h ⊢
      simp only at h ⊢
      have : ¬ D.length < n := fun h2 => hc ⟨h2, h⟩
      omega
theorem whichGo_num {d : List V} : ∀ (n : Nat) (A : List V) (s : St), (whichGo d n A s).2.2 = false → (whichGo d n A s).1.length = A.length + n
  | 0, A, s, _ => rfl
  | n + 1, A, s, h => by
    rw [whichGo] at h ⊢
    split at h
    · rename_i h2; simp only at h; rw [h] at h2; cases h2
    · rename_i h2
      rw [if_neg h2, whichGo_num n _ _ h]; simp; omega
theorem stepsR_num : ∀ (n : Nat) (a : Int) (s : St), (stepsR n a s).1.length = n
  | 0, _, _ => rfl
  | n + 1, a, s => by simp [stepsR, stepsR_num n]
theorem knownR_num {k : Int} {way n : Nat} {s : St} (h : (knownR k way n s).2.2 = false) : (knownR k way n s).1.length = n := by
  unfold knownR at h ⊢
  split
  · exact valuesR_num k n s
  · split
    · rename_i h1 h2
      rw [if_neg h1, if_pos h2] at h
      exact runsR_num _ _ _ (fun _ => by omega) (by simp) h
    · split
      · rename_i h1 h2 h3
        rw [if_neg h1, if_neg h2, if_pos h3] at h
        have := whichGo_num n [] _ h
        unfold whichR; rw [this]; simp
      · split
        · exact stepsR_num n 0 s
        · rename_i h1 h2 h3 h4
          rw [if_neg h1, if_neg h2, if_neg h3, if_neg h4] at h; cases h

end Go.Proofs.YtlnkbhbpkmnkaaaGreatDoor.E
namespace Go.Proofs.YtlnkbhbpkmnkaaaGreatDoor.E
open Go.RowKit Go.Proofs Go.Shelf

theorem info3 : (Tryz.prog.info? 3).map (fun i => (i.zero, i.size, i.bytes)) = some (some (.int .i64 0), 1, 8) := by kernel_rfl
theorem bytesR_num {n : Nat} {s : St} (h : (bytesR n s).2.2 = false) : (bytesR n s).1.length = n ∧ s.2 = false := by
  unfold bytesR at h ⊢
  split
  · rename_i h2; rw [if_pos h2] at h; cases h
  · rename_i h2; rw [if_neg h2] at h; exact ⟨by simp; omega, h⟩
theorem made_flat (n : Nat) : (madeCells (#[.int .i64 0, .int .i64 0, .string ⟨#[]⟩] : Array Value) (n * 3)).toList = flatV (List.replicate n (0, 0, str [])) := by
  apply List.ext_getElem?
  intro j
  by_cases hj : j < n * 3
  · have hx : (List.replicate n ((0, 0, str []) : V))[j / 3]? = some (0, 0, str []) := by rw [List.getElem?_replicate, if_pos (by omega)]
    obtain ⟨a0, a1, a2⟩ := flatV_at hx
    have hm : j % 3 = 0 ∨ j % 3 = 1 ∨ j % 3 = 2 := by omega
    have e : (madeCells (#[.int .i64 0, .int .i64 0, .string ⟨#[]⟩] : Array Value) (n * 3)).toList[j]? = some ((#[.int .i64 0, .int .i64 0, .string ⟨#[]⟩] : Array Value)[j % 3]!) := by simp [madeCells, hj]
    rw [e]
    rcases hm with hm | hm | hm
    · rw [show j / 3 * 3 = j by omega] at a0
      rw [a0, hm]; rfl
    · rw [show j / 3 * 3 + 1 = j by omega] at a1
      rw [a1, hm]; rfl
    · rw [show j / 3 * 3 + 2 = j by omega] at a2
      rw [a2, hm]; rfl
  · have e : (madeCells (#[.int .i64 0, .int .i64 0, .string ⟨#[]⟩] : Array Value) (n * 3)).toList[j]? = none := by simp [madeCells, hj]
    rw [e, List.getElem?_eq_none (by rw [flatV_len]; simp; omega)]
theorem placesTo_lt (nb : List UInt8) : ∀ k p, p ∈ placesTo nb k → p < k
  | 0, p, h => by simp [placesTo] at h
  | k + 1, p, h => by
    unfold placesTo at h
    split at h
    · simp at h
      rcases h with h | rfl
      · have := placesTo_lt nb k p h; omega
      · omega
    · have := placesTo_lt nb k p h; omega
theorem placesTo_len (nb : List UInt8) : ∀ k, (placesTo nb k).length ≤ k
  | 0 => by simp [placesTo]
  | k + 1 => by
    have := placesTo_len nb k
    unfold placesTo; split <;> simp <;> omega
theorem putAll_nil (l : List V) (ps : List Nat) : putAll l ps [] = l := by cases ps <;> rfl
theorem putAll_nil' (l : List V) (vs : List V) : putAll l [] vs = l := by cases vs <;> rfl
theorem putAll_next : ∀ (l : List V) (ps : List Nat) (vs : List V) (i p : Nat) (x : V), ps[i]? = some p → vs[i]? = some x → putAll l (ps.take (i + 1)) (vs.take (i + 1)) = (putAll l (ps.take i) (vs.take i)).set p x
  | l, [], vs, i, p, x, h, _ => by simp at h
  | l, q :: ps, [], i, p, x, _, h => by simp at h
  | l, q :: ps, y :: vs, 0, p, x, h1, h2 => by
    simp at h1 h2; subst h1 h2
    simp [putAll]
  | l, q :: ps, y :: vs, i + 1, p, x, h1, h2 => by
    have e := putAll_next (l.set q y) ps vs i p x (by simpa using h1) (by simpa using h2)
    simp only [List.take_succ_cons, putAll]
    exact e
theorem putAll_len : ∀ (l : List V) (ps : List Nat) (vs : List V), (putAll l ps vs).length = l.length
  | l, [], vs => by rw [putAll_nil']
  | l, q :: ps, [] => rfl
  | l, q :: ps, y :: vs => by rw [putAll, putAll_len]; simp
def intCells (l : List Nat) : List Value := l.map fun (x : Nat) => Value.int .i64 (x : Int)
theorem intCells_one (l : List Nat) : ∀ y ∈ intCells l, y.oneCell' = true := by
  intro y hy; simp only [intCells, List.mem_map] at hy; obtain ⟨x, _, rfl⟩ := hy; rfl
theorem and_one (x : Nat) (h : x < 256) : bits .and .u8 (x : Int) 1 = ((x % 2 : Nat) : Int) := by
  have := bits_mask .u8 8 (by decide) wraps_u8 1 (by decide) (x : Int) (by omega) (by omega)
  simpa using this
theorem places_yes {nb : List UInt8} {k : Nat} (h : bitOf nb k = 0) : placesTo nb (k + 1) = placesTo nb k ++ [k] := by rw [placesTo, if_pos h]
theorem places_no {nb : List UInt8} {k : Nat} (h : ¬ bitOf nb k = 0) : placesTo nb (k + 1) = placesTo nb k := by rw [placesTo, if_neg h]
theorem str_at (nb : List UInt8) (q : Nat) (h : q < (str nb).size) : (str nb)[q].toNat = (nb[q]?.getD 0).toNat := by
  have h2 : q < nb.length := by rw [str_size] at h; exact h
  rw [List.getElem?_eq_getElem h2]
  rfl

theorem ownsRow_slice {w : World} {B e z n : Nat} {v : Value} {xs : List Value} (h : w.ownsRow B e z v n xs) : ∃ ao cp, v = .slice ao n cp ∧ n ≤ cp := by
  rcases h.2 with ⟨rfl, rfl⟩ | ⟨g, cap, cur, e1, e2, e3, e4, _⟩
  · exact ⟨none, 0, rfl, Nat.le_refl _⟩
  · exact ⟨_, _, e1, e4⟩

end Go.Proofs.YtlnkbhbpkmnkaaaGreatDoor.E
