/- What strings.Cut around one byte, strconv.Atoi and ParseInt do, said of every call. -/
import Derived.Test.YtfppidnfomelpaaGreatDoorShelfR
import Derived.Test.YtfppidnfomelpaaGreatDoorRD
import Derived.Test.YtfppidnfomelpaaGreatDoorP8
import Derived.Lib.CutLaws
namespace Go.Proofs.YtfppidnfomelpaaGreatDoor
open Go.RowKit Go.Proofs Go.Lib Go.Joins

theorem cutB_no {s : ByteArray} {c : UInt8} (h : indexByte s.data.toList c = -1) : bA (cutL c s.data.toList).1 = s ∧ bA (cutL c s.data.toList).2.1 = ⟨#[]⟩ ∧ (cutL c s.data.toList).2.2 = false := by
  rw [cut_index_no h]
  exact ⟨bA_list s, rfl, rfl⟩
theorem cutB_yes {s : ByteArray} {c : UInt8} {i : Nat} (h : indexByte s.data.toList c = i) : bA (cutL c s.data.toList).1 = s.extract 0 i ∧ bA (cutL c s.data.toList).2.1 = s.extract (i + 1) s.size ∧ (cutL c s.data.toList).2.2 = true ∧ i < s.size := by
  obtain ⟨e, hl⟩ := cut_index_yes h
  rw [e]
  refine ⟨?_, ?_, rfl, by rw [Array.length_toList] at hl; exact hl⟩
  · rw [extract_eq]; simp [bA]
  · have ht : List.take (s.size - (i + 1)) (List.drop (i + 1) s.data.toList) = List.drop (i + 1) s.data.toList :=
      List.take_of_length_le (by rw [List.length_drop, ← size_eq]; exact Nat.le_refl _)
    rw [extract_eq, ht]
    rfl
set_option maxHeartbeats 1000000 in
theorem cutS_any (s : ByteArray) (c : UInt8) (w : World) (hs : s.size ≤ maxLen) :
    Calls Tryz.prog 76 #[.string s, .string ⟨#[c]⟩] w fun e w' => e = .returned (.tuple #[.string (bA (cutL c s.data.toList).1), .string (bA (cutL c s.data.toList).2.1), .bool (cutL c s.data.toList).2.2]) ∧ ∃ n, w' = w.drewN n := by
  unfold maxLen at hs
  rcases index_cases s.data.toList c with hi | ⟨i, hi⟩
  · obtain ⟨e1, e2, e3⟩ := cutB_no hi
    rw [e1, e2, e3]
    have HC := mkH (fun W => Tryz.stringslite_Index_one s c W)
    rw [hi] at HC
    clear hi e1 e2 e3
    go_enter Tryz.func76, Tryz.ntmps76
    go_wp2_with (go_at_call 107; refine (HC.out _).mono ?_; rintro e w' ⟨rfl, rfl⟩)
    go_ret3
    exact ⟨rfl, 0, rfl⟩
  · obtain ⟨e1, e2, e3, hl⟩ := cutB_yes hi
    rw [e1, e2, e3]
    have HC := mkH (fun W => Tryz.stringslite_Index_one s c W)
    rw [hi] at HC
    clear hi e1 e2 e3
    have c1 : (0 : Int) ≤ (i : Int) := by omega
    have c2 : (i : Int) ≤ (s.size : Int) := by omega
    have c3 : (0 : Int) ≤ (i : Int) + 1 := by omega
    have c4 : (i : Int) + 1 ≤ (s.size : Int) := by omega
    go_enter Tryz.func76, Tryz.ntmps76
    go_wp2_with (go_at_call 107; refine (HC.out _).mono ?_; rintro e w' ⟨rfl, rfl⟩)
    go_region
    go_wp2
    go_ret3
    exact ⟨rfl, 1, rfl⟩
theorem cut_any (s : ByteArray) (c : UInt8) (w : World) (hs : s.size ≤ maxLen) :
    Calls Tryz.prog 43 #[.string s, .string ⟨#[c]⟩] w fun e w' => e = .returned (.tuple #[.string (bA (cutL c s.data.toList).1), .string (bA (cutL c s.data.toList).2.1), .bool (cutL c s.data.toList).2.2]) ∧ Below w.heap.size w w' := by
  have HC := mkH (cutS_any s c w hs)
  generalize bA (cutL c s.data.toList).1 = x at *
  generalize bA (cutL c s.data.toList).2.1 = y at *
  generalize (cutL c s.data.toList).2.2 = z at *
  go_enter Tryz.func43, Tryz.ntmps43
  go_wp2_with (go_at_call 76; refine HC.out.mono ?_; rintro e w' ⟨rfl, n, rfl⟩)
  go_ret3
  exact ⟨rfl, ⟨rfl, rfl, rfl, Nat.le_refl _, fun _ _ => rfl⟩⟩

/-- The two errors of package strconv lie where its text lays them. -/
def ErrB (w : World) : Prop := (∃ te pe, w.cell? ⟨4, 0, none⟩ = some (.iface te pe)) ∧ ∃ te pe, w.cell? ⟨5, 0, none⟩ = some (.iface te pe)
theorem cell_lt {w : World} {b o : Nat} {v : Value} (h : w.cell? ⟨b, o, none⟩ = some v) : b < w.heap.size := Lib.lt_of_cell h
theorem ErrB.below {w W : World} (h : ErrB w) (hb : Below w.heap.size w W) : ErrB W := by
  obtain ⟨⟨t1, p1, h1⟩, t2, p2, h2⟩ := h
  exact ⟨⟨t1, p1, (hb.cell (p := ⟨4, 0, none⟩) (cell_lt h1)).trans h1⟩, t2, p2, (hb.cell (p := ⟨5, 0, none⟩) (cell_lt h2)).trans h2⟩
/-- A number, and no error; or none, and an error. -/
def NumPost (l : List UInt8) (w : World) (e : Ending) (w' : World) : Prop := ∃ (n : Int) (er : Value), e = .returned (.tuple #[.int .i64 n, er]) ∧ Below w.heap.size w w' ∧ ((numOf l = some n ∧ er = .nilIface) ∨ (numOf l = none ∧ ∃ t x, er = .iface t x))
theorem below_bytes {w : World} {t : Nat} {x : ByteArray} : Below w.heap.size w (Lib.bytesWorld w t x) := Lib.bytesWorld_below _ _ _
theorem atoi_any (s : ByteArray) (w : World) (hs : s.size ≤ 100000000) (he : ErrB w) : Calls Tryz.prog 79 #[.string s] w (NumPost s.data.toList w) := by
  obtain ⟨⟨t1, p1, h1⟩, t2, p2, h2⟩ := he
  cases h : atoiAll s.data.toList with
  | ok v =>
    refine (Tryz.strconv_Atoi_ok s (by omega) v h w).mono ?_
    rintro e w' ⟨rfl, hw⟩
    refine ⟨v, _, rfl, ?_, .inl ⟨by simp [numOf, h], rfl⟩⟩
    rcases hw with rfl | ⟨t, rfl⟩
    · exact Below.refl _ _
    · exact Lib.bytesWorld_below _ _ _
  | «syntax» =>
    refine (Tryz.strconv_Atoi_syntax s (by omega) h _ w h1 (.inr ⟨_, _, rfl⟩)).mono ?_
    rintro e w' ⟨N, rfl, _, _, hb⟩
    exact ⟨_, _, rfl, hb, .inr ⟨by simp [numOf, h], _, _, rfl⟩⟩
  | range =>
    refine (Tryz.strconv_Atoi_range s (by omega) h _ w h2 (.inr ⟨_, _, rfl⟩)).mono ?_
    rintro e w' ⟨N, rfl, _, _, hb⟩
    exact ⟨_, _, rfl, hb, .inr ⟨by simp [numOf, h], _, _, rfl⟩⟩
theorem parse_any (s : ByteArray) (w : World) (hs : s.size ≤ 100000000) (he : ErrB w) : Calls Tryz.prog 172 #[.string s, .int .i64 10, .int .i64 64] w (NumPost s.data.toList w) := by
  obtain ⟨⟨t1, p1, h1⟩, t2, p2, h2⟩ := he
  cases h : atoiAll s.data.toList with
  | ok v =>
    refine (Tryz.strconv_ParseInt_10_at64_ok s (by omega) v ((parseIntB_64 _).trans h) w).mono ?_
    rintro e w' ⟨rfl, hw⟩
    refine ⟨v, _, rfl, ?_, .inl ⟨by simp [numOf, h], rfl⟩⟩
    rcases hw with rfl | ⟨t, rfl⟩
    · exact Below.refl _ _
    · exact Lib.bytesWorld_below _ _ _
  | «syntax» =>
    refine (Tryz.strconv_ParseInt_10_at64_syntax s (by omega) ((parseIntB_64 _).trans h) _ w h1 (.inr ⟨_, _, rfl⟩)).mono ?_
    rintro e w' ⟨N, rfl, _, _, hb⟩
    exact ⟨_, _, rfl, hb, .inr ⟨by simp [numOf, h], _, _, rfl⟩⟩
  | range =>
    refine (Tryz.strconv_ParseInt_10_at64_range s (by omega) ((parseIntB_64 _).trans h) _ w h2 (.inr ⟨_, _, rfl⟩)).mono ?_
    rintro e w' ⟨N, rfl, _, _, hb⟩
    exact ⟨_, _, rfl, hb, .inr ⟨by simp [numOf, h], _, _, rfl⟩⟩
end Go.Proofs.YtfppidnfomelpaaGreatDoor
