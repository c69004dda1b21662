/- What strings.Cut around one byte, strconv.ParseInt, ask.quoted and ask.throw do, said of every call. -/
import Derived.Test.YtfokdpddcgaafaaGreatDoorAA
import Derived.Test.YtfokdpddcgaafaaGreatDoorShelfA
import Derived.Lib.CutLaws
import Derived.Lib.Strings
import Derived.OwnWalk
namespace Go.Proofs.YtfokdpddcgaafaaGreatDoor
open Go.RowKit Go.Proofs Go.Lib Go.Proofs.YtfokdpddcgaafaaGreatDoor.Ask

def bA (l : List UInt8) : ByteArray := ⟨l.toArray⟩
theorem bA_list (t : ByteArray) : bA t.data.toList = t := by simp [bA]
theorem bA_toList (l : List UInt8) : (bA l).data.toList = l := by simp [bA]
theorem bA_size {l : List UInt8} : (bA l).size = l.length := by simp [bA, ByteArray.size]
theorem cutB_no {s : ByteArray} {c : UInt8} (h : indexByte s.data.toList c = -1) : bA (cutL c s.data.toList).1 = s ∧ bA (cutL c s.data.toList).2.1 = ⟨#[]⟩ ∧ (cutL c s.data.toList).2.2 = false := by
  rw [cut_index_no h]
  exact ⟨bA_list s, rfl, rfl⟩
theorem cutB_yes {s : ByteArray} {c : UInt8} {i : Nat} (h : indexByte s.data.toList c = i) : bA (cutL c s.data.toList).1 = s.extract 0 i ∧ bA (cutL c s.data.toList).2.1 = s.extract (i + 1) s.size ∧ (cutL c s.data.toList).2.2 = true ∧ i < s.size := by
  obtain ⟨e, hl⟩ := cut_index_yes h
  rw [e]
  refine ⟨?_, ?_, rfl, by rw [Array.length_toList] at hl; exact hl⟩
  · rw [extract_eq]; simp [bA]
  · have ht : List.take (s.size - (i + 1)) (List.drop (i + 1) s.data.toList) = List.drop (i + 1) s.data.toList :=
      List.take_of_length_le (by rw [List.length_drop, ← size_eq]; exact Nat.le_refl _)
    rw [extract_eq, ht]
    rfl
set_option maxHeartbeats 1000000 in
theorem cutS_any (s : ByteArray) (c : UInt8) (w : World) (hs : s.size ≤ maxLen) :
    Calls Tryz.prog 97 #[.string s, .string ⟨#[c]⟩] w fun e w' => e = .returned (.tuple #[.string (bA (cutL c s.data.toList).1), .string (bA (cutL c s.data.toList).2.1), .bool (cutL c s.data.toList).2.2]) ∧ ∃ n, w' = w.drewN n := by
  unfold maxLen at hs
  rcases index_cases s.data.toList c with hi | ⟨i, hi⟩
  · obtain ⟨e1, e2, e3⟩ := cutB_no hi
    rw [e1, e2, e3]
    have HC := mkH (fun W => Tryz.stringslite_Index_one s c W)
    rw [hi] at HC
    clear hi e1 e2 e3
    go_enter Tryz.func97, Tryz.ntmps97
    go_wp2_with (go_at_call 107; refine (HC.out _).mono ?_; rintro e w' ⟨rfl, rfl⟩)
    go_ret3
    exact ⟨rfl, 0, rfl⟩
  · obtain ⟨e1, e2, e3, hl⟩ := cutB_yes hi
    rw [e1, e2, e3]
    have HC := mkH (fun W => Tryz.stringslite_Index_one s c W)
    rw [hi] at HC
    clear hi e1 e2 e3
    have c1 : (0 : Int) ≤ (i : Int) := by omega
    have c2 : (i : Int) ≤ (s.size : Int) := by omega
    have c3 : (0 : Int) ≤ (i : Int) + 1 := by omega
    have c4 : (i : Int) + 1 ≤ (s.size : Int) := by omega
    go_enter Tryz.func97, Tryz.ntmps97
    go_wp2_with (go_at_call 107; refine (HC.out _).mono ?_; rintro e w' ⟨rfl, rfl⟩)
    go_region
    go_wp2
    go_ret3
    exact ⟨rfl, 1, rfl⟩
theorem cut_any (s : ByteArray) (c : UInt8) (w : World) (hs : s.size ≤ maxLen) :
    Calls Tryz.prog 83 #[.string s, .string ⟨#[c]⟩] w fun e w' => e = .returned (.tuple #[.string (bA (cutL c s.data.toList).1), .string (bA (cutL c s.data.toList).2.1), .bool (cutL c s.data.toList).2.2]) ∧ Below w.heap.size w w' := by
  have HC := mkH (cutS_any s c w hs)
  generalize bA (cutL c s.data.toList).1 = x at *
  generalize bA (cutL c s.data.toList).2.1 = y at *
  generalize (cutL c s.data.toList).2.2 = z at *
  go_enter Tryz.func83, Tryz.ntmps83
  go_wp2_with (go_at_call 97; refine HC.out.mono ?_; rintro e w' ⟨rfl, n, rfl⟩)
  go_ret3
  exact ⟨rfl, ⟨rfl, rfl, rfl, Nat.le_refl _, fun _ _ => rfl⟩⟩

/-- The two errors of package strconv lie where its text lays them. -/
def ErrB (w : World) : Prop := (∃ te pe, w.cell? ⟨8, 0, none⟩ = some (.iface te pe)) ∧ ∃ te pe, w.cell? ⟨9, 0, none⟩ = some (.iface te pe)
theorem cell_lt {w : World} {b o : Nat} {v : Value} (h : w.cell? ⟨b, o, none⟩ = some v) : b < w.heap.size := Lib.lt_of_cell h
theorem ErrB.below {w W : World} (h : ErrB w) (hb : Below w.heap.size w W) : ErrB W := by
  obtain ⟨⟨t1, p1, h1⟩, t2, p2, h2⟩ := h
  exact ⟨⟨t1, p1, (hb.cell (p := ⟨8, 0, none⟩) (cell_lt h1)).trans h1⟩, t2, p2, (hb.cell (p := ⟨9, 0, none⟩) (cell_lt h2)).trans h2⟩
/-- A number, and no error; or none, and an error. -/
def NumPost (l : List UInt8) (w : World) (e : Ending) (w' : World) : Prop := ∃ (n : Int) (er : Value), e = .returned (.tuple #[.int .i64 n, er]) ∧ Below w.heap.size w w' ∧ ((numT l = some n ∧ er = .nilIface) ∨ (numT l = none ∧ ∃ t x, er = .iface t x))
theorem below_bytes {w : World} {t : Nat} {x : ByteArray} : Below w.heap.size w (Lib.bytesWorld w t x) := Lib.bytesWorld_below _ _ _
theorem parse_any (s : ByteArray) (w : World) (hs : s.size ≤ 100000000) (he : ErrB w) : Calls Tryz.prog 111 #[.string s, .int .i64 10, .int .i64 64] w (NumPost s.data.toList w) := by
  obtain ⟨⟨t1, p1, h1⟩, t2, p2, h2⟩ := he
  cases h : atoiAll s.data.toList with
  | ok v =>
    refine (Tryz.strconv_ParseInt_10_at64_ok s (by omega) v ((parseIntB_64 _).trans h) w).mono ?_
    rintro e w' ⟨rfl, hw⟩
    refine ⟨v, _, rfl, ?_, .inl ⟨by simp [numT, h], rfl⟩⟩
    rcases hw with rfl | ⟨t, rfl⟩
    · exact Below.refl _ _
    · exact Lib.bytesWorld_below _ _ _
  | «syntax» =>
    refine (Tryz.strconv_ParseInt_10_at64_syntax s (by omega) ((parseIntB_64 _).trans h) _ w h1 (.inr ⟨_, _, rfl⟩)).mono ?_
    rintro e w' ⟨N, rfl, _, _, hb⟩
    exact ⟨_, _, rfl, hb, .inr ⟨by simp [numT, h], _, _, rfl⟩⟩
  | range =>
    refine (Tryz.strconv_ParseInt_10_at64_range s (by omega) ((parseIntB_64 _).trans h) _ w h2 (.inr ⟨_, _, rfl⟩)).mono ?_
    rintro e w' ⟨N, rfl, _, _, hb⟩
    exact ⟨_, _, rfl, hb, .inr ⟨by simp [numT, h], _, _, rfl⟩⟩

def quR (s : List UInt8) : List UInt8 := (cutL 39 (trimPrefix s [39])).1
def quB (s : List UInt8) : Bool := hasPrefix s [39] && (cutL 39 (trimPrefix s [39])).2.2
theorem trim_le (s p : List UInt8) : (trimPrefix s p).length ≤ s.length := by
  unfold trimPrefix; split <;> simp
set_option maxHeartbeats 1000000 in
theorem quoted_any (s : ByteArray) (w : World) (hs : s.size ≤ maxLen) :
    Calls Tryz.prog 68 #[.string s] w fun e w' => e = .returned (.tuple #[.string (bA (quR s.data.toList)), .bool (quB s.data.toList)]) ∧ Below w.heap.size w w' := by
  have H1 := mkH (fun W => Tryz.strings_CutPrefix s ⟨#[39]⟩ W)
  have hl : (bA (trimPrefix s.data.toList [39])).size ≤ maxLen := by
    rw [bA_size]; have := trim_le s.data.toList [39]; rw [size_eq] at hs; omega
  have H2 := mkH (fun W => cut_any (bA (trimPrefix s.data.toList [39])) 39 W hl)
  rw [bA_toList] at H2
  change Hid (∀ W, Calls _ _ _ _ fun e w' => e = .returned (.tuple #[.string (bA (trimPrefix s.data.toList [39])), .bool (hasPrefix s.data.toList [39])]) ∧ _) at H1
  have HR : Hid (quB s.data.toList = (hasPrefix s.data.toList [39] && (cutL 39 (trimPrefix s.data.toList [39])).2.2)) := rfl
  have HQ : Hid (quR s.data.toList = (cutL 39 (trimPrefix s.data.toList [39])).1) := rfl
  generalize quB s.data.toList = q1 at *
  generalize quR s.data.toList = q2 at *
  generalize hasPrefix s.data.toList [39] = b1 at *
  generalize (cutL 39 (trimPrefix s.data.toList [39])).2.2 = b2 at *
  generalize (cutL 39 (trimPrefix s.data.toList [39])).1 = t1 at *
  generalize (cutL 39 (trimPrefix s.data.toList [39])).2.1 = t2 at *
  generalize bA (trimPrefix s.data.toList [39]) = u at *
  cases b1 <;> cases b2
  all_goals
    go_enter Tryz.func68, Tryz.ntmps68
    go_wp2_with (first
      | (go_at_call 82; refine (H1.out _).mono ?_; rintro e w1 ⟨rfl, rfl⟩)
      | (go_at_call 83; refine (H2.out _).mono ?_; rintro e w2 ⟨rfl, hb2⟩))
    go_ret2
    rw [HR.out, HQ.out]
    exact ⟨rfl, hb2⟩
/-- Something is thrown: an At. -/
def Thrown (e : Ending) : Prop := ∃ a : Addr, e = .panicked [{ v := .iface 54 (.pointer (some a)), recovered := false }]
set_option maxHeartbeats 1000000 in
theorem throw_any (er pl : Int) (w : World) :
    Calls Tryz.prog 51 #[.int .i64 er, .int .i64 pl] w fun e w' => Thrown e ∧ Below w.heap.size w w' := by
  go_enter Tryz.func51, Tryz.ntmps51
  go_wp2
  refine ⟨rfl, ?_⟩
  exact ⟨⟨_, rfl⟩, (Below.refl _ _).alloc (Nat.le_refl _) _⟩
end Go.Proofs.YtfokdpddcgaafaaGreatDoor
