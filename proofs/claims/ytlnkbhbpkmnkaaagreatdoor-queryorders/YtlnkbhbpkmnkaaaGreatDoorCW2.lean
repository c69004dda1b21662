/- What value.Right, schema.Name and schema.columnName do, said of every call. -/
import Derived.Test.YtlnkbhbpkmnkaaaGreatDoorCW1
import Derived.Test.YtlnkbhbpkmnkaaaGreatDoorShelf
namespace Go.Proofs.YtlnkbhbpkmnkaaaGreatDoor.C
open Go.RowKit Go.Proofs

def badLetter (r : Nat) : Bool := decide (r < 32) || (decide (126 < r) || ((r : Int) == 39))

set_option maxHeartbeats 1000000 in
theorem letter_any (w : World) : PredAt Tryz.prog 175 #[] encR badLetter w := fun W r _ => by
  unfold FnGives
  by_cases h1 : r < 32 <;> by_cases h2 : 126 < r
  all_goals
    have z1 : (r : Int) < 32 ↔ r < 32 := by omega
    have z2 : (126 : Int) < (r : Int) ↔ 126 < r := by omega
    go_enter Tryz.func175, Tryz.ntmps175
    go_wp2
    all_goals first | (exfalso; omega) | (go_ret; exact ⟨ret_bool (by simp [badLetter, h1, h2]), 0, rfl⟩)

def rtB (t : ByteArray) : Bool := decide (t.size ≤ 40) && !(decide (0 ≤ Lib.idxFunc badLetter true t))
theorem rt0 {t : ByteArray} (h : ¬ t.size ≤ 40) : false = rtB t := by simp [rtB, h]
theorem rt1 {t : ByteArray} (h : t.size ≤ 40) : (!(decide (0 ≤ Lib.idxFunc badLetter true t))) = rtB t := by simp [rtB, h]

set_option maxHeartbeats 1000000 in
theorem rightText_any (t : ByteArray) (w : World) (ht : t.size ≤ maxLen) :
    Calls Tryz.prog 152 #[.string t] w fun e w' => e = .returned (.bool (rtB t)) ∧ Below w.heap.size w w' := by
  have HC : Hid (∀ W, Calls Tryz.prog 143 #[.string t, .func (.func 175) #[] #[]] W fun e w' => e = .returned (.bool (decide (0 ≤ Lib.idxFunc badLetter true t))) ∧ Below W.heap.size W w') := fun W => Tryz.strings_ContainsFunc 175 #[] (enters_of Tryz.func175 (by kernel_rfl) rfl) badLetter t W (letter_any W)
  unfold maxLen at ht
  by_cases h : t.size ≤ 40
  · have HR : Hid ((!(decide (0 ≤ Lib.idxFunc badLetter true t))) = rtB t) := rt1 h
    generalize decide (0 ≤ Lib.idxFunc badLetter true t) = b at HC HR
    go_enter Tryz.func152, Tryz.ntmps152
    go_wp2_with (first
      | (go_at_call 143; refine (HC.out _).mono ?_; rintro e w1 ⟨rfl, hb1⟩))
    go_ret
    exact ⟨ret_bool HR.out, hb1⟩
  · have HR : Hid (false = rtB t) := rt0 h
    clear HC
    go_enter Tryz.func152, Tryz.ntmps152
    go_wp2
    go_ret
    exact ⟨ret_bool HR.out, Below.refl _ _⟩

def rightV (k n : Int) (t : ByteArray) : Bool := if k = 0 then n == 0 && t.toList.isEmpty else if k = 1 then t.toList.isEmpty else if k = 2 then n == 0 && rtB t else false
theorem rv0 {k n : Int} {t : ByteArray} (hn : (n == 0) = true) (h : (k == 0) = true) : t.toList.isEmpty = rightV k n t := by simp at h hn; subst h hn; simp [rightV]
theorem rv0' {k n : Int} {t : ByteArray} (hn : (n == 0) = false) (h : (k == 0) = true) : false = rightV k n t := by simp at h; subst h; simp [rightV, hn]
theorem rv1 {k n : Int} {t : ByteArray} (h : (k == 1) = true) : t.toList.isEmpty = rightV k n t := by simp at h; subst h; simp [rightV]
theorem rv2 {k n : Int} {t : ByteArray} (hn : (n == 0) = true) (h : (k == 2) = true) : rtB t = rightV k n t := by simp at h hn; subst h hn; simp [rightV]
theorem rv2' {k n : Int} {t : ByteArray} (hn : (n == 0) = false) (h : (k == 2) = true) : false = rightV k n t := by simp at h; subst h; simp [rightV, hn]
theorem rv3 {k n : Int} {t : ByteArray} (h0 : (k == 0) = false) (h1 : (k == 1) = false) (h2 : (k == 2) = false) : false = rightV k n t := by
  simp at h0 h1 h2; simp [rightV, h0, h1, h2]

set_option maxHeartbeats 1000000 in
theorem rightV_any (k n : Int) (t : ByteArray) (w : World) (ht : t.size ≤ maxLen) :
    Calls Tryz.prog 119 #[.agg #[.int .i64 k, .int .i64 n, .string t]] w fun e w' => e = .returned (.bool (rightV k n t)) ∧ Below w.heap.size w w' := by
  have HC : Hid (∀ W, Calls Tryz.prog 152 #[.string t] W fun e w' => e = .returned (.bool (rtB t)) ∧ Below W.heap.size W w') := fun W => rightText_any t W ht
  unfold maxLen at ht
  by_cases hn : n = 0
  · have hb : (n == 0) = true := by simpa using hn
    clear hn
    go_enter Tryz.func119, Tryz.ntmps119
    go_wp2_with (first
      | (go_at_call 152; refine (HC.out _).mono ?_; rintro e w1 ⟨rfl, hb1⟩))
    all_goals go_ret
    · exact ⟨ret_bool (rv0 hb ‹_›), (Below.refl _ _).alloc (Nat.le_refl _) _⟩
    · exact ⟨ret_bool (rv1 ‹_›), (Below.refl _ _).alloc (Nat.le_refl _) _⟩
    · exact ⟨ret_bool (rv2 hb ‹_›), ((Below.refl _ _).alloc (Nat.le_refl _) _).trans (hb1.mono (by simp))⟩
    · exact ⟨ret_bool (rv3 ‹_› ‹_› ‹_›), (Below.refl _ _).alloc (Nat.le_refl _) _⟩
  · have hb : (n == 0) = false := by simpa using hn
    clear hn
    go_enter Tryz.func119, Tryz.ntmps119
    go_wp2_with (first
      | (go_at_call 152; refine (HC.out _).mono ?_; rintro e w1 ⟨rfl, hb1⟩))
    all_goals go_ret
    · exact ⟨ret_bool (rv0' hb ‹_›), (Below.refl _ _).alloc (Nat.le_refl _) _⟩
    · exact ⟨ret_bool (rv1 ‹_›), (Below.refl _ _).alloc (Nat.le_refl _) _⟩
    · exact ⟨ret_bool (rv2' hb ‹_›), (Below.refl _ _).alloc (Nat.le_refl _) _⟩
    · exact ⟨ret_bool (rv3 ‹_› ‹_› ‹_›), (Below.refl _ _).alloc (Nat.le_refl _) _⟩

def badName (r : Nat) : Bool := !smallB r && (!digitB r && !((r : Int) == 95))

set_option maxHeartbeats 1000000 in
theorem nameLetter_any (w : World) : PredAt Tryz.prog 144 #[] encR badName w := fun W r _ => by
  unfold FnGives
  have H1 := mkH (small_any (r : Int))
  have H2 := mkH (digit_any (r : Int))
  have HR : Hid (badName r = (!smallB r && (!digitB r && !((r : Int) == 95)))) := rfl
  generalize smallB r = b1 at *
  generalize digitB r = b2 at *
  generalize badName r = b3 at *
  cases b1 <;> cases b2
  all_goals
    go_enter Tryz.func144, Tryz.ntmps144
    go_wp2_with (first
      | (go_at_call 142; refine (H1.out _).mono ?_; rintro e w1 ⟨rfl, rfl⟩)
      | (go_at_call 145; refine (H2.out _).mono ?_; rintro e w2 ⟨rfl, rfl⟩))
    all_goals (go_ret; exact ⟨ret_bool (by rw [HR.out]; simp [bne]), 0, rfl⟩)

def firstB (s : ByteArray) : Bool := if h : 0 < s.size then smallB (wrap32 ((s[0]'h).toNat : Int)) else false
def nameB (s : ByteArray) : Bool := decide (0 < s.size) && (decide (s.size ≤ 16) && (firstB s && !(decide (0 ≤ Lib.idxFunc badName true s))))
theorem nm0 {s : ByteArray} (h : ¬ 0 < s.size) : false = nameB s := by simp [nameB, h]
theorem nm1 {s : ByteArray} (h : ¬ s.size ≤ 16) : false = nameB s := by simp [nameB, h]
theorem nm2 {s : ByteArray} (h : 0 < s.size) (hs : smallB (wrap32 ((s[0]'h).toNat : Int)) = false) : false = nameB s := by simp [nameB, firstB, h, hs]
theorem nm3 {s : ByteArray} (h : 0 < s.size) (h2 : s.size ≤ 16) (hs : smallB (wrap32 ((s[0]'h).toNat : Int)) = true) : (!(decide (0 ≤ Lib.idxFunc badName true s))) = nameB s := by simp [nameB, firstB, h, h2, hs]
theorem toList_nil {s : ByteArray} : s.toList = [] ↔ ¬ 0 < s.size := by
  rw [ByteArray.toList_eq]
  have : s.size = s.data.toList.length := by simp
  rw [this, List.length_pos_iff]
  simp

set_option maxHeartbeats 1000000 in
theorem name_any (s : ByteArray) (w : World) (hs : s.size ≤ maxLen) :
    Calls Tryz.prog 109 #[.string s] w fun e w' => e = .returned (.bool (nameB s)) ∧ Below w.heap.size w w' := by
  have HC : Hid (∀ W, Calls Tryz.prog 143 #[.string s, .func (.func 144) #[] #[]] W fun e w' => e = .returned (.bool (decide (0 ≤ Lib.idxFunc badName true s))) ∧ Below W.heap.size W w') := fun W => Tryz.strings_ContainsFunc 144 #[] (enters_of Tryz.func144 (by kernel_rfl) rfl) badName s W (nameLetter_any W)
  have HS := mkH small_any
  unfold maxLen at hs
  by_cases h0 : 0 < s.size
  · have e0 : ¬ s.toList = [] := fun e => toList_nil.1 e h0
    by_cases h1 : s.size ≤ 16
    · have h1' : (s.size : Int) ≤ 16 := by omega
      cases h2 : smallB (wrap32 ((s[0]'h0).toNat : Int)) with
      | false =>
        have HR : Hid (false = nameB s) := nm2 h0 h2
        generalize nameB s = r at *
        go_enter Tryz.func109, Tryz.ntmps109
        go_wp2_with (first
          | (go_at_call 142; refine (HS.out _ _).mono ?_; rintro e w1 ⟨rfl, rfl⟩))
        all_goals go_ret
        all_goals exact ⟨ret_bool HR.out, Below.refl _ _⟩
      | true =>
        have HR : Hid ((!(decide (0 ≤ Lib.idxFunc badName true s))) = nameB s) := nm3 h0 h1 h2
        generalize nameB s = r at *
        generalize decide (0 ≤ Lib.idxFunc badName true s) = q at HC HR
        go_enter Tryz.func109, Tryz.ntmps109
        go_wp2_with (first
          | (go_at_call 143; refine (HC.out _).mono ?_; rintro e w1 ⟨rfl, hb1⟩)
          | (go_at_call 142; refine (HS.out _ _).mono ?_; rintro e w1 ⟨rfl, rfl⟩))
        all_goals go_ret
        all_goals exact ⟨ret_bool (by rw [← HR.out]; simp [e0]), hb1⟩
    · have h1' : (16 : Int) < s.size := by omega
      have HR : Hid (false = nameB s) := nm1 h1
      generalize nameB s = r at *
      clear HC HS h1
      go_enter Tryz.func109, Tryz.ntmps109
      go_wp2
      go_ret
      exact ⟨ret_bool HR.out, Below.refl _ _⟩
  · have HR : Hid (false = nameB s) := nm0 h0
    have e0 : s.toList = [] := toList_nil.2 h0
    generalize nameB s = r at *
    clear HC HS h0
    go_enter Tryz.func109, Tryz.ntmps109
    go_wp2
    go_ret
    exact ⟨ret_bool HR.out, Below.refl _ _⟩

/-- The project's own list of words that are no names, as its text lays it. -/
def NcB (w : World) : Prop := w.cell? ⟨3, 0, none⟩ = some (.string ⟨#[97, 110, 100]⟩) ∧ w.cell? ⟨3, 1, none⟩ = some (.string ⟨#[105, 115]⟩) ∧ w.cell? ⟨3, 2, none⟩ = some (.string ⟨#[110, 111, 116]⟩) ∧ w.cell? ⟨3, 3, none⟩ = some (.string ⟨#[110, 117, 108, 108]⟩) ∧ w.cell? ⟨3, 4, none⟩ = some (.string ⟨#[111, 114]⟩)
theorem NcB.lt {w : World} (h : NcB w) : 3 < w.heap.size := by
  rcases Nat.lt_or_ge 3 w.heap.size with h' | h'
  · exact h'
  · have := h.1; simp [World.cell?, Array.getElem?_eq_none h'] at this
theorem NcB.below {w W : World} (h : NcB w) (hb : Below w.heap.size w W) : NcB W :=
  ⟨(hb.cell (p := ⟨3, 0, none⟩) h.lt).trans h.1, (hb.cell (p := ⟨3, 1, none⟩) h.lt).trans h.2.1, (hb.cell (p := ⟨3, 2, none⟩) h.lt).trans h.2.2.1, (hb.cell (p := ⟨3, 3, none⟩) h.lt).trans h.2.2.2.1, (hb.cell (p := ⟨3, 4, none⟩) h.lt).trans h.2.2.2.2⟩
def isW (s : ByteArray) (l : List UInt8) : Bool := s.toList == l
def colB (s : ByteArray) : Bool := !(isW s [97, 110, 100] || (isW s [105, 115] || (isW s [110, 111, 116] || (isW s [110, 117, 108, 108] || isW s [111, 114])))) && nameB s
end Go.Proofs.YtlnkbhbpkmnkaaaGreatDoor.C
