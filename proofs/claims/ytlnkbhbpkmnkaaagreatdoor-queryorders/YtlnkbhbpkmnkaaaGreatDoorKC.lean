/- What is read costs no more tokens, and goes no deeper, when it is written; reading comes to something. -/
import Derived.Test.YtlnkbhbpkmnkaaaGreatDoorW1
import Derived.Test.YtlnkbhbpkmnkaaaGreatDoorShelf
import Derived.Shelf.SlGeneric
import Derived.Shelf.GgClosure.StringsTrimFunc
import Derived.Ground.NamesProg
import Derived.Test.YtlnkbhbpkmnkaaaGreatDoorProg
import Derived.Lib.ItoaLen
import Derived.Lib.Bytealg
import Derived.Lib.Join
import Derived.Lib.AtoiAllCases
import Derived.Lib.ParseIntBTie
import Derived.Shelf.GgClosure.StringsIndexFunc
namespace Go.Proofs.YtlnkbhbpkmnkaaaGreatDoor
open Go.RowKit Go.Proofs

def badLetter (r : Nat) : Bool := decide (r < 32) || (decide (126 < r) || ((r : Int) == 39))

set_option maxHeartbeats 1000000 in
theorem letter_any (w : World) : PredAt Tryz.prog 175 #[] encR badLetter w := fun W r _ => by
  unfold FnGives
  by_cases h1 : r < 32 <;> by_cases h2 : 126 < r
  all_goals
    have z1 : (r : Int) < 32 ↔ r < 32 := by omega
    have z2 : (126 : Int) < (r : Int) ↔ 126 < r := by omega
    go_enter Tryz.func175, Tryz.ntmps175
    go_wp2
    all_goals first | (exfalso; omega) | (go_ret; exact ⟨ret_bool (by simp [badLetter, h1, h2]), 0, rfl⟩)

def rtB (t : ByteArray) : Bool := decide (t.size ≤ 40) && !(decide (0 ≤ Lib.idxFunc badLetter true t))
theorem rt0 {t : ByteArray} (h : ¬ t.size ≤ 40) : false = rtB t := by simp [rtB, h]
theorem rt1 {t : ByteArray} (h : t.size ≤ 40) : (!(decide (0 ≤ Lib.idxFunc badLetter true t))) = rtB t := by simp [rtB, h]

set_option maxHeartbeats 1000000 in
theorem rightText_any (t : ByteArray) (w : World) (ht : t.size ≤ maxLen) :
    Calls Tryz.prog 152 #[.string t] w fun e w' => e = .returned (.bool (rtB t)) ∧ Below w.heap.size w w' := by
  have HC : Hid (∀ W, Calls Tryz.prog 143 #[.string t, .func (.func 175) #[] #[]] W fun e w' => e = .returned (.bool (decide (0 ≤ Lib.idxFunc badLetter true t))) ∧ Below W.heap.size W w') := fun W => Tryz.strings_ContainsFunc 175 #[] (enters_of Tryz.func175 (by kernel_rfl) rfl) badLetter t W (letter_any W)
  unfold maxLen at ht
  by_cases h : t.size ≤ 40
  · have HR : Hid ((!(decide (0 ≤ Lib.idxFunc badLetter true t))) = rtB t) := rt1 h
    generalize decide (0 ≤ Lib.idxFunc badLetter true t) = b at HC HR
    go_enter Tryz.func152, Tryz.ntmps152
    go_wp2_with (first
      | (go_at_call 143; refine (HC.out _).mono ?_; rintro e w1 ⟨rfl, hb1⟩))
    go_ret
    exact ⟨ret_bool HR.out, hb1⟩
  · have HR : Hid (false = rtB t) := rt0 h
    clear HC
    go_enter Tryz.func152, Tryz.ntmps152
    go_wp2
    go_ret
    exact ⟨ret_bool HR.out, Below.refl _ _⟩

def rightV (k n : Int) (t : ByteArray) : Bool := if k = 0 then n == 0 && t.toList.isEmpty else if k = 1 then t.toList.isEmpty else if k = 2 then n == 0 && rtB t else false
theorem rv0 {k n : Int} {t : ByteArray} (hn : (n == 0) = true) (h : (k == 0) = true) : t.toList.isEmpty = rightV k n t := by simp at h hn; subst h hn; simp [rightV]
theorem rv0' {k n : Int} {t : ByteArray} (hn : (n == 0) = false) (h : (k == 0) = true) : false = rightV k n t := by simp at h; subst h; simp [rightV, hn]
theorem rv1 {k n : Int} {t : ByteArray} (h : (k == 1) = true) : t.toList.isEmpty = rightV k n t := by simp at h; subst h; simp [rightV]
theorem rv2 {k n : Int} {t : ByteArray} (hn : (n == 0) = true) (h : (k == 2) = true) : rtB t = rightV k n t := by simp at h hn; subst h hn; simp [rightV]
theorem rv2' {k n : Int} {t : ByteArray} (hn : (n == 0) = false) (h : (k == 2) = true) : false = rightV k n t := by simp at h; subst h; simp [rightV, hn]
theorem rv3 {k n : Int} {t : ByteArray} (h0 : (k == 0) = false) (h1 : (k == 1) = false) (h2 : (k == 2) = false) : false = rightV k n t := by
  simp at h0 h1 h2; simp [rightV, h0, h1, h2]

set_option maxHeartbeats 1000000 in
theorem rightV_any (k n : Int) (t : ByteArray) (w : World) (ht : t.size ≤ maxLen) :
    Calls Tryz.prog 119 #[.agg #[.int .i64 k, .int .i64 n, .string t]] w fun e w' => e = .returned (.bool (rightV k n t)) ∧ Below w.heap.size w w' := by
  have HC : Hid (∀ W, Calls Tryz.prog 152 #[.string t] W fun e w' => e = .returned (.bool (rtB t)) ∧ Below W.heap.size W w') := fun W => rightText_any t W ht
  unfold maxLen at ht
  by_cases hn : n = 0
  · have hb : (n == 0) = true := by simpa using hn
    clear hn
    go_enter Tryz.func119, Tryz.ntmps119
    go_wp2_with (first
      | (go_at_call 152; refine (HC.out _).mono ?_; rintro e w1 ⟨rfl, hb1⟩))
    all_goals go_ret
    · exact ⟨ret_bool (rv0 hb ‹_›), (Below.refl _ _).alloc (Nat.le_refl _) _⟩
    · exact ⟨ret_bool (rv1 ‹_›), (Below.refl _ _).alloc (Nat.le_refl _) _⟩
    · exact ⟨ret_bool (rv2 hb ‹_›), ((Below.refl _ _).alloc (Nat.le_refl _) _).trans (hb1.mono (by simp))⟩
    · exact ⟨ret_bool (rv3 ‹_› ‹_› ‹_›), (Below.refl _ _).alloc (Nat.le_refl _) _⟩
  · have hb : (n == 0) = false := by simpa using hn
    clear hn
    go_enter Tryz.func119, Tryz.ntmps119
    go_wp2_with (first
      | (go_at_call 152; refine (HC.out _).mono ?_; rintro e w1 ⟨rfl, hb1⟩))
    all_goals go_ret
    · exact ⟨ret_bool (rv0' hb ‹_›), (Below.refl _ _).alloc (Nat.le_refl _) _⟩
    · exact ⟨ret_bool (rv1 ‹_›), (Below.refl _ _).alloc (Nat.le_refl _) _⟩
    · exact ⟨ret_bool (rv2' hb ‹_›), (Below.refl _ _).alloc (Nat.le_refl _) _⟩
    · exact ⟨ret_bool (rv3 ‹_› ‹_› ‹_›), (Below.refl _ _).alloc (Nat.le_refl _) _⟩

def badName (r : Nat) : Bool := !smallB r && (!digitB r && !((r : Int) == 95))

set_option maxHeartbeats 1000000 in
theorem nameLetter_any (w : World) : PredAt Tryz.prog 144 #[] encR badName w := fun W r _ => by
  unfold FnGives
  have H1 := mkH (small_any (r : Int))
  have H2 := mkH (digit_any (r : Int))
  have HR : Hid (badName r = (!smallB r && (!digitB r && !((r : Int) == 95)))) := rfl
  generalize smallB r = b1 at *
  generalize digitB r = b2 at *
  generalize badName r = b3 at *
  cases b1 <;> cases b2
  all_goals
    go_enter Tryz.func144, Tryz.ntmps144
    go_wp2_with (first
      | (go_at_call 142; refine (H1.out _).mono ?_; rintro e w1 ⟨rfl, rfl⟩)
      | (go_at_call 145; refine (H2.out _).mono ?_; rintro e w2 ⟨rfl, rfl⟩))
    all_goals (go_ret; exact ⟨ret_bool (by rw [HR.out]; simp [bne]), 0, rfl⟩)

def firstB (s : ByteArray) : Bool := if h : 0 < s.size then smallB (wrap32 ((s[0]'h).toNat : Int)) else false
def nameB (s : ByteArray) : Bool := decide (0 < s.size) && (decide (s.size ≤ 16) && (firstB s && !(decide (0 ≤ Lib.idxFunc badName true s))))
theorem nm0 {s : ByteArray} (h : ¬ 0 < s.size) : false = nameB s := by simp [nameB, h]
theorem nm1 {s : ByteArray} (h : ¬ s.size ≤ 16) : false = nameB s := by simp [nameB, h]
theorem nm2 {s : ByteArray} (h : 0 < s.size) (hs : smallB (wrap32 ((s[0]'h).toNat : Int)) = false) : false = nameB s := by simp [nameB, firstB, h, hs]
theorem nm3 {s : ByteArray} (h : 0 < s.size) (h2 : s.size ≤ 16) (hs : smallB (wrap32 ((s[0]'h).toNat : Int)) = true) : (!(decide (0 ≤ Lib.idxFunc badName true s))) = nameB s := by simp [nameB, firstB, h, h2, hs]
theorem toList_nil {s : ByteArray} : s.toList = [] ↔ ¬ 0 < s.size := by
  rw [ByteArray.toList_eq]
  have : s.size = s.data.toList.length := by simp
  rw [this, List.length_pos_iff]
  simp

set_option maxHeartbeats 1000000 in
theorem name_any (s : ByteArray) (w : World) (hs : s.size ≤ maxLen) :
    Calls Tryz.prog 109 #[.string s] w fun e w' => e = .returned (.bool (nameB s)) ∧ Below w.heap.size w w' := by
  have HC : Hid (∀ W, Calls Tryz.prog 143 #[.string s, .func (.func 144) #[] #[]] W fun e w' => e = .returned (.bool (decide (0 ≤ Lib.idxFunc badName true s))) ∧ Below W.heap.size W w') := fun W => Tryz.strings_ContainsFunc 144 #[] (enters_of Tryz.func144 (by kernel_rfl) rfl) badName s W (nameLetter_any W)
  have HS := mkH small_any
  unfold maxLen at hs
  by_cases h0 : 0 < s.size
  · have e0 : ¬ s.toList = [] := fun e => toList_nil.1 e h0
    by_cases h1 : s.size ≤ 16
    · have h1' : (s.size : Int) ≤ 16 := by omega
      cases h2 : smallB (wrap32 ((s[0]'h0).toNat : Int)) with
      | false =>
        have HR : Hid (false = nameB s) := nm2 h0 h2
        generalize nameB s = r at *
        go_enter Tryz.func109, Tryz.ntmps109
        go_wp2_with (first
          | (go_at_call 142; refine (HS.out _ _).mono ?_; rintro e w1 ⟨rfl, rfl⟩))
        all_goals go_ret
        all_goals exact ⟨ret_bool HR.out, Below.refl _ _⟩
      | true =>
        have HR : Hid ((!(decide (0 ≤ Lib.idxFunc badName true s))) = nameB s) := nm3 h0 h1 h2
        generalize nameB s = r at *
        generalize decide (0 ≤ Lib.idxFunc badName true s) = q at HC HR
        go_enter Tryz.func109, Tryz.ntmps109
        go_wp2_with (first
          | (go_at_call 143; refine (HC.out _).mono ?_; rintro e w1 ⟨rfl, hb1⟩)
          | (go_at_call 142; refine (HS.out _ _).mono ?_; rintro e w1 ⟨rfl, rfl⟩))
        all_goals go_ret
        all_goals exact ⟨ret_bool (by rw [← HR.out]; simp [e0]), hb1⟩
    · have h1' : (16 : Int) < s.size := by omega
      have HR : Hid (false = nameB s) := nm1 h1
      generalize nameB s = r at *
      clear HC HS h1
      go_enter Tryz.func109, Tryz.ntmps109
      go_wp2
      go_ret
      exact ⟨ret_bool HR.out, Below.refl _ _⟩
  · have HR : Hid (false = nameB s) := nm0 h0
    have e0 : s.toList = [] := toList_nil.2 h0
    generalize nameB s = r at *
    clear HC HS h0
    go_enter Tryz.func109, Tryz.ntmps109
    go_wp2
    go_ret
    exact ⟨ret_bool HR.out, Below.refl _ _⟩

end Go.Proofs.YtlnkbhbpkmnkaaaGreatDoor
namespace Go.Proofs
open Go.Shelf
def Tryz.lays272_ren : Go.Shelf.Ren := ⟨fun | 272 => 134 | 315 => 164 | n => n, fun | 9 => 9 | 40 => 162 | 4 => 4 | 3 => 3 | 0 => 0 | 21 => 21 | n => n, fun | n => n⟩
theorem Tryz.lays272 : Go.Proofs.Lays.n272 Tryz.prog Tryz.lays272_ren := {
  mixed := by kernel_rfl
  f272 := Tryz.func134.trans (congrArg some (by kernel_rfl))
  f315 := Tryz.func164.trans (congrArg some (by kernel_rfl))
  t0 := Tryz.underlying0
  a0 := Tryz.isAgg0
  z0 := Tryz.sizeOf0
  v0 := Tryz.zeroValue0
  t3 := Tryz.underlying3
  a3 := Tryz.isAgg3
  z3 := Tryz.sizeOf3
  v3 := Tryz.zeroValue3
  t4 := Tryz.underlying4
  a4 := Tryz.isAgg4
  z4 := Tryz.sizeOf4
  v4 := Tryz.zeroValue4
  t9 := Tryz.underlying9
  a9 := Tryz.isAgg9
  z9 := Tryz.sizeOf9
  v9 := Tryz.zeroValue9
  t21 := Tryz.underlying21
  a21 := Tryz.isAgg21
  z21 := Tryz.sizeOf21
  v21 := Tryz.zeroValue21
  t40 := Tryz.underlying162
  a40 := Tryz.isAgg162
  z40 := Tryz.sizeOf162
  v40 := Tryz.zeroValue162 }
end Go.Proofs
namespace Go.Proofs.YtlnkbhbpkmnkaaaGreatDoor
open Go.Lib

def I64 (n : Int) : Prop := -9223372036854775808 ≤ n ∧ n ≤ 9223372036854775807
/-- What is ahead of the first c, what is behind it, and whether there is one. -/
def cutL (c : UInt8) : List UInt8 → List UInt8 × List UInt8 × Bool
  | [] => ([], [], false)
  | b :: l => if b = c then ([], l, true) else (b :: (cutL c l).1, (cutL c l).2.1, (cutL c l).2.2)
theorem cutL_hit {c : UInt8} : ∀ {x y : List UInt8}, c ∉ x → cutL c (x ++ c :: y) = (x, y, true)
  | [], y, _ => by simp [cutL]
  | b :: x, y, h => by
    have hb : b ≠ c := fun e => h (by simp [e])
    have ih := cutL_hit (c := c) (x := x) (y := y) (fun e => h (by simp [e]))
    rw [List.cons_append, cutL, if_neg hb, ih]
theorem cutL_miss {c : UInt8} : ∀ {x : List UInt8}, c ∉ x → cutL c x = (x, [], false)
  | [], _ => rfl
  | b :: x, h => by
    have hb : b ≠ c := fun e => h (by simp [e])
    have ih := cutL_miss (c := c) (x := x) (fun e => h (by simp [e]))
    rw [cutL, if_neg hb, ih]
theorem cutL_le (c : UInt8) : ∀ s : List UInt8, (cutL c s).2.1.length + (cutL c s).1.length ≤ s.length
  | [] => by simp [cutL]
  | b :: l => by
    have ih := cutL_le c l
    unfold cutL
    split
    · simp
    · simp only [List.length_cons]; omega
theorem cutL_lt (c : UInt8) : ∀ {s : List UInt8}, s ≠ [] → (cutL c s).2.1.length < s.length
  | [], h => absurd rfl h
  | b :: l, _ => by
    have ih := cutL_le c l
    unfold cutL
    split
    · simp
    · simp only [List.length_cons]; omega
theorem cutL_found (c : UInt8) : ∀ s : List UInt8, ((cutL c s).2.2 = true ∧ s = (cutL c s).1 ++ c :: (cutL c s).2.1 ∧ c ∉ (cutL c s).1) ∨ (cutL c s = (s, [], false) ∧ c ∉ s)
  | [] => .inr ⟨rfl, by simp⟩
  | b :: l => by
    unfold cutL
    split
    · rename_i h
      subst h
      exact .inl ⟨rfl, rfl, by simp⟩
    · rename_i h
      rcases cutL_found c l with ⟨h1, h2, h3⟩ | ⟨h1, h2⟩
      · refine .inl ⟨h1, by rw [List.cons_append, ← h2], ?_⟩
        simp only [List.mem_cons, not_or]
        exact ⟨fun e => h e.symm, h3⟩
      · rw [h1]
        refine .inr ⟨rfl, ?_⟩
        simp only [List.mem_cons, not_or]
        exact ⟨fun e => h e.symm, h2⟩
theorem cut_index_no {c : UInt8} {s : List UInt8} (h : indexByte s c = -1) : cutL c s = (s, [], false) := by
  induction s with
  | nil => rfl
  | cons b l ih =>
    unfold indexByte at h
    split at h
    · cases h
    · rename_i hb
      have hb' : b ≠ c := by simpa using hb
      have hl : indexByte l c = -1 := by
        split at h
        · rename_i e; simpa using e
        · have := indexByte_ge l c; rename_i e; simp at e; omega
      rw [cutL, if_neg hb', ih hl]
theorem cut_index_yes {c : UInt8} : ∀ {s : List UInt8} {i : Nat}, indexByte s c = i → cutL c s = (s.take i, s.drop (i + 1), true) ∧ i < s.length
  | [], i, h => by unfold indexByte at h; omega
  | b :: l, i, h => by
    unfold indexByte at h
    split at h
    · rename_i hb
      have hb' : b = c := by simpa using hb
      have : i = 0 := by omega
      subst this
      rw [cutL, if_pos hb']
      simp
    · rename_i hb
      have hb' : b ≠ c := by simpa using hb
      split at h
      · omega
      · rename_i e
        obtain ⟨j, rfl⟩ : ∃ j, i = j + 1 := ⟨i - 1, by have := indexByte_ge l c; simp at e; omega⟩
        obtain ⟨h1, h2⟩ := cut_index_yes (c := c) (s := l) (i := j) (by omega)
        rw [cutL, if_neg hb', h1]
        simp
        omega
theorem index_cases (s : List UInt8) (c : UInt8) : indexByte s c = -1 ∨ ∃ i : Nat, indexByte s c = i := by
  have := indexByte_ge s c
  by_cases h : indexByte s c = -1
  · exact .inl h
  · exact .inr ⟨(indexByte s c).toNat, by omega⟩

/-- The lines of a text, without what ends them. -/
def linesT (s : List UInt8) : List (List UInt8) := if _h : s = [] then [] else (cutL 10 s).1 :: linesT (cutL 10 s).2.1
termination_by s.length
decreasing_by exact cutL_lt 10 _h
theorem linesT_nil : linesT [] = [] := by rw [linesT, dif_pos rfl]
theorem linesT_cons {s : List UInt8} (h : s ≠ []) : linesT s = (cutL 10 s).1 :: linesT (cutL 10 s).2.1 := by rw [linesT, dif_neg h]
theorem linesT_lines : ∀ {l : List (List UInt8)}, (∀ x ∈ l, (10 : UInt8) ∉ x) → linesT (l.flatMap (fun x => x ++ [10])) = l
  | [], _ => linesT_nil
  | x :: l, h => by
    have e : (x :: l).flatMap (fun x => x ++ [(10 : UInt8)]) = x ++ 10 :: l.flatMap (fun x => x ++ [10]) := by simp
    rw [e, linesT_cons (by simp), cutL_hit (h x (by simp))]
    simp only
    rw [linesT_lines (fun y hy => h y (by simp [hy]))]
theorem linesT_len : ∀ (n : Nat) (s : List UInt8), s.length ≤ n → (linesT s).length ≤ s.length
  | 0, s, h => by
    have : s = [] := List.length_eq_zero_iff.1 (by omega)
    subst this; rw [linesT_nil]; simp
  | n + 1, s, h => by
    by_cases e : s = []
    · subst e; rw [linesT_nil]; simp
    · have h1 := cutL_lt 10 e
      have h2 := linesT_len n (cutL 10 s).2.1 (by omega)
      rw [linesT_cons e]
      simp only [List.length_cons]; omega

/-- The parts of a text between commas. -/
def splitT (c : UInt8) (s : List UInt8) : List (List UInt8) := if _h : (cutL c s).2.2 = true then (cutL c s).1 :: splitT c (cutL c s).2.1 else [s]
termination_by s.length
decreasing_by
  refine cutL_lt c (fun e => ?_)
  subst e
  simp [cutL] at _h
theorem splitT_miss {c : UInt8} {s : List UInt8} (h : c ∉ s) : splitT c s = [s] := by
  rw [splitT, dif_neg (by rw [cutL_miss h]; simp)]
theorem splitT_hit {c : UInt8} {x y : List UInt8} (h : c ∉ x) : splitT c (x ++ c :: y) = x :: splitT c y := by
  rw [splitT, dif_pos (by rw [cutL_hit h]), cutL_hit h]
theorem splitT_join {c : UInt8} : ∀ {l : List (List UInt8)}, l ≠ [] → (∀ x ∈ l, c ∉ x) → splitT c (Lib.join l [c]) = l
  | [], h, _ => absurd rfl h
  | [x], _, h => by
    have e : Lib.join [x] [c] = x := by simp [Lib.join]
    rw [e, splitT_miss (h x (by simp))]
  | x :: y :: l, _, h => by
    have e : Lib.join (x :: y :: l) [c] = x ++ c :: Lib.join (y :: l) [c] := by simp [Lib.join]
    rw [e, splitT_hit (h x (by simp)), splitT_join (by simp) (fun z hz => h z (by simp [hz]))]

/-! Numbers. -/
theorem dec_digit {u : Nat} : ∀ b ∈ decDigits u, 48 ≤ b.toNat ∧ b.toNat ≤ 57 := by
  induction u using Nat.strongRecOn with
  | _ u ih =>
    rw [decDigits]
    split
    · rename_i h
      intro b hb
      simp only [List.mem_singleton] at hb
      subst hb
      rw [UInt8.toNat_ofNat']
      omega
    · rename_i h
      intro b hb
      rcases List.mem_append.1 hb with hb | hb
      · exact ih (u / 10) (by omega) b hb
      · simp only [List.mem_singleton] at hb
        subst hb
        rw [UInt8.toNat_ofNat']
        omega
theorem dec_ne (u : Nat) : decDigits u ≠ [] := by
  rw [decDigits]
  split <;> simp
theorem parse_app : ∀ {x y : List UInt8} {a u : Nat}, parseUint10 a x = .ok u → parseUint10 a (x ++ y) = parseUint10 u y
  | [], y, a, u, h => by
    simp only [parseUint10] at h
    injection h with h
    subst h
    rfl
  | c :: x, y, a, u, h => by
    simp only [parseUint10] at h
    rw [List.cons_append, parseUint10]
    split at h
    · rename_i h1
      rw [if_pos h1]
      split at h
      · cases h
      · rename_i h2
        rw [if_neg h2]
        split at h
        · cases h
        · rename_i h3
          rw [if_neg h3]
          exact parse_app h
    · cases h
theorem parse_dec (u : Nat) (h : u < 18446744073709551616) : parseUint10 0 (decDigits u) = .ok u := by
  induction u using Nat.strongRecOn with
  | _ u ih =>
    rw [decDigits]
    split
    · rename_i h1
      have e : (UInt8.ofNat (48 + u)).toNat = 48 + u := by rw [UInt8.toNat_ofNat']; omega
      simp only [parseUint10, e]
      rw [if_pos (by omega), if_neg (by omega), if_neg (by omega)]
      congr 1
      omega
    · rename_i h1
      rw [parse_app (ih (u / 10) (by omega) (by omega))]
      have e : (UInt8.ofNat (48 + u % 10)).toNat = 48 + u % 10 := by rw [UInt8.toNat_ofNat']; omega
      simp only [parseUint10, e]
      rw [if_pos (by omega), if_neg (by omega), if_neg (by omega)]
      congr 1
      omega
theorem mag_dec (u : Nat) (h : u < 18446744073709551616) : parseMag (decDigits u) = .ok u := by
  unfold parseMag
  rw [if_neg (dec_ne u), parse_dec u h]
theorem atoi_itoa {n : Int} (h0 : -9223372036854775808 ≤ n) (h1 : n ≤ 9223372036854775807) : atoiAll (itoa n) = .ok n := by
  unfold itoa
  split
  · rename_i h
    rw [atoiAll_minus, mag_dec _ (by omega)]
    simp only [signed]
    rw [if_neg (by omega)]
    congr 1
    omega
  · rename_i h
    obtain ⟨c, r, e⟩ : ∃ c r, decDigits n.toNat = c :: r := by
      cases hd : decDigits n.toNat with
      | nil => exact absurd hd (dec_ne _)
      | cons c r => exact ⟨c, r, rfl⟩
    have hc := dec_digit (u := n.toNat) c (by rw [e]; simp)
    have hm := mag_dec n.toNat (by omega)
    rw [e] at hm ⊢
    rw [atoiAll_plain c r (by omega) (by omega), hm]
    simp only [signless]
    rw [if_neg (by omega)]
    congr 1
    omega
theorem itoa_sign {n : Int} : ∀ b ∈ itoa n, b.toNat = 45 ∨ (48 ≤ b.toNat ∧ b.toNat ≤ 57) := by
  intro b hb
  unfold itoa at hb
  split at hb
  · simp only [List.mem_cons] at hb
    rcases hb with rfl | hb
    · exact .inl rfl
    · exact .inr (dec_digit b hb)
  · exact .inr (dec_digit b hb)
theorem itoa_ne (n : Int) : itoa n ≠ [] := by
  unfold itoa
  split
  · simp
  · exact dec_ne _
theorem atoi_nil : atoiAll [] = .syntax := rfl

/-! Runes that are letters. -/
theorem decode_small {s : ByteArray} {i : Nat} (h : (Utf8.decode s i).1 < 128) : (s.get! i).toNat = (Utf8.decode s i).1 ∧ (Utf8.decode s i).2 = 1 := by
  rw [decode_at] at h ⊢
  unfold decodeN at h ⊢
  repeat' split at h
  all_goals simp_all
  all_goals omega
theorem idx_all {p : Nat → Bool} {s : ByteArray} (hp : ∀ r, 126 < r → p r = true) : ∀ (f i : Nat), ¬ 0 ≤ idxFuncFrom p true s f i → s.size ≤ f + i → ∀ j, i ≤ j → j < s.size → p (s.get! j).toNat = false ∧ (s.get! j).toNat ≤ 126
  | 0, i, _, hf, j, h1, h2 => by omega
  | f + 1, i, h, hf, j, h1, h2 => by
    unfold idxFuncFrom at h
    rw [if_pos (by omega)] at h
    by_cases hq : p (Utf8.decode s i).1 = true
    · rw [if_pos hq] at h; omega
    · rw [if_neg hq] at h
      have hq' : p (Utf8.decode s i).1 = false := by simpa using hq
      have hs : (Utf8.decode s i).1 ≤ 126 := by
        by_cases hc : 126 < (Utf8.decode s i).1
        · rw [hp _ hc] at hq'; cases hq'
        · omega
      obtain ⟨e1, e2⟩ := decode_small (s := s) (i := i) (by omega)
      rw [e2] at h
      by_cases hj : j = i
      · subst hj
        rw [e1]
        exact ⟨hq', hs⟩
      · exact idx_all hp f (i + 1) h (by omega) j (by omega) h2
theorem mem_get {s : ByteArray} {b : UInt8} (h : b ∈ s.data.toList) : ∃ j, j < s.size ∧ s.get! j = b := by
  obtain ⟨j, hj, e⟩ := List.getElem_of_mem h
  have hj' : j < s.size := by rw [Array.length_toList] at hj; exact hj
  refine ⟨j, hj', ?_⟩
  have hj2 : j < s.data.size := hj'
  show s.data[j]! = b
  rw [getElem!_pos s.data j hj2, ← e, Array.getElem_toList]
theorem idx_mem {p : Nat → Bool} {s : ByteArray} (hp : ∀ r, 126 < r → p r = true) (h : ¬ 0 ≤ idxFunc p true s) : ∀ b ∈ s.data.toList, p b.toNat = false ∧ b.toNat ≤ 126 := by
  intro b hb
  obtain ⟨j, hj, e⟩ := mem_get hb
  have := idx_all hp s.size 0 h (by omega) j (Nat.zero_le _) hj
  rwa [e] at this
end Go.Proofs.YtlnkbhbpkmnkaaaGreatDoor
namespace Go.Proofs.YtlnkbhbpkmnkaaaGreatDoor.Ask
open Go.Lib

structure Tok where
  kind : Nat
  text : List UInt8
  code : Nat
inductive Vl where
  | null : Vl
  | num : Int → Vl
  | text : List UInt8 → Vl
inductive Tr where
  | cmp : Nat → List UInt8 → Vl → Tr
  | isn : Bool → List UInt8 → Tr
  | no : Tr → Tr
  | bi : Bool → Tr → Tr → Tr
def wOr : List UInt8 := [111, 114]
def wAnd : List UInt8 := [97, 110, 100]
def wNot : List UInt8 := [110, 111, 116]
def wIs : List UInt8 := [105, 115]
def wNull : List UInt8 := [110, 117, 108, 108]
def tW (l : List UInt8) : Tok := ⟨1, l, 0⟩
def tM (l : List UInt8) (c : Nat) : Tok := ⟨4, l, c⟩
def isT (k : Nat) (w : List UInt8) (t : Tok) : Bool := decide (t.kind = k) && decide (t.text = w)
def hdT (k : Nat) (w : List UInt8) : List Tok → Bool
  | [] => false
  | t :: _ => isT k w t
theorem isT_w (w : List UInt8) : isT 1 w (tW w) = true := by simp [isT, tW]
theorem isT_wm (w w' : List UInt8) : isT 4 w' (tW w) = false := by simp [isT, tW]
def numT (l : List UInt8) : Option Int := match atoiAll l with
  | .ok v => some v
  | _ => none
section
variable (nm rt : List UInt8 → Bool)
def needNull (x : Tr) : List Tok → Option (Tr × List Tok)
  | [] => none
  | v :: r => if isT 1 wNull v then some (x, r) else none
def valP (k : Vl → Tr) : List Tok → Option (Tr × List Tok)
  | [] => none
  | v :: r => if isT 1 wNull v then some (k .null, r) else if v.kind = 3 then (if rt v.text then some (k (.text v.text), r) else none) else if v.kind = 2 then (numT v.text).map fun n => (k (.num n), r) else none
def leaf3 (col : List UInt8) : List Tok → Option (Tr × List Tok)
  | [] => none
  | v :: r => if isT 1 wNot v then needNull (.isn true col) r else needNull (.isn false col) (v :: r)
def leaf2 (col : List UInt8) : List Tok → Option (Tr × List Tok)
  | [] => none
  | u :: r => if isT 1 wIs u then leaf3 col r else if u.code ≠ 0 then valP rt (.cmp u.code col) r else none
def leafP : List Tok → Option (Tr × List Tok)
  | [] => none
  | t :: r => if t.kind = 1 ∧ nm t.text = true then leaf2 rt t.text r else none
inductive Md where
  | cond : Md
  | all : Md
  | one : Md
  | condL : Tr → Md
  | allL : Tr → Md
/-- What comes of reading: a condition and what is left, or nothing (it is thrown). -/
inductive PR : Md → Nat → List Tok → Option (Tr × List Tok) → Prop
  | cond_no {d : Nat} {ts : List Tok} : PR .all d ts none → PR .cond d ts none
  | cond_go {d : Nat} {ts r : List Tok} {c : Tr} {o : Option (Tr × List Tok)} : PR .all d ts (some (c, r)) → PR (.condL c) d r o → PR .cond d ts o
  | condL_end {d : Nat} {ts : List Tok} {c : Tr} : hdT 1 wOr ts = false → PR (.condL c) d ts (some (c, ts))
  | condL_no {d : Nat} {t : Tok} {r : List Tok} {c : Tr} : isT 1 wOr t = true → PR .all d r none → PR (.condL c) d (t :: r) none
  | condL_go {d : Nat} {t : Tok} {r r2 : List Tok} {c x : Tr} {o : Option (Tr × List Tok)} : isT 1 wOr t = true → PR .all d r (some (x, r2)) → PR (.condL (.bi true c x)) d r2 o → PR (.condL c) d (t :: r) o
  | all_no {d : Nat} {ts : List Tok} : PR .one d ts none → PR .all d ts none
  | all_go {d : Nat} {ts r : List Tok} {c : Tr} {o : Option (Tr × List Tok)} : PR .one d ts (some (c, r)) → PR (.allL c) d r o → PR .all d ts o
  | allL_end {d : Nat} {ts : List Tok} {c : Tr} : hdT 1 wAnd ts = false → PR (.allL c) d ts (some (c, ts))
  | allL_no {d : Nat} {t : Tok} {r : List Tok} {c : Tr} : isT 1 wAnd t = true → PR .one d r none → PR (.allL c) d (t :: r) none
  | allL_go {d : Nat} {t : Tok} {r r2 : List Tok} {c x : Tr} {o : Option (Tr × List Tok)} : isT 1 wAnd t = true → PR .one d r (some (x, r2)) → PR (.allL (.bi false c x)) d r2 o → PR (.allL c) d (t :: r) o
  | one_deep {d : Nat} {ts : List Tok} : 6 < d → PR .one d ts none
  | one_not_no {d : Nat} {t : Tok} {r : List Tok} : d ≤ 6 → isT 1 wNot t = true → PR .one (d + 1) r none → PR .one d (t :: r) none
  | one_not {d : Nat} {t : Tok} {r r2 : List Tok} {x : Tr} : d ≤ 6 → isT 1 wNot t = true → PR .one (d + 1) r (some (x, r2)) → PR .one d (t :: r) (some (.no x, r2))
  | one_par_no {d : Nat} {t : Tok} {r : List Tok} : d ≤ 6 → isT 1 wNot t = false → isT 4 [40] t = true → PR .cond (d + 1) r none → PR .one d (t :: r) none
  | one_par_bad {d : Nat} {t : Tok} {r r2 : List Tok} {x : Tr} : d ≤ 6 → isT 1 wNot t = false → isT 4 [40] t = true → PR .cond (d + 1) r (some (x, r2)) → hdT 4 [41] r2 = false → PR .one d (t :: r) none
  | one_par {d : Nat} {t u : Tok} {r r2 : List Tok} {x : Tr} : d ≤ 6 → isT 1 wNot t = false → isT 4 [40] t = true → PR .cond (d + 1) r (some (x, u :: r2)) → isT 4 [41] u = true → PR .one d (t :: r) (some (x, r2))
  | one_leaf {d : Nat} {ts : List Tok} : d ≤ 6 → hdT 1 wNot ts = false → hdT 4 [40] ts = false → PR .one d ts (leafP nm rt ts)
end
section
variable {nm rt : List UInt8 → Bool}
theorem pr_one {m : Md} {d : Nat} {ts : List Tok} {o : Option (Tr × List Tok)} (h : PR nm rt m d ts o) : ∀ o', PR nm rt m d ts o' → o = o' := by
  induction h with
  | cond_no _ ih =>
    intro o' h'
    cases h' with
    | cond_no _ => rfl
    | cond_go h1 _ => cases ih _ h1
  | cond_go _ _ ih1 ih2 =>
    intro o' h'
    cases h' with
    | cond_no h1 => cases ih1 _ h1
    | cond_go h1 h2 => cases ih1 _ h1; exact ih2 _ h2
  | condL_end h =>
    intro o' h'
    cases h' with
    | condL_end _ => rfl
    | condL_no h1 _ => rw [hdT, h1] at h; cases h
    | condL_go h1 _ _ => rw [hdT, h1] at h; cases h
  | condL_no h _ ih =>
    intro o' h'
    cases h' with
    | condL_end h1 => rw [hdT, h] at h1; cases h1
    | condL_no _ _ => rfl
    | condL_go _ h2 _ => cases ih _ h2
  | condL_go h _ _ ih1 ih2 =>
    intro o' h'
    cases h' with
    | condL_end h1 => rw [hdT, h] at h1; cases h1
    | condL_no _ h2 => cases ih1 _ h2
    | condL_go _ h2 h3 => cases ih1 _ h2; exact ih2 _ h3
  | all_no _ ih =>
    intro o' h'
    cases h' with
    | all_no _ => rfl
    | all_go h1 _ => cases ih _ h1
  | all_go _ _ ih1 ih2 =>
    intro o' h'
    cases h' with
    | all_no h1 => cases ih1 _ h1
    | all_go h1 h2 => cases ih1 _ h1; exact ih2 _ h2
  | allL_end h =>
    intro o' h'
    cases h' with
    | allL_end _ => rfl
    | allL_no h1 _ => rw [hdT, h1] at h; cases h
    | allL_go h1 _ _ => rw [hdT, h1] at h; cases h
  | allL_no h _ ih =>
    intro o' h'
    cases h' with
    | allL_end h1 => rw [hdT, h] at h1; cases h1
    | allL_no _ _ => rfl
    | allL_go _ h2 _ => cases ih _ h2
  | allL_go h _ _ ih1 ih2 =>
    intro o' h'
    cases h' with
    | allL_end h1 => rw [hdT, h] at h1; cases h1
    | allL_no _ h2 => cases ih1 _ h2
    | allL_go _ h2 h3 => cases ih1 _ h2; exact ih2 _ h3
  | one_deep h =>
    intro o' h'
    cases h' with
    | one_deep _ => rfl
    | one_not_no h1 _ _ => omega
    | one_not h1 _ _ => omega
    | one_par_no h1 _ _ _ => omega
    | one_par_bad h1 _ _ _ _ => omega
    | one_par h1 _ _ _ _ => omega
    | one_leaf h1 _ _ => omega
  | one_not_no h hn _ ih =>
    intro o' h'
    cases h' with
    | one_deep h1 => rfl
    | one_not_no _ _ _ => rfl
    | one_not _ _ h2 => cases ih _ h2
    | one_par_no _ h2 _ _ => rfl
    | one_par_bad _ h2 _ _ _ => rfl
    | one_par _ h2 _ _ _ => rw [hn] at h2; cases h2
    | one_leaf _ h2 _ => rw [hdT, hn] at h2; cases h2
  | one_not h hn _ ih =>
    intro o' h'
    cases h' with
    | one_deep h1 => omega
    | one_not_no _ _ h2 => cases ih _ h2
    | one_not _ _ h2 => cases ih _ h2; rfl
    | one_par_no _ h2 _ _ => rw [hn] at h2; cases h2
    | one_par_bad _ h2 _ _ _ => rw [hn] at h2; cases h2
    | one_par _ h2 _ _ _ => rw [hn] at h2; cases h2
    | one_leaf _ h2 _ => rw [hdT, hn] at h2; cases h2
  | one_par_no h hn hp _ ih =>
    intro o' h'
    cases h' with
    | one_deep _ => rfl
    | one_not_no _ _ _ => rfl
    | one_not _ h2 _ => rw [hn] at h2; cases h2
    | one_par_no _ _ _ _ => rfl
    | one_par_bad _ _ _ _ _ => rfl
    | one_par _ _ _ h2 _ => cases ih _ h2
    | one_leaf _ _ h2 => rw [hdT, hp] at h2; cases h2
  | one_par_bad h hn hp _ hc ih =>
    intro o' h'
    cases h' with
    | one_deep _ => rfl
    | one_not_no _ _ _ => rfl
    | one_not _ h2 _ => rw [hn] at h2; cases h2
    | one_par_no _ _ _ _ => rfl
    | one_par_bad _ _ _ _ _ => rfl
    | one_par _ _ _ h2 h3 => cases ih _ h2; rw [hdT, h3] at hc; cases hc
    | one_leaf _ _ h2 => rw [hdT, hp] at h2; cases h2
  | one_par h hn hp _ hc ih =>
    intro o' h'
    cases h' with
    | one_deep h1 => omega
    | one_not_no _ h2 _ => rw [hn] at h2; cases h2
    | one_not _ h2 _ => rw [hn] at h2; cases h2
    | one_par_no _ _ _ h2 => cases ih _ h2
    | one_par_bad _ _ _ h2 h3 => cases ih _ h2; rw [hdT, hc] at h3; cases h3
    | one_par _ _ _ h2 _ => cases ih _ h2; rfl
    | one_leaf _ _ h2 => rw [hdT, hp] at h2; cases h2
  | one_leaf h hn hp =>
    intro o' h'
    cases h' with
    | one_deep h1 => omega
    | one_not_no _ h2 _ => rw [hdT, h2] at hn; cases hn
    | one_not _ h2 _ => rw [hdT, h2] at hn; cases hn
    | one_par_no _ _ h2 _ => rw [hdT, h2] at hp; cases hp
    | one_par_bad _ _ h2 _ _ => rw [hdT, h2] at hp; cases hp
    | one_par _ _ h2 _ _ => rw [hdT, h2] at hp; cases hp
    | one_leaf _ _ _ => rfl
end
end Go.Proofs.YtlnkbhbpkmnkaaaGreatDoor.Ask
namespace Go.Proofs.YtlnkbhbpkmnkaaaGreatDoor.Ask
open Go.Lib

def clo : Tr → Nat
  | .bi true _ _ => 0
  | .bi false _ _ => 1
  | _ => 2
def tO : Tok := tM [40] 0
def tC : Tok := tM [41] 0
def par (k : Nat) (T : Tr) (l : List Tok) : List Tok := if clo T < k then tO :: (l ++ [tC]) else l
def dpar (k : Nat) (T : Tr) (n : Nat) : Nat := if clo T < k then n + 1 else n
def mk (c : Nat) : List UInt8 := match c with
  | 1 => [61]
  | 2 => [60, 62]
  | 3 => [60]
  | 4 => [60, 61]
  | 5 => [62]
  | 6 => [62, 61]
  | _ => []
section
variable (dc : Int → List UInt8)
def vt : Vl → Tok
  | .null => tW wNull
  | .num n => ⟨2, dc n, 0⟩
  | .text l => ⟨3, l, 0⟩
def wt : Tr → List Tok
  | .cmp c col v => [tW col, tM (mk c) c, vt dc v]
  | .isn false col => [tW col, tW wIs, tW wNull]
  | .isn true col => [tW col, tW wIs, tW wNot, tW wNull]
  | .no x => tW wNot :: par 2 x (wt x)
  | .bi true x y => par 0 x (wt x) ++ tW wOr :: par 1 y (wt y)
  | .bi false x y => par 1 x (wt x) ++ tW wAnd :: par 2 y (wt y)
end
def dw : Tr → Nat
  | .cmp _ _ _ => 0
  | .isn _ _ => 0
  | .no x => 1 + dpar 2 x (dw x)
  | .bi true x y => max (dpar 0 x (dw x)) (dpar 1 y (dw y))
  | .bi false x y => max (dpar 1 x (dw x)) (dpar 2 y (dw y))
def VV (rt : List UInt8 → Bool) (okn : Int → Prop) : Vl → Prop
  | .null => True
  | .num n => okn n
  | .text l => rt l = true
def VT (nm rt : List UInt8 → Bool) (okn : Int → Prop) : Tr → Prop
  | .cmp c col v => (1 ≤ c ∧ c ≤ 6) ∧ nm col = true ∧ VV rt okn v
  | .isn _ col => nm col = true
  | .no x => VT nm rt okn x
  | .bi _ x y => VT nm rt okn x ∧ VT nm rt okn y

section
variable {nm rt : List UInt8 → Bool} {okn : Int → Prop} {dc : Int → List UInt8}
theorem and_or (r : List Tok) : hdT 1 wAnd (tW wOr :: r) = false := by
  show (decide ((1 : Nat) = 1) && decide (wOr = wAnd)) = false
  simp [wOr, wAnd]
/-- Names are none of the words. -/
def NN (nm : List UInt8 → Bool) : Prop := nm wNot = false
theorem leaf_back (hN : NN nm) (hD : ∀ n, okn n → numT (dc n) = some n) (d : Nat) (hd : d ≤ 6) (T : Tr) (hL : clo T = 2) (hno : ∀ x, T ≠ .no x) (hV : VT nm rt okn T) (rest : List Tok) : PR nm rt .one d (wt dc T ++ rest) (some (T, rest)) := by
  have key : hdT 1 wNot (wt dc T ++ rest) = false ∧ hdT 4 [40] (wt dc T ++ rest) = false ∧ leafP nm rt (wt dc T ++ rest) = some (T, rest) := by
    cases T with
    | cmp c col v =>
      obtain ⟨⟨hc1, hc6⟩, hn, hv⟩ := hV
      have h1 : isT 1 wNot (tW col) = false := by
        have : col ≠ wNot := fun h => by rw [h, show nm wNot = false from hN] at hn; cases hn
        simp [isT, tW, this]
      refine ⟨h1, isT_wm _ _, ?_⟩
      have hi : isT 1 wIs (tM (mk c) c) = false := by simp [isT, tM]
      have hc0 : (tM (mk c) c).code ≠ 0 := by show c ≠ 0; omega
      show leafP nm rt (tW col :: tM (mk c) c :: vt dc v :: rest) = _
      simp only [leafP]
      rw [if_pos (⟨rfl, hn⟩ : (tW col).kind = 1 ∧ nm (tW col).text = true)]
      simp only [leaf2, hi]
      rw [if_neg (by simp), if_pos hc0]
      cases v with
      | null => simp only [valP]; rw [if_pos (show isT 1 wNull (vt dc .null) = true from isT_w _)]; rfl
      | num n =>
        simp only [valP]
        rw [if_neg (by simp [isT, vt]), if_neg (by simp [vt]), if_pos (by rfl)]
        show (numT (dc n)).map _ = _
        rw [hD n hv]; rfl
      | text l =>
        simp only [valP]
        rw [if_neg (by simp [isT, vt]), if_pos (by rfl)]
        show (if rt l = true then _ else _) = _
        rw [if_pos (show rt l = true from hv)]; rfl
    | isn b col =>
      have hn : nm col = true := hV
      have h1 : isT 1 wNot (tW col) = false := by
        have : col ≠ wNot := fun h => by rw [h, show nm wNot = false from hN] at hn; cases hn
        simp [isT, tW, this]
      cases b with
      | false =>
        refine ⟨h1, isT_wm _ _, ?_⟩
        show leafP nm rt (tW col :: tW wIs :: tW wNull :: rest) = _
        simp only [leafP]
        rw [if_pos (⟨rfl, hn⟩ : (tW col).kind = 1 ∧ nm (tW col).text = true)]
        simp only [leaf2]
        rw [if_pos (isT_w wIs)]
        simp only [leaf3]
        rw [if_neg (by simp [isT, tW, wNull, wNot])]
        simp only [needNull]
        rw [if_pos (isT_w wNull)]; rfl
      | true =>
        refine ⟨h1, isT_wm _ _, ?_⟩
        show leafP nm rt (tW col :: tW wIs :: tW wNot :: tW wNull :: rest) = _
        simp only [leafP]
        rw [if_pos (⟨rfl, hn⟩ : (tW col).kind = 1 ∧ nm (tW col).text = true)]
        simp only [leaf2]
        rw [if_pos (isT_w wIs)]
        simp only [leaf3]
        rw [if_pos (isT_w wNot)]
        simp only [needNull]
        rw [if_pos (isT_w wNull)]; rfl
    | no x => exact absurd rfl (hno x)
    | bi b x y => cases b <;> cases hL
  exact key.2.2 ▸ PR.one_leaf hd key.1 key.2.1

/-- What is read of what is written: as one, as all, as a whole. -/
def BkA (nm rt : List UInt8 → Bool) (dc : Int → List UInt8) (T : Tr) : Prop := ∀ d rest, d + dpar 2 T (dw T) ≤ 6 → PR nm rt .one d (par 2 T (wt dc T) ++ rest) (some (T, rest))
def BkB (nm rt : List UInt8 → Bool) (dc : Int → List UInt8) (T : Tr) : Prop := ∀ d rest o, d + dpar 1 T (dw T) ≤ 6 → PR nm rt (.allL T) d rest o → PR nm rt .all d (par 1 T (wt dc T) ++ rest) o
def BkC (nm rt : List UInt8 → Bool) (dc : Int → List UInt8) (T : Tr) : Prop := ∀ d rest o, d + dw T ≤ 6 → hdT 1 wAnd rest = false → PR nm rt (.condL T) d rest o → PR nm rt .cond d (wt dc T ++ rest) o
theorem b_of_a {T : Tr} (hc : clo T ≠ 1) (h : BkA nm rt dc T) : BkB nm rt dc T := by
  intro d rest o hd ho
  have e : dpar 1 T (dw T) = dpar 2 T (dw T) := by unfold dpar; split <;> split <;> omega
  have e' : par 1 T (wt dc T) = par 2 T (wt dc T) := by
    unfold par; split <;> split <;> first | rfl | omega
  rw [e']; exact PR.all_go (h d rest (e ▸ hd)) ho
theorem clo2 (T : Tr) : clo T ≤ 2 := by
  cases T with
  | bi b _ _ => cases b <;> simp [clo]
  | _ => simp [clo]
theorem c_of_b {T : Tr} (hc : clo T ≠ 0) (h : BkB nm rt dc T) : BkC nm rt dc T := by
  intro d rest o hd ha ho
  have e : dpar 1 T (dw T) = dw T := by unfold dpar; split <;> omega
  have e' : par 1 T (wt dc T) = wt dc T := by
    unfold par; split <;> first | rfl | omega
  have := h d rest _ (e.symm ▸ hd) (PR.allL_end ha)
  rw [e'] at this
  exact PR.cond_go this ho
theorem a_of_c {T : Tr} (hc : clo T ≠ 2) (h : BkC nm rt dc T) : BkA nm rt dc T := by
  intro d rest hd
  have hl : clo T < 2 := by have := clo2 T; omega
  simp only [dpar, if_pos hl] at hd
  simp only [par, if_pos hl, List.cons_append, List.append_assoc]
  exact PR.one_par (by omega) (by simp [isT, tO, tM]) (by simp [isT, tO, tM]) (h (d + 1) (tC :: rest) _ (by omega) (by simp [hdT, isT, tC, tM]) (PR.condL_end (by simp [hdT, isT, tC, tM]))) (by simp [isT, tC, tM])
theorem back (hN : NN nm) (hD : ∀ n, okn n → numT (dc n) = some n) (T : Tr) : VT nm rt okn T → BkA nm rt dc T ∧ BkB nm rt dc T ∧ BkC nm rt dc T := by
  have flat : ∀ T, clo T = 2 → BkA nm rt dc T → BkA nm rt dc T ∧ BkB nm rt dc T ∧ BkC nm rt dc T := fun T h a =>
    have b := b_of_a (by omega) a
    ⟨a, b, c_of_b (by omega) b⟩
  induction T with
  | cmp c col v =>
    intro hV
    exact flat _ rfl fun d rest hd => leaf_back hN hD d (by simp [dpar, clo, dw] at hd; exact hd) _ rfl (fun x h => by cases h) hV rest
  | isn b col =>
    intro hV
    exact flat _ rfl fun d rest hd => leaf_back hN hD d (by simp [dpar, clo, dw] at hd; exact hd) _ rfl (fun x h => by cases h) hV rest
  | no x ih =>
    intro hV
    obtain ⟨a, _, _⟩ := ih hV
    refine flat _ rfl fun d rest hd => ?_
    have hd' : d + (1 + dpar 2 x (dw x)) ≤ 6 := hd
    show PR nm rt .one d (tW wNot :: (par 2 x (wt dc x) ++ rest)) _
    exact PR.one_not (by omega) (isT_w wNot) (a (d + 1) rest (by omega))
  | bi b x y ihx ihy =>
    intro hV
    obtain ⟨ax, bx, cx⟩ := ihx hV.1
    obtain ⟨ay, by', cy⟩ := ihy hV.2
    cases b with
    | true =>
      have c : BkC nm rt dc (.bi true x y) := by
        intro d rest o hd ha ho
        have hd' : d + max (dpar 0 x (dw x)) (dpar 1 y (dw y)) ≤ 6 := hd
        have e0 : dpar 0 x (dw x) = dw x := by simp [dpar]
        have e1 : par 0 x (wt dc x) = wt dc x := by simp [par]
        show PR nm rt .cond d ((par 0 x (wt dc x) ++ tW wOr :: par 1 y (wt dc y)) ++ rest) o
        rw [e1, List.append_assoc, List.cons_append]
        exact cx d _ o (by omega) (and_or _) (PR.condL_go (isT_w wOr) (by' d rest _ (by omega) (PR.allL_end ha)) ho)
      have a := a_of_c (T := .bi true x y) (by simp [clo]) c
      exact ⟨a, b_of_a (by simp [clo]) a, c⟩
    | false =>
      have b : BkB nm rt dc (.bi false x y) := by
        intro d rest o hd ho
        have hd' : d + max (dpar 1 x (dw x)) (dpar 2 y (dw y)) ≤ 6 := hd
        show PR nm rt .all d ((par 1 x (wt dc x) ++ tW wAnd :: par 2 y (wt dc y)) ++ rest) o
        rw [List.append_assoc, List.cons_append]
        exact bx d _ o (by omega) (PR.allL_go (isT_w wAnd) (ay d rest (by omega)) ho)
      have c := c_of_b (T := .bi false x y) (by simp [clo]) b
      exact ⟨a_of_c (by simp [clo]) c, b, c⟩
end
end Go.Proofs.YtlnkbhbpkmnkaaaGreatDoor.Ask
namespace Go.Proofs.YtlnkbhbpkmnkaaaGreatDoor.Ask
open Go.Lib
section
variable {nm rt : List UInt8 → Bool} {okn : Int → Prop} {dc : Int → List UInt8}
theorem par_up (k : Nat) (T : Tr) (l : List Tok) : (par k T l).length ≤ (par (k + 1) T l).length := by
  unfold par; split <;> split <;> simp <;> omega
theorem dpar_up (k : Nat) (T : Tr) (n : Nat) : dpar k T n ≤ dpar (k + 1) T n := by
  unfold dpar; split <;> split <;> omega
theorem par_le (k : Nat) (T : Tr) (l : List Tok) : (par k T l).length ≤ l.length + 2 := by
  unfold par; split <;> simp
theorem dpar_le (k : Nat) (T : Tr) (n : Nat) : dpar k T n ≤ n + 1 := by
  unfold dpar; split <;> omega
theorem par0 (T : Tr) (l : List Tok) : par 0 T l = l := by simp [par]
theorem dpar0 (T : Tr) (n : Nat) : dpar 0 T n = n := by simp [dpar]
/-- Codes of tokens are those of marks. -/
def CT (ts : List Tok) : Prop := ∀ t ∈ ts, t.code ≤ 6
theorem CT.tail {t : Tok} {ts : List Tok} (h : CT (t :: ts)) : CT ts := fun u hu => h u (List.mem_cons_of_mem _ hu)
theorem need_cost {x T : Tr} {ts r : List Tok} (h : needNull x ts = some (T, r)) : T = x ∧ r.length + 1 = ts.length ∧ (CT ts → CT r) := by
  cases ts with
  | nil => cases h
  | cons v l =>
    simp only [needNull] at h
    split at h
    · cases h; exact ⟨rfl, rfl, CT.tail⟩
    · cases h
theorem val_cost (hK : ∀ l n, numT l = some n → okn n) {k : Vl → Tr} {T : Tr} {ts r : List Tok} (h : valP rt k ts = some (T, r)) : (∃ v, T = k v ∧ VV rt okn v) ∧ r.length + 1 = ts.length ∧ (CT ts → CT r) := by
  cases ts with
  | nil => cases h
  | cons v l =>
    simp only [valP] at h
    split at h
    · cases h; exact ⟨⟨_, rfl, trivial⟩, rfl, CT.tail⟩
    · split at h
      · split at h
        · cases h; exact ⟨⟨_, rfl, ‹_›⟩, rfl, CT.tail⟩
        · cases h
      · split at h
        · cases hn : numT v.text with
          | none => rw [hn] at h; cases h
          | some n => rw [hn] at h; cases h; exact ⟨⟨_, rfl, hK _ _ hn⟩, rfl, CT.tail⟩
        · cases h
theorem leaf_cost (dc : Int → List UInt8) (hK : ∀ l n, numT l = some n → okn n) {T : Tr} {ts r : List Tok} (hct : CT ts) (h : leafP nm rt ts = some (T, r)) : VT nm rt okn T ∧ clo T = 2 ∧ dw T = 0 ∧ (wt dc T).length + r.length = ts.length ∧ CT r := by
  cases ts with
  | nil => cases h
  | cons t l =>
    simp only [leafP] at h
    split at h
    · rename_i hn
      cases l with
      | nil => cases h
      | cons u l =>
        simp only [leaf2] at h
        split at h
        · cases l with
          | nil => cases h
          | cons v l =>
            simp only [leaf3] at h
            split at h
            · obtain ⟨e, hl, hc⟩ := need_cost h
              subst e
              refine ⟨hn.2, rfl, rfl, ?_, hc hct.tail.tail.tail⟩
              simp [wt]; omega
            · obtain ⟨e, hl, hc⟩ := need_cost h
              subst e
              refine ⟨hn.2, rfl, rfl, ?_, hc hct.tail.tail⟩
              simp [wt] at hl ⊢; omega
        · split at h
          · rename_i hz
            obtain ⟨⟨v, e, hv⟩, hl, hc⟩ := val_cost hK h
            subst e
            have h6 : u.code ≤ 6 := hct u (by simp)
            refine ⟨⟨⟨by omega, h6⟩, hn.2, hv⟩, rfl, rfl, ?_, hc hct.tail.tail⟩
            simp [wt]; omega
          · cases h
    · cases h
def Cost (dc : Int → List UInt8) (nm rt : List UInt8 → Bool) (okn : Int → Prop) : Md → Nat → List Tok → Tr → List Tok → Prop
  | .one, d, ts, T, r => VT nm rt okn T ∧ (par 2 T (wt dc T)).length + r.length ≤ ts.length ∧ d + dpar 2 T (dw T) ≤ 6
  | .all, d, ts, T, r => VT nm rt okn T ∧ (par 1 T (wt dc T)).length + r.length ≤ ts.length ∧ d + dpar 1 T (dw T) ≤ 6
  | .cond, d, ts, T, r => VT nm rt okn T ∧ (wt dc T).length + r.length ≤ ts.length ∧ d + dw T ≤ 6
  | .allL c, d, ts, T, r => VT nm rt okn c → d + dpar 1 c (dw c) ≤ 6 → VT nm rt okn T ∧ (par 1 T (wt dc T)).length + r.length ≤ (par 1 c (wt dc c)).length + ts.length ∧ d + dpar 1 T (dw T) ≤ 6
  | .condL c, d, ts, T, r => VT nm rt okn c → d + dw c ≤ 6 → VT nm rt okn T ∧ (wt dc T).length + r.length ≤ (wt dc c).length + ts.length ∧ d + dw T ≤ 6
theorem pr_cost (dc : Int → List UInt8) (hK : ∀ l n, numT l = some n → okn n) {m : Md} {d : Nat} {ts : List Tok} {o : Option (Tr × List Tok)} (h : PR nm rt m d ts o) : CT ts → ∀ T r, o = some (T, r) → CT r ∧ Cost dc nm rt okn m d ts T r := by
  induction h with
  | cond_no _ _ => intro _ _ _ e; cases e
  | @cond_go d ts r c o _ _ ih1 ih2 =>
    intro hct T r' e
    obtain ⟨c1, v1, l1, d1⟩ := ih1 hct _ _ rfl
    have p1 := par_up 0 c (wt dc c); have q1 := dpar_up 0 c (dw c)
    rw [par0] at p1; rw [dpar0] at q1
    obtain ⟨c2, k2⟩ := ih2 c1 _ _ e
    obtain ⟨v2, l2, d2⟩ := k2 v1 (by simp at q1; omega)
    exact ⟨c2, v2, by simp at p1; omega, d2⟩
  | condL_end h => intro hct T r e; cases e; exact ⟨hct, fun v d => ⟨v, Nat.le_refl _, d⟩⟩
  | condL_no _ _ _ => intro _ _ _ e; cases e
  | @condL_go d t r r2 c x o _ _ _ ih1 ih2 =>
    intro hct T r' e
    obtain ⟨c1, v1, l1, d1⟩ := ih1 hct.tail _ _ rfl
    obtain ⟨c2, k2⟩ := ih2 c1 _ _ e
    refine ⟨c2, fun v dd => ?_⟩
    have ew : (wt dc (.bi true c x)).length = (wt dc c).length + 1 + (par 1 x (wt dc x)).length := by simp [wt, par0]; omega
    have ed : dw (.bi true c x) = max (dw c) (dpar 1 x (dw x)) := by simp [dw, dpar0]
    obtain ⟨v2, l2, d2⟩ := k2 ⟨v, v1⟩ (by rw [ed]; omega)
    refine ⟨v2, ?_, d2⟩
    simp only [List.length_cons]; omega
  | all_no _ _ => intro _ _ _ e; cases e
  | @all_go d ts r c o _ _ ih1 ih2 =>
    intro hct T r' e
    obtain ⟨c1, v1, l1, d1⟩ := ih1 hct _ _ rfl
    have p1 := par_up 1 c (wt dc c); have q1 := dpar_up 1 c (dw c)
    obtain ⟨c2, k2⟩ := ih2 c1 _ _ e
    obtain ⟨v2, l2, d2⟩ := k2 v1 (by simp at q1; omega)
    exact ⟨c2, v2, by simp at p1; omega, d2⟩
  | allL_end h => intro hct T r e; cases e; exact ⟨hct, fun v d => ⟨v, Nat.le_refl _, d⟩⟩
  | allL_no _ _ _ => intro _ _ _ e; cases e
  | @allL_go d t r r2 c x o _ _ _ ih1 ih2 =>
    intro hct T r' e
    obtain ⟨c1, v1, l1, d1⟩ := ih1 hct.tail _ _ rfl
    obtain ⟨c2, k2⟩ := ih2 c1 _ _ e
    refine ⟨c2, fun v dd => ?_⟩
    have ew : (par 1 (.bi false c x) (wt dc (.bi false c x))).length = (par 1 c (wt dc c)).length + 1 + (par 2 x (wt dc x)).length := by
      rw [show par 1 (.bi false c x) (wt dc (.bi false c x)) = wt dc (.bi false c x) from by simp [par, clo]]
      simp [wt]; omega
    have ed : dpar 1 (.bi false c x) (dw (.bi false c x)) = max (dpar 1 c (dw c)) (dpar 2 x (dw x)) := by
      rw [show dpar 1 (.bi false c x) (dw (.bi false c x)) = dw (.bi false c x) from by simp [dpar, clo]]
      simp [dw]
    obtain ⟨v2, l2, d2⟩ := k2 ⟨v, v1⟩ (by rw [ed]; omega)
    refine ⟨v2, ?_, d2⟩
    simp only [List.length_cons]; omega
  | one_deep _ => intro _ _ _ e; cases e
  | one_not_no _ _ _ _ => intro _ _ _ e; cases e
  | @one_not d t r r2 x h hn _ ih =>
    intro hct T r' e
    cases e
    obtain ⟨c1, v1, l1, d1⟩ := ih hct.tail _ _ rfl
    refine ⟨c1, v1, ?_, ?_⟩
    · rw [show par 2 (.no x) (wt dc (.no x)) = tW wNot :: par 2 x (wt dc x) from by simp [par, clo, wt]]
      simp only [List.length_cons]; omega
    · rw [show dpar 2 (.no x) (dw (.no x)) = 1 + dpar 2 x (dw x) from by simp [dpar, clo, dw]]
      omega
  | one_par_no _ _ _ _ _ => intro _ _ _ e; cases e
  | one_par_bad _ _ _ _ _ _ => intro _ _ _ e; cases e
  | @one_par d t u r r2 x h hn hp _ hc ih =>
    intro hct T r' e
    cases e
    obtain ⟨c1, v1, l1, d1⟩ := ih hct.tail _ _ rfl
    have p1 := par_le 2 x (wt dc x); have q1 := dpar_le 2 x (dw x)
    refine ⟨c1.tail, v1, ?_, by omega⟩
    simp only [List.length_cons] at l1 ⊢; omega
  | @one_leaf d ts h hn hp =>
    intro hct T r' e
    obtain ⟨v, c2, d0, l, c1⟩ := leaf_cost dc hK hct e
    refine ⟨c1, v, ?_, ?_⟩
    · rw [show par 2 T (wt dc T) = wt dc T from by simp [par, c2]]; omega
    · rw [show dpar 2 T (dw T) = dw T from by simp [dpar, c2], d0]; omega
theorem need_le {x T : Tr} {ts r : List Tok} (h : needNull x ts = some (T, r)) : r.length < ts.length := by
  have := (need_cost h).2.1; omega
theorem leaf_le {T : Tr} {ts r : List Tok} (h : leafP nm rt ts = some (T, r)) : r.length < ts.length := by
  cases ts with
  | nil => cases h
  | cons t l =>
    simp only [leafP] at h
    split at h
    · cases l with
      | nil => cases h
      | cons u l =>
        simp only [leaf2] at h
        split at h
        · cases l with
          | nil => cases h
          | cons v l =>
            simp only [leaf3] at h
            split at h
            · have := need_le h; simp only [List.length_cons]; omega
            · have := need_le h; simp only [List.length_cons] at this ⊢; omega
        · split at h
          · have := (val_cost (okn := fun _ => True) (fun _ _ _ => trivial) h).2.1
            simp only [List.length_cons]; omega
          · cases h
    · cases h
def loopy : Md → Nat
  | .condL _ => 0
  | .allL _ => 0
  | _ => 1
theorem pr_le {m : Md} {d : Nat} {ts : List Tok} {o : Option (Tr × List Tok)} (h : PR nm rt m d ts o) : ∀ T r, o = some (T, r) → r.length + loopy m ≤ ts.length := by
  induction h with
  | cond_no _ _ => intro _ _ e; cases e
  | cond_go _ _ ih1 ih2 => intro T r e; have := ih1 _ _ rfl; have := ih2 _ _ e; simp only [loopy] at *; omega
  | condL_end h => intro T r e; cases e; simp [loopy]
  | condL_no _ _ _ => intro _ _ e; cases e
  | condL_go _ _ _ ih1 ih2 => intro T r e; have := ih1 _ _ rfl; have := ih2 _ _ e; simp only [loopy, List.length_cons] at *; omega
  | all_no _ _ => intro _ _ e; cases e
  | all_go _ _ ih1 ih2 => intro T r e; have := ih1 _ _ rfl; have := ih2 _ _ e; simp only [loopy] at *; omega
  | allL_end h => intro T r e; cases e; simp [loopy]
  | allL_no _ _ _ => intro _ _ e; cases e
  | allL_go _ _ _ ih1 ih2 => intro T r e; have := ih1 _ _ rfl; have := ih2 _ _ e; simp only [loopy, List.length_cons] at *; omega
  | one_deep _ => intro _ _ e; cases e
  | one_not_no _ _ _ _ => intro _ _ e; cases e
  | one_not _ _ _ ih => intro T r e; cases e; have := ih _ _ rfl; simp only [loopy, List.length_cons] at *; omega
  | one_par_no _ _ _ _ _ => intro _ _ e; cases e
  | one_par_bad _ _ _ _ _ _ => intro _ _ e; cases e
  | one_par _ _ _ _ _ ih => intro T r e; cases e; have := ih _ _ rfl; simp only [loopy, List.length_cons] at *; omega
  | one_leaf _ _ _ => intro T r e; have := leaf_le e; simp only [loopy]; omega
/-- Reading comes to something. -/
theorem pr_total (nm rt : List UInt8 → Bool) (n : Nat) : ∀ ts : List Tok, ts.length ≤ n → (∀ d, ∃ o, PR nm rt .one d ts o) ∧ (∀ d c, ∃ o, PR nm rt (.allL c) d ts o) ∧ (∀ d, ∃ o, PR nm rt .all d ts o) ∧ (∀ d c, ∃ o, PR nm rt (.condL c) d ts o) ∧ (∀ d, ∃ o, PR nm rt .cond d ts o) := by
  induction n with
  | zero =>
    intro ts hl
    have : ts = [] := List.length_eq_zero_iff.mp (by omega)
    subst this
    have h1 : ∀ d, PR nm rt .one d [] none := fun d => by
      by_cases h : 6 < d
      · exact .one_deep h
      · exact .one_leaf (by omega) rfl rfl
    exact ⟨fun d => ⟨_, h1 d⟩, fun d c => ⟨_, .allL_end rfl⟩, fun d => ⟨_, .all_no (h1 d)⟩, fun d c => ⟨_, .condL_end rfl⟩, fun d => ⟨_, .cond_no (.all_no (h1 d))⟩⟩
  | succ n ih =>
    intro ts hl
    have I : ∀ r : List Tok, r.length < ts.length → _ := fun r hr => ih r (by omega)
    have h1 : ∀ d, ∃ o, PR nm rt .one d ts o := fun d => by
      by_cases h : 6 < d
      · exact ⟨_, .one_deep h⟩
      have h6 : d ≤ 6 := by omega
      cases ts with
      | nil => exact ⟨_, .one_leaf h6 rfl rfl⟩
      | cons t r =>
        cases hn : isT 1 wNot t with
        | true =>
          obtain ⟨o, ho⟩ := (I r (by simp)).1 (d + 1)
          cases o with
          | none => exact ⟨_, .one_not_no h6 hn ho⟩
          | some p => exact ⟨_, .one_not h6 hn ho⟩
        | false =>
          cases hp : isT 4 [40] t with
          | false => exact ⟨_, .one_leaf h6 hn hp⟩
          | true =>
            obtain ⟨o, ho⟩ := (I r (by simp)).2.2.2.2 (d + 1)
            cases o with
            | none => exact ⟨_, .one_par_no h6 hn hp ho⟩
            | some p =>
              obtain ⟨x, r2⟩ := p
              cases r2 with
              | nil => exact ⟨_, .one_par_bad h6 hn hp ho rfl⟩
              | cons u r2 =>
                cases hc : isT 4 [41] u with
                | true => exact ⟨_, .one_par h6 hn hp ho hc⟩
                | false => exact ⟨_, .one_par_bad h6 hn hp ho hc⟩
    have h2 : ∀ d c, ∃ o, PR nm rt (.allL c) d ts o := fun d c => by
      cases ts with
      | nil => exact ⟨_, .allL_end rfl⟩
      | cons t r =>
        cases ha : isT 1 wAnd t with
        | false => exact ⟨_, .allL_end ha⟩
        | true =>
          obtain ⟨o, ho⟩ := (I r (by simp)).1 d
          cases o with
          | none => exact ⟨_, .allL_no ha ho⟩
          | some p =>
            obtain ⟨x, r2⟩ := p
            have := pr_le ho _ _ rfl
            obtain ⟨o, h⟩ := (I r2 (by simp only [loopy, List.length_cons] at *; omega)).2.1 d (.bi false c x)
            exact ⟨_, .allL_go ha ho h⟩
    have h3 : ∀ d, ∃ o, PR nm rt .all d ts o := fun d => by
      obtain ⟨o, ho⟩ := h1 d
      cases o with
      | none => exact ⟨_, .all_no ho⟩
      | some p =>
        obtain ⟨x, r2⟩ := p
        have := pr_le ho _ _ rfl
        obtain ⟨o, h⟩ := (I r2 (by simp only [loopy] at *; omega)).2.1 d x
        exact ⟨_, .all_go ho h⟩
    have h4 : ∀ d c, ∃ o, PR nm rt (.condL c) d ts o := fun d c => by
      cases ts with
      | nil => exact ⟨_, .condL_end rfl⟩
      | cons t r =>
        cases ha : isT 1 wOr t with
        | false => exact ⟨_, .condL_end ha⟩
        | true =>
          obtain ⟨o, ho⟩ := (I r (by simp)).2.2.1 d
          cases o with
          | none => exact ⟨_, .condL_no ha ho⟩
          | some p =>
            obtain ⟨x, r2⟩ := p
            have := pr_le ho _ _ rfl
            obtain ⟨o, h⟩ := (I r2 (by simp only [loopy, List.length_cons] at *; omega)).2.2.2.1 d (.bi true c x)
            exact ⟨_, .condL_go ha ho h⟩
    refine ⟨h1, h2, h3, h4, fun d => ?_⟩
    obtain ⟨o, ho⟩ := h3 d
    cases o with
    | none => exact ⟨_, .cond_no ho⟩
    | some p =>
      obtain ⟨x, r2⟩ := p
      have := pr_le ho _ _ rfl
      obtain ⟨o, h⟩ := (I r2 (by simp only [loopy] at *; omega)).2.2.2.1 d x
      exact ⟨_, .cond_go ho h⟩
/-- The whole of it: what is read of all tokens is read again of what it is written as, which has no more tokens. -/
theorem again (hN : NN nm) (hK : ∀ l n, numT l = some n → okn n) (hD : ∀ n, okn n → numT (dc n) = some n) {ts : List Tok} {T : Tr} (hct : CT ts) (h : PR nm rt .cond 0 ts (some (T, []))) : VT nm rt okn T ∧ (wt dc T).length ≤ ts.length ∧ PR nm rt .cond 0 (wt dc T) (some (T, [])) := by
  obtain ⟨_, v, l, d⟩ := pr_cost dc hK h hct _ _ rfl
  refine ⟨v, by simpa using l, ?_⟩
  have := (back (dc := dc) (rt := rt) hN hD T v).2.2 0 [] _ d rfl (.condL_end rfl)
  simpa using this
end
end Go.Proofs.YtlnkbhbpkmnkaaaGreatDoor.Ask
