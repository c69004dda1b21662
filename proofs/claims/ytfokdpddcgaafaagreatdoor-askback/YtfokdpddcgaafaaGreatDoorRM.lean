/- How a text is cut, and numbers read: plain mathematics. -/
import Derived.Lib.ItoaLen
import Derived.Lib.Bytealg
import Derived.Lib.Join
import Derived.Lib.AtoiAllCases
import Derived.Lib.ParseIntBTie
import Derived.Shelf.GgClosure.StringsIndexFunc
namespace Go.Proofs.YtfokdpddcgaafaaGreatDoor
open Go.Lib

def I64 (n : Int) : Prop := -9223372036854775808 ≤ n ∧ n ≤ 9223372036854775807
/-- What is ahead of the first c, what is behind it, and whether there is one. -/
def cutL (c : UInt8) : List UInt8 → List UInt8 × List UInt8 × Bool
  | [] => ([], [], false)
  | b :: l => if b = c then ([], l, true) else (b :: (cutL c l).1, (cutL c l).2.1, (cutL c l).2.2)
theorem cutL_hit {c : UInt8} : ∀ {x y : List UInt8}, c ∉ x → cutL c (x ++ c :: y) = (x, y, true)
  | [], y, _ => by simp [cutL]
  | b :: x, y, h => by
    have hb : b ≠ c := fun e => h (by simp [e])
    have ih := cutL_hit (c := c) (x := x) (y := y) (fun e => h (by simp [e]))
    rw [List.cons_append, cutL, if_neg hb, ih]
theorem cutL_miss {c : UInt8} : ∀ {x : List UInt8}, c ∉ x → cutL c x = (x, [], false)
  | [], _ => rfl
  | b :: x, h => by
    have hb : b ≠ c := fun e => h (by simp [e])
    have ih := cutL_miss (c := c) (x := x) (fun e => h (by simp [e]))
    rw [cutL, if_neg hb, ih]
theorem cutL_le (c : UInt8) : ∀ s : List UInt8, (cutL c s).2.1.length + (cutL c s).1.length ≤ s.length
  | [] => by simp [cutL]
  | b :: l => by
    have ih := cutL_le c l
    unfold cutL
    split
    · simp
    · simp only [List.length_cons]; omega
theorem cutL_lt (c : UInt8) : ∀ {s : List UInt8}, s ≠ [] → (cutL c s).2.1.length < s.length
  | [], h => absurd rfl h
  | b :: l, _ => by
    have ih := cutL_le c l
    unfold cutL
    split
    · simp
    · simp only [List.length_cons]; omega
theorem cutL_found (c : UInt8) : ∀ s : List UInt8, ((cutL c s).2.2 = true ∧ s = (cutL c s).1 ++ c :: (cutL c s).2.1 ∧ c ∉ (cutL c s).1) ∨ (cutL c s = (s, [], false) ∧ c ∉ s)
  | [] => .inr ⟨rfl, by simp⟩
  | b :: l => by
    unfold cutL
    split
    · rename_i h
      subst h
      exact .inl ⟨rfl, rfl, by simp⟩
    · rename_i h
      rcases cutL_found c l with ⟨h1, h2, h3⟩ | ⟨h1, h2⟩
      · refine .inl ⟨h1, by rw [List.cons_append, ← h2], ?_⟩
        simp only [List.mem_cons, not_or]
        exact ⟨fun e => h e.symm, h3⟩
      · rw [h1]
        refine .inr ⟨rfl, ?_⟩
        simp only [List.mem_cons, not_or]
        exact ⟨fun e => h e.symm, h2⟩
theorem cut_index_no {c : UInt8} {s : List UInt8} (h : indexByte s c = -1) : cutL c s = (s, [], false) := by
  induction s with
  | nil => rfl
  | cons b l ih =>
    unfold indexByte at h
    split at h
    · cases h
    · rename_i hb
      have hb' : b ≠ c := by simpa using hb
      have hl : indexByte l c = -1 := by
        split at h
        · rename_i e; simpa using e
        · have := indexByte_ge l c; rename_i e; simp at e; omega
      rw [cutL, if_neg hb', ih hl]
theorem cut_index_yes {c : UInt8} : ∀ {s : List UInt8} {i : Nat}, indexByte s c = i → cutL c s = (s.take i, s.drop (i + 1), true) ∧ i < s.length
  | [], i, h => by unfold indexByte at h; omega
  | b :: l, i, h => by
    unfold indexByte at h
    split at h
    · rename_i hb
      have hb' : b = c := by simpa using hb
      have : i = 0 := by omega
      subst this
      rw [cutL, if_pos hb']
      simp
    · rename_i hb
      have hb' : b ≠ c := by simpa using hb
      split at h
      · omega
      · rename_i e
        obtain ⟨j, rfl⟩ : ∃ j, i = j + 1 := ⟨i - 1, by have := indexByte_ge l c; simp at e; omega⟩
        obtain ⟨h1, h2⟩ := cut_index_yes (c := c) (s := l) (i := j) (by omega)
        rw [cutL, if_neg hb', h1]
        simp
        omega
theorem index_cases (s : List UInt8) (c : UInt8) : indexByte s c = -1 ∨ ∃ i : Nat, indexByte s c = i := by
  have := indexByte_ge s c
  by_cases h : indexByte s c = -1
  · exact .inl h
  · exact .inr ⟨(indexByte s c).toNat, by omega⟩

/-- The lines of a text, without what ends them. -/
def linesT (s : List UInt8) : List (List UInt8) := if _h : s = [] then [] else (cutL 10 s).1 :: linesT (cutL 10 s).2.1
termination_by s.length
decreasing_by exact cutL_lt 10 _h
theorem linesT_nil : linesT [] = [] := by rw [linesT, dif_pos rfl]
theorem linesT_cons {s : List UInt8} (h : s ≠ []) : linesT s = (cutL 10 s).1 :: linesT (cutL 10 s).2.1 := by rw [linesT, dif_neg h]
theorem linesT_lines : ∀ {l : List (List UInt8)}, (∀ x ∈ l, (10 : UInt8) ∉ x) → linesT (l.flatMap (fun x => x ++ [10])) = l
  | [], _ => linesT_nil
  | x :: l, h => by
    have e : (x :: l).flatMap (fun x => x ++ [(10 : UInt8)]) = x ++ 10 :: l.flatMap (fun x => x ++ [10]) := by simp
    rw [e, linesT_cons (by simp), cutL_hit (h x (by simp))]
    simp only
    rw [linesT_lines (fun y hy => h y (by simp [hy]))]
theorem linesT_len : ∀ (n : Nat) (s : List UInt8), s.length ≤ n → (linesT s).length ≤ s.length
  | 0, s, h => by
    have : s = [] := List.length_eq_zero_iff.1 (by omega)
    subst this; rw [linesT_nil]; simp
  | n + 1, s, h => by
    by_cases e : s = []
    · subst e; rw [linesT_nil]; simp
    · have h1 := cutL_lt 10 e
      have h2 := linesT_len n (cutL 10 s).2.1 (by omega)
      rw [linesT_cons e]
      simp only [List.length_cons]; omega

/-- The parts of a text between commas. -/
def splitT (c : UInt8) (s : List UInt8) : List (List UInt8) := if _h : (cutL c s).2.2 = true then (cutL c s).1 :: splitT c (cutL c s).2.1 else [s]
termination_by s.length
decreasing_by
  refine cutL_lt c (fun e => ?_)
  subst e
  simp [cutL] at _h
theorem splitT_miss {c : UInt8} {s : List UInt8} (h : c ∉ s) : splitT c s = [s] := by
  rw [splitT, dif_neg (by rw [cutL_miss h]; simp)]
theorem splitT_hit {c : UInt8} {x y : List UInt8} (h : c ∉ x) : splitT c (x ++ c :: y) = x :: splitT c y := by
  rw [splitT, dif_pos (by rw [cutL_hit h]), cutL_hit h]
theorem splitT_join {c : UInt8} : ∀ {l : List (List UInt8)}, l ≠ [] → (∀ x ∈ l, c ∉ x) → splitT c (Lib.join l [c]) = l
  | [], h, _ => absurd rfl h
  | [x], _, h => by
    have e : Lib.join [x] [c] = x := by simp [Lib.join]
    rw [e, splitT_miss (h x (by simp))]
  | x :: y :: l, _, h => by
    have e : Lib.join (x :: y :: l) [c] = x ++ c :: Lib.join (y :: l) [c] := by simp [Lib.join]
    rw [e, splitT_hit (h x (by simp)), splitT_join (by simp) (fun z hz => h z (by simp [hz]))]

/-! Numbers. -/
theorem dec_digit {u : Nat} : ∀ b ∈ decDigits u, 48 ≤ b.toNat ∧ b.toNat ≤ 57 := by
  induction u using Nat.strongRecOn with
  | _ u ih =>
    rw [decDigits]
    split
    · rename_i h
      intro b hb
      simp only [List.mem_singleton] at hb
      subst hb
      rw [UInt8.toNat_ofNat']
      omega
    · rename_i h
      intro b hb
      rcases List.mem_append.1 hb with hb | hb
      · exact ih (u / 10) (by omega) b hb
      · simp only [List.mem_singleton] at hb
        subst hb
        rw [UInt8.toNat_ofNat']
        omega
theorem dec_ne (u : Nat) : decDigits u ≠ [] := by
  rw [decDigits]
  split <;> simp
theorem parse_app : ∀ {x y : List UInt8} {a u : Nat}, parseUint10 a x = .ok u → parseUint10 a (x ++ y) = parseUint10 u y
  | [], y, a, u, h => by
    simp only [parseUint10] at h
    injection h with h
    subst h
    rfl
  | c :: x, y, a, u, h => by
    simp only [parseUint10] at h
    rw [List.cons_append, parseUint10]
    split at h
    · rename_i h1
      rw [if_pos h1]
      split at h
      · cases h
      · rename_i h2
        rw [if_neg h2]
        split at h
        · cases h
        · rename_i h3
          rw [if_neg h3]
          exact parse_app h
    · cases h
theorem parse_dec (u : Nat) (h : u < 18446744073709551616) : parseUint10 0 (decDigits u) = .ok u := by
  induction u using Nat.strongRecOn with
  | _ u ih =>
    rw [decDigits]
    split
    · rename_i h1
      have e : (UInt8.ofNat (48 + u)).toNat = 48 + u := by rw [UInt8.toNat_ofNat']; omega
      simp only [parseUint10, e]
      rw [if_pos (by omega), if_neg (by omega), if_neg (by omega)]
      congr 1
      omega
    · rename_i h1
      rw [parse_app (ih (u / 10) (by omega) (by omega))]
      have e : (UInt8.ofNat (48 + u % 10)).toNat = 48 + u % 10 := by rw [UInt8.toNat_ofNat']; omega
      simp only [parseUint10, e]
      rw [if_pos (by omega), if_neg (by omega), if_neg (by omega)]
      congr 1
      omega
theorem mag_dec (u : Nat) (h : u < 18446744073709551616) : parseMag (decDigits u) = .ok u := by
  unfold parseMag
  rw [if_neg (dec_ne u), parse_dec u h]
theorem atoi_itoa {n : Int} (h0 : -9223372036854775808 ≤ n) (h1 : n ≤ 9223372036854775807) : atoiAll (itoa n) = .ok n := by
  unfold itoa
  split
  · rename_i h
    rw [atoiAll_minus, mag_dec _ (by omega)]
    simp only [signed]
    rw [if_neg (by omega)]
    congr 1
    omega
  · rename_i h
    obtain ⟨c, r, e⟩ : ∃ c r, decDigits n.toNat = c :: r := by
      cases hd : decDigits n.toNat with
      | nil => exact absurd hd (dec_ne _)
      | cons c r => exact ⟨c, r, rfl⟩
    have hc := dec_digit (u := n.toNat) c (by rw [e]; simp)
    have hm := mag_dec n.toNat (by omega)
    rw [e] at hm ⊢
    rw [atoiAll_plain c r (by omega) (by omega), hm]
    simp only [signless]
    rw [if_neg (by omega)]
    congr 1
    omega
theorem itoa_sign {n : Int} : ∀ b ∈ itoa n, b.toNat = 45 ∨ (48 ≤ b.toNat ∧ b.toNat ≤ 57) := by
  intro b hb
  unfold itoa at hb
  split at hb
  · simp only [List.mem_cons] at hb
    rcases hb with rfl | hb
    · exact .inl rfl
    · exact .inr (dec_digit b hb)
  · exact .inr (dec_digit b hb)
theorem itoa_ne (n : Int) : itoa n ≠ [] := by
  unfold itoa
  split
  · simp
  · exact dec_ne _
theorem atoi_nil : atoiAll [] = .syntax := rfl

/-! Runes that are letters. -/
theorem decode_small {s : ByteArray} {i : Nat} (h : (Utf8.decode s i).1 < 128) : (s.get! i).toNat = (Utf8.decode s i).1 ∧ (Utf8.decode s i).2 = 1 := by
  rw [decode_at] at h ⊢
  unfold decodeN at h ⊢
  repeat' split at h
  all_goals simp_all
  all_goals omega
theorem idx_all {p : Nat → Bool} {s : ByteArray} (hp : ∀ r, 126 < r → p r = true) : ∀ (f i : Nat), ¬ 0 ≤ idxFuncFrom p true s f i → s.size ≤ f + i → ∀ j, i ≤ j → j < s.size → p (s.get! j).toNat = false ∧ (s.get! j).toNat ≤ 126
  | 0, i, _, hf, j, h1, h2 => by omega
  | f + 1, i, h, hf, j, h1, h2 => by
    unfold idxFuncFrom at h
    rw [if_pos (by omega)] at h
    by_cases hq : p (Utf8.decode s i).1 = true
    · rw [if_pos hq] at h; omega
    · rw [if_neg hq] at h
      have hq' : p (Utf8.decode s i).1 = false := by simpa using hq
      have hs : (Utf8.decode s i).1 ≤ 126 := by
        by_cases hc : 126 < (Utf8.decode s i).1
        · rw [hp _ hc] at hq'; cases hq'
        · omega
      obtain ⟨e1, e2⟩ := decode_small (s := s) (i := i) (by omega)
      rw [e2] at h
      by_cases hj : j = i
      · subst hj
        rw [e1]
        exact ⟨hq', hs⟩
      · exact idx_all hp f (i + 1) h (by omega) j (by omega) h2
theorem mem_get {s : ByteArray} {b : UInt8} (h : b ∈ s.data.toList) : ∃ j, j < s.size ∧ s.get! j = b := by
  obtain ⟨j, hj, e⟩ := List.getElem_of_mem h
  have hj' : j < s.size := by rw [Array.length_toList] at hj; exact hj
  refine ⟨j, hj', ?_⟩
  have hj2 : j < s.data.size := hj'
  show s.data[j]! = b
  rw [getElem!_pos s.data j hj2, ← e, Array.getElem_toList]
theorem idx_mem {p : Nat → Bool} {s : ByteArray} (hp : ∀ r, 126 < r → p r = true) (h : ¬ 0 ≤ idxFunc p true s) : ∀ b ∈ s.data.toList, p b.toNat = false ∧ b.toNat ≤ 126 := by
  intro b hb
  obtain ⟨j, hj, e⟩ := mem_get hb
  have := idx_all hp s.size 0 h (by omega) j (Nat.zero_le _) hj
  rwa [e] at this
end Go.Proofs.YtfokdpddcgaafaaGreatDoor
