/- Bounds of a commit that is read out of a text of 1000000 bytes at most. -/
import Derived.Test.YtfppidnfomelpaaGreatDoorRN
import Derived.Test.YtfppidnfomelpaaGreatDoorRR
namespace Go.Proofs.YtfppidnfomelpaaGreatDoor
open Go.Lib

theorem name_size {s : ByteArray} (h : nameB s = true) : s.size ≤ 16 := by
  simp only [nameB, Bool.and_eq_true, decide_eq_true_eq] at h
  exact h.2.1
theorem empty_size {t : ByteArray} (h : t.toList.isEmpty = true) : t.size ≤ 0 := by
  rw [List.isEmpty_iff, ByteArray.toList_eq] at h
  show t.data.size ≤ 0
  rw [← Array.length_toList, h]
  exact Nat.le_refl _
theorem val_size {k n : Int} {t : ByteArray} (h : rightV k n t = true) : t.size ≤ 40 := by
  unfold rightV at h
  split at h
  · simp only [Bool.and_eq_true] at h; have := empty_size h.2; omega
  · split at h
    · have := empty_size h; omega
    · split at h
      · simp only [Bool.and_eq_true, rtB, decide_eq_true_eq] at h; exact h.2.1
      · cases h
theorem may_ok {c : Col} (h : mayB c = true) (hi : ColI c) : ColOk c := by
  simp only [mayB, colB, fitB, Bool.and_eq_true] at h
  have h1 := name_size h.2.2.1.2
  have h2 := val_size h.2.2.2.1
  exact ⟨hi.1, by omega, hi.2.1, hi.2.2, by omega⟩
theorem lineOk_of {a : Actn} (h : rightA a = true) (hi : Ints a) : LineOk a := by
  unfold rightA at h
  split at h
  · simp only [Bool.and_eq_true, rfB] at h
    obtain ⟨_, _, h3, h4, _⟩ := bare_parts h.2
    have := name_size h.1.1
    exact ⟨by omega, hi.rows, hi.mask, by omega, (fun x hx => by rw [List.length_eq_zero_iff.1 h4] at hx; cases hx), by omega, hi.next⟩
  · split at h
    · simp only [Bool.and_eq_true] at h
      obtain ⟨_, _, h3, h4, _⟩ := bare_parts h.2
      have := name_size h.1
      exact ⟨by omega, hi.rows, hi.mask, by omega, (fun x hx => by rw [List.length_eq_zero_iff.1 h4] at hx; cases hx), by omega, hi.next⟩
    · split at h
      · simp only [Bool.and_eq_true, risingB] at h
        obtain ⟨_, _, _, h4, _⟩ := bare_parts h.2
        have := name_size h.1.1
        have := rises_le 60 h.1.2.2
        exact ⟨by omega, hi.rows, hi.mask, by omega, (fun x hx => by rw [List.length_eq_zero_iff.1 h4] at hx; cases hx), by omega, hi.next⟩
      · split at h
        · simp only [Bool.and_eq_true] at h
          obtain ⟨h1, _, h3, _, _⟩ := bare_parts h.2
          have hr := (rightB_iff _ _).1 h.1
          refine ⟨by rw [h1]; simp [bA, ByteArray.size], hi.rows, hi.mask, by omega, fun x hx => may_ok ((mayB_iff x).2 (hr.2.2.1 x hx).1) (hi.cols x hx), by have := hr.2.1; omega, hi.next⟩
        · cases h
theorem i64_0 : I64 0 := ⟨by decide, by decide⟩
theorem readVal_ok {s : List UInt8} {v : Val3} {b : List UInt8} (h : readVal s = some (v, b)) : I64 v.2.1 ∧ v.2.2.size ≤ s.length := by
  unfold readVal at h
  split at h
  · split at h
    · cases h
      refine ⟨i64_0, ?_⟩
      have h2 := cutL_le 39 (s.drop 1)
      rw [List.length_drop] at h2
      show (bA _).size ≤ _
      rw [bA_size]
      omega
    · cases h
  · split at h
    · cases h; exact ⟨i64_0, by show (bA []).size ≤ _; rw [bA_size]; exact Nat.zero_le _⟩
    · cases hn : numOf (cutL 59 s).1 with
      | none => rw [hn] at h; cases h
      | some n => rw [hn] at h; cases h; exact ⟨numOf_bounds hn, by show (bA []).size ≤ _; rw [bA_size]; exact Nat.zero_le _⟩
theorem readCol_ok {s : List UInt8} {c : Col} {b : List UInt8} (h : readCol s = some (c, b)) : ColI c ∧ c.2.1.size ≤ s.length ∧ c.2.2.2.2.2.2.size ≤ s.length := by
  obtain ⟨i, k, v, h1, h2, h3, rfl⟩ := readCol_some h
  have q := readVal_ok h3
  have r1 := rest1_le s
  have r2 := rest1_le (rest1 s)
  have r3 := rest1_le (rest1 (rest1 s))
  have r4 := rest1_le (rest1 (rest1 (rest1 s)))
  have r5 := cutL_le 32 (rest1 s)
  refine ⟨⟨numOf_bounds h1, numOf_bounds h2, q.1⟩, ?_, ?_⟩
  · show (bA _).size ≤ _
    rw [bA_size]
    omega
  · have := q.2
    show v.2.2.size ≤ _
    omega
theorem readCols_ok : ∀ (n : Nat) {s : List UInt8} {l : List Col}, s.length ≤ n → readCols s = some l → ∀ x ∈ l, ColI x ∧ x.2.1.size ≤ n ∧ x.2.2.2.2.2.2.size ≤ n
  | 0, s, l, hn, h => by
    have : s = [] := List.length_eq_zero_iff.1 (by omega)
    subst this
    rw [readCols_nil] at h
    cases h
    intro x hx
    cases hx
  | n + 1, s, l, hn, h => by
    by_cases e : s = []
    · subst e
      rw [readCols_nil] at h
      cases h
      intro x hx
      cases hx
    · cases hc : readCol s with
      | none => rw [readCols_none e hc] at h; cases h
      | some p =>
        obtain ⟨c, b⟩ := p
        rw [readCols_cons e hc] at h
        have hlt := readCol_lt hc
        cases hb : readCols b with
        | none => rw [hb] at h; cases h
        | some m =>
          rw [hb] at h
          cases h
          intro x hx
          rcases List.mem_cons.1 hx with rfl | hx
          · have := readCol_ok hc
            exact ⟨this.1, by omega, by omega⟩
          · have := readCols_ok n (by omega) hb x hx
            exact ⟨this.1, by omega, by omega⟩
theorem allNum_ok : ∀ {l : List (List UInt8)} {m : List Int}, allNum l = some m → m.length = l.length ∧ ∀ x ∈ m, I64 x
  | [], m, h => by simp only [allNum] at h; cases h; exact ⟨rfl, fun x hx => by cases hx⟩
  | y :: l, m, h => by
    simp only [allNum] at h
    cases hy : numOf y with
    | none => rw [hy] at h; cases h
    | some n =>
      rw [hy] at h
      simp only [Option.bind_some] at h
      cases hr : allNum l with
      | none => rw [hr] at h; cases h
      | some k =>
        rw [hr] at h
        cases h
        have := allNum_ok hr
        refine ⟨by simp [this.1], fun x hx => ?_⟩
        rcases List.mem_cons.1 hx with rfl | hx
        · exact numOf_bounds hy
        · exact this.2 x hx
theorem readAct_ints {a : List UInt8} {x : Actn} (h : readAct a = some x) : Ints x := by
  unfold readAct at h
  split at h
  · cases hn : numOf (cutL 32 (rest1 a)).2.1 with
    | none => rw [hn] at h; cases h
    | some n => rw [hn] at h; cases h; exact ⟨numOf_bounds hn, (fun _ q => by cases q), (fun _ q => by cases q), i64_0⟩
  · split at h
    · cases h; exact ⟨i64_0, (fun _ q => by cases q), (fun _ q => by cases q), i64_0⟩
    · split at h
      · cases hn : readPls (cutL 32 (rest1 a)).2.1 with
        | none => rw [hn] at h; cases h
        | some n => rw [hn] at h; cases h; exact ⟨i64_0, (allNum_ok hn).2, (fun _ q => by cases q), i64_0⟩
      · split at h
        · cases hn : numOf (cutL 32 (rest1 a)).1 with
          | none => rw [hn] at h; cases h
          | some n =>
            rw [hn] at h
            simp only [Option.bind_some] at h
            cases hc : readCols (cutL 32 (rest1 a)).2.1 with
            | none => rw [hc] at h; cases h
            | some l => rw [hc] at h; cases h; exact ⟨i64_0, (fun _ q => by cases q), (fun y hy => (readCols_ok _ (Nat.le_refl _) hc y hy).1), numOf_bounds hn⟩
        · cases h
end Go.Proofs.YtfppidnfomelpaaGreatDoor

namespace Go.Proofs.YtfppidnfomelpaaGreatDoor
open Go.Lib

theorem cutL_two (c : UInt8) : ∀ s : List UInt8, ((cutL c s).2.2 = true ∧ (cutL c s).1.length + 1 + (cutL c s).2.1.length = s.length) ∨ ((cutL c s).2.2 = false ∧ (cutL c s).2.1 = [])
  | [] => .inr ⟨rfl, rfl⟩
  | b :: l => by
    have ih := cutL_two c l
    unfold cutL
    split
    · left; exact ⟨rfl, by simp; omega⟩
    · rcases ih with ⟨h1, h2⟩ | ⟨h1, h2⟩
      · left; exact ⟨h1, by simp only [List.length_cons]; omega⟩
      · right; exact ⟨h1, h2⟩
theorem readAct_nil : readAct [] = none := by decide
theorem lines_two : ∀ (n : Nat) {t : List UInt8} {A : List Actn}, t.length ≤ n → allActs (linesT t) = some A → 2 * A.length ≤ t.length + 1 ∧ ∀ a ∈ A, ∃ x : List UInt8, x.length ≤ t.length ∧ readAct x = some a
  | 0, t, A, hn, h => by
    have : t = [] := List.length_eq_zero_iff.1 (by omega)
    subst this
    rw [linesT_nil] at h
    simp only [allActs] at h
    cases h
    exact ⟨by simp, fun a ha => by cases ha⟩
  | n + 1, t, A, hn, h => by
    by_cases e : t = []
    · subst e
      rw [linesT_nil] at h
      simp only [allActs] at h
      cases h
      exact ⟨by simp, fun a ha => by cases ha⟩
    · rw [linesT_cons e] at h
      simp only [allActs] at h
      have hlt := cutL_lt 10 e
      have hle := cutL_le 10 t
      cases hy : readAct (cutL 10 t).1 with
      | none => rw [hy] at h; cases h
      | some y =>
        rw [hy] at h
        simp only [Option.bind_some] at h
        cases hr : allActs (linesT (cutL 10 t).2.1) with
        | none => rw [hr] at h; cases h
        | some M =>
          rw [hr] at h
          cases h
          have ih := lines_two n (by omega) hr
          have hne : (cutL 10 t).1 ≠ [] := fun e0 => by rw [e0, readAct_nil] at hy; cases hy
          have hpos : 0 < (cutL 10 t).1.length := List.length_pos_iff.2 hne
          refine ⟨?_, fun a ha => ?_⟩
          · have := ih.1
            simp only [List.length_cons]
            rcases cutL_two 10 t with ⟨_, h2⟩ | ⟨_, h2⟩
            · omega
            · rw [h2] at this
              simp only [List.length_nil] at this
              have : 0 < t.length := List.length_pos_iff.2 e
              omega
          · rcases List.mem_cons.1 ha with rfl | ha
            · exact ⟨_, by omega, hy⟩
            · obtain ⟨x, hx, hxa⟩ := ih.2 a ha
              exact ⟨x, by omega, hxa⟩
theorem pls_two : ∀ (n : Nat) {s : List UInt8} {m : List Int}, s.length ≤ n → allNum (splitT 44 s) = some m → 2 * m.length ≤ s.length + 1
  | n, s, m, hn, h => by
    rw [splitT] at h
    rcases cutL_two 44 s with ⟨h1, h2⟩ | ⟨h1, h2⟩
    · rw [dif_pos h1] at h
      simp only [allNum] at h
      cases hy : numOf (cutL 44 s).1 with
      | none => rw [hy] at h; cases h
      | some y =>
        rw [hy] at h
        simp only [Option.bind_some] at h
        have hpos : 0 < (cutL 44 s).1.length := List.length_pos_iff.2 (numOf_ne hy)
        cases hr : allNum (splitT 44 (cutL 44 s).2.1) with
        | none => rw [hr] at h; cases h
        | some k =>
          rw [hr] at h
          cases h
          cases n with
          | zero => omega
          | succ n =>
            have := pls_two n (by omega) hr
            simp only [List.length_cons]
            omega
    · rw [dif_neg (by rw [h1]; simp)] at h
      simp only [allNum] at h
      cases hy : numOf s with
      | none => rw [hy] at h; cases h
      | some y =>
        rw [hy] at h
        cases h
        have hpos : 0 < s.length := List.length_pos_iff.2 (numOf_ne hy)
        simp only [List.length_cons, List.length_nil]
        omega
theorem fine_small {p : ByteArray} {k r nx : Int} {M : List Int} {C : List Col} (hp : p.size ≤ 1000000) (hm : M.length ≤ 600000) (hc : ∀ x ∈ C, x.2.1.size ≤ 1000000 ∧ x.2.2.2.2.2.2.size ≤ 1000000) : Fine (k, p, r, M, C, nx) :=
  ⟨by show p.size ≤ _; unfold maxLen; omega, hm, fun x hx => ⟨by have := (hc x hx).1; unfold maxLen; omega, by have := (hc x hx).2; unfold maxLen; omega⟩⟩
theorem readAct_fine {a : List UInt8} {x : Actn} (hl : a.length ≤ 1000000) (h : readAct a = some x) : Fine x := by
  have r1 := rest1_le a
  have r2 := cutL_le 32 (rest1 a)
  have hb : (bA (cutL 32 (rest1 a)).1).size ≤ 1000000 := by rw [bA_size]; omega
  unfold readAct at h
  split at h
  · cases hn : numOf (cutL 32 (rest1 a)).2.1 with
    | none => rw [hn] at h; cases h
    | some n => rw [hn] at h; cases h; exact fine_small hb (Nat.zero_le _) (fun _ q => by cases q)
  · split at h
    · cases h; exact fine_small hb (Nat.zero_le _) (fun _ q => by cases q)
    · split at h
      · cases hn : readPls (cutL 32 (rest1 a)).2.1 with
        | none => rw [hn] at h; cases h
        | some n =>
          rw [hn] at h
          cases h
          have := pls_two _ (Nat.le_refl _) hn
          exact fine_small hb (by omega) (fun _ q => by cases q)
      · split at h
        · cases hn : numOf (cutL 32 (rest1 a)).1 with
          | none => rw [hn] at h; cases h
          | some n =>
            rw [hn] at h
            simp only [Option.bind_some] at h
            cases hc : readCols (cutL 32 (rest1 a)).2.1 with
            | none => rw [hc] at h; cases h
            | some l =>
              rw [hc] at h
              cases h
              exact fine_small (by rw [bA_size]; exact Nat.zero_le _) (Nat.zero_le _) (fun y hy => (readCols_ok 1000000 (by omega) hc y hy).2)
        · cases h
/-- What Parse needs of what was read (hF of parse_any_log). -/
theorem read_bounds {l : List UInt8} (hl : l.length ≤ 1000000) : ∀ tx rd A, readCom l = some (tx, rd, A) → A.length ≤ 600000 ∧ tx.size ≤ maxLen ∧ ∀ a ∈ A, Fine a ∧ (rightA a = true → LineOk a) := by
  intro tx rd A h
  unfold readCom at h
  have q1 := cutL_le 10 l
  have q2 := rest1_le (cutL 10 l).1
  have q3 := cutL_le 32 (rest1 (cutL 10 l).1)
  cases hr : allActs (linesT (cutL 10 l).2.1) with
  | none => rw [hr] at h; cases h
  | some M =>
    rw [hr] at h
    cases h
    obtain ⟨h1, h2⟩ := lines_two _ (Nat.le_refl _) hr
    refine ⟨by omega, by rw [bA_size]; unfold maxLen; omega, fun a ha => ?_⟩
    obtain ⟨x, hx, hxa⟩ := h2 a ha
    exact ⟨readAct_fine (by omega) hxa, fun hra => lineOk_of hra (readAct_ints hxa)⟩
end Go.Proofs.YtfppidnfomelpaaGreatDoor
