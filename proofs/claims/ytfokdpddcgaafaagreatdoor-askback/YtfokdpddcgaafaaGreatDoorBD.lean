/- What a text is, as a condition, is one thing alone; what is written of what was read is read as it was; and one text that is read. -/
import Derived.Test.YtfokdpddcgaafaaGreatDoorBC
namespace Go.Proofs.YtfokdpddcgaafaaGreatDoor
open Go.RowKit Go.Proofs Go.Lib Go.Proofs.YtfokdpddcgaafaaGreatDoor.Ask

theorem reads_one {nm rt : List UInt8 → Bool} {s : List UInt8} {o o' : Option (Option Tr)} (h : Reads nm rt s o) (h' : Reads nm rt s o') : o = o' := by
  cases h with
  | blank t =>
    cases h' with
    | blank _ => rfl
    | bad t' => cases ts_one t _ t'
    | no t' n _ => cases ts_one t _ t'; exact absurd rfl n
    | more t' n _ _ => cases ts_one t _ t'; exact absurd rfl n
    | cond t' n _ => cases ts_one t _ t'; exact absurd rfl n
  | bad t =>
    cases h' with
    | blank t' => cases ts_one t _ t'
    | bad _ => rfl
    | no _ _ _ => rfl
    | more _ _ _ _ => rfl
    | cond t' _ _ => cases ts_one t _ t'
  | no t n p =>
    cases h' with
    | blank t' => cases ts_one t _ t'; exact absurd rfl n
    | bad _ => rfl
    | no _ _ _ => rfl
    | more _ _ _ _ => rfl
    | cond t' _ p' => cases ts_one t _ t'; cases pr_one p _ p'
  | more t n p r =>
    cases h' with
    | blank t' => cases ts_one t _ t'; exact absurd rfl n
    | bad _ => rfl
    | no _ _ _ => rfl
    | more _ _ _ _ => rfl
    | cond t' _ p' => cases ts_one t _ t'; cases pr_one p _ p'; exact absurd rfl r
  | cond t n p =>
    cases h' with
    | blank t' => cases ts_one t _ t'; exact absurd rfl n
    | bad t' => cases ts_one t _ t'
    | no t' _ p' => cases ts_one t _ t'; cases pr_one p _ p'
    | more t' _ p' r => cases ts_one t _ t'; cases pr_one p _ p'; exact absurd rfl r
    | cond t' _ p' => cases ts_one t _ t'; cases pr_one p _ p'; rfl
theorem num_I64 (l : List UInt8) (n : Int) (h : numT l = some n) : I64 n := by
  unfold numT at h
  split at h
  · rename_i v hv
    cases h
    cases l with
    | nil => cases hv
    | cons c r =>
      simp only [atoiAll] at hv
      split at hv
      · cases hv
      · cases hv
      · split at hv
        · cases hv
        · split at hv
          · cases hv
          · cases hv
            unfold I64
            split <;> omega
  · cases h
theorem nn_nm : NN nmL := by
  show nmL wNot = false
  have : mayN (bA wNot) = false := by kernel_rfl
  simp [nmL, this]
theorem badName_hi (r : Nat) (h : 126 < r) : badName r = true := by
  unfold badName smallB digitB
  have h1 : ¬ ((r : Int) ≤ 122) := by omega
  have h2 : ¬ ((r : Int) ≤ 57) := by omega
  have h3 : ¬ ((r : Int) = 95) := by omega
  simp [h1, h2, h3]
theorem badLetter_hi (r : Nat) (h : 126 < r) : badLetter r = true := by
  unfold badLetter
  simp [h]
theorem nm_word (l : List UInt8) (h : nmL l = true) : isWord l := by
  unfold nmL nameB at h
  simp only [Bool.and_eq_true, decide_eq_true_eq, Bool.not_eq_true', decide_eq_false_iff_not] at h
  obtain ⟨_, h0, _, hf, hi⟩ := h
  have hm := idx_mem badName_hi hi
  rw [bA_toList] at hm
  cases l with
  | nil => rw [bA_size] at h0; exact absurd h0 (by simp)
  | cons b r =>
    refine ⟨?_, fun x hx => ?_⟩
    · unfold firstB at hf
      rw [dif_pos h0] at hf
      have e : ((bA (b :: r))[0]'h0) = b := rfl
      rw [e] at hf
      have hb := b.toNat_lt
      have hw : wrap32 (b.toNat : Int) = (b.toNat : Int) := by unfold wrap32; omega
      rw [hw] at hf
      simp only [smallB, Bool.and_eq_true, decide_eq_true_eq] at hf
      simp only [isSm, Bool.and_eq_true, decide_eq_true_eq]
      omega
    · have := (hm x (List.mem_cons_of_mem _ hx)).1
      unfold badName smallB digitB at this
      unfold isWc isSm isDg
      by_cases h1 : 97 ≤ x.toNat ∧ x.toNat ≤ 122
      · simp [h1]
      · by_cases h2 : 48 ≤ x.toNat ∧ x.toNat ≤ 57
        · simp [h2]
        · by_cases h3 : x.toNat = 95
          · simp [h3]
          · have g1 : (decide ((97 : Int) ≤ (x.toNat : Int)) && decide ((x.toNat : Int) ≤ 122)) = false := by
              simp only [Bool.and_eq_false_iff, decide_eq_false_iff_not]; omega
            have g2 : (decide ((48 : Int) ≤ (x.toNat : Int)) && decide ((x.toNat : Int) ≤ 57)) = false := by
              simp only [Bool.and_eq_false_iff, decide_eq_false_iff_not]; omega
            have g3 : ((x.toNat : Int) == 95) = false := by simp; omega
            rw [g1, g2, g3] at this
            simp at this
theorem rt_quote (l : List UInt8) (h : rtL l = true) : (39 : UInt8) ∉ l := by
  unfold rtL rtB at h
  simp only [Bool.and_eq_true, decide_eq_true_eq, Bool.not_eq_true', decide_eq_false_iff_not] at h
  have hm := idx_mem badLetter_hi h.2
  rw [bA_toList] at hm
  intro hq
  have := (hm 39 hq).1
  exact absurd this (by decide)
theorem num_back (n : Int) (h : I64 n) : numT (dcL n) = some n := by
  unfold numT dcL
  rw [atoi_itoa h.1 h.2]
theorem num_is (n : Int) (_h : I64 n) : isNum (dcL n) := by
  have hd : ∀ u : Nat, ∀ b ∈ decDigits u, isDg b = true := fun u b hb => by
    have := dec_digit b hb
    simp [isDg, this]
  unfold dcL itoa
  split
  · exact ⟨_, dec_ne _, hd _, .inr rfl⟩
  · exact ⟨_, dec_ne _, hd _, .inl rfl⟩
/-- What is known of a condition that was read. -/
theorem read_all {s : List UInt8} {T : Tr} (h : Reads nmL rtL s (some (some T))) : VT nmL rtL I64 T ∧ (wt dcL T).length ≤ 80 ∧ dw T ≤ 6 ∧ Reads nmL rtL (tx dcL T) (some (some T)) := by
  obtain ⟨h1, h2, h3⟩ := reads_back (dc := dcL) nn_nm nm_word rt_quote num_I64 num_back num_is h
  refine ⟨h1, h2, ?_, h3⟩
  cases h with
  | cond ht hl hp =>
    obtain ⟨hct, _⟩ := ts_codes ht _ rfl (by omega)
    obtain ⟨_, _, _, d⟩ := pr_cost dcL num_I64 hp hct _ _ rfl
    omega
theorem drop_all : ∀ {s : List UInt8}, dropB s = [] → ∀ b ∈ s, b = 32
  | [], _, _, h => by cases h
  | b :: s, hd, x, hx => by
    unfold dropB at hd
    rw [List.dropWhile_cons] at hd
    split at hd
    · rename_i hb
      cases hx with
      | head => simp only [isBl, decide_eq_true_eq] at hb; exact UInt8.toNat_inj.mp hb
      | tail _ hx => exact drop_all hd x hx
    · cases hd
theorem ts_nil {k : Nat} {s : List UInt8} {o : Option (List Tok)} (h : TS k s o) (e : o = some []) : dropB s = [] := by
  cases h with
  | fin h => exact h
  | bad _ _ => cases e
  | many _ _ => cases e
  | @go _ _ _ _ o _ _ _ => cases o <;> cases e
theorem blank_trim {s : List UInt8} (h : Reads nmL rtL s (some none)) : Lib.trimB s 32 = [] := by
  cases h with
  | blank t =>
    have ha := drop_all (ts_nil t rfl)
    have hr := trimRightB_take s 32 0 (Nat.zero_le _) (fun j b _ hj => ha b (List.mem_of_getElem? hj)) (fun b h0 => absurd h0 (by omega))
    unfold trimB
    rw [hr]
    rfl
end Go.Proofs.YtfokdpddcgaafaaGreatDoor
