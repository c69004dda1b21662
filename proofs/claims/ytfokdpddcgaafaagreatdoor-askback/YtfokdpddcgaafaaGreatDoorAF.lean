/- What ask.first does, said of every call: the first token of a text. -/
import Derived.Test.YtfokdpddcgaafaaGreatDoorAE
namespace Go.Proofs.YtfokdpddcgaafaaGreatDoor
open Go.RowKit Go.Proofs Go.Lib Go.Proofs.YtfokdpddcgaafaaGreatDoor.Ask

theorem run_t {p : Nat → Bool} {b : UInt8} {r : List UInt8} (h : p b.toNat = true) : runL p (b :: r) = runL p r + 1 := by simp [runL, h]
theorem run_f {p : Nat → Bool} {b : UInt8} {r : List UInt8} (h : p b.toNat = false) : runL p (b :: r) = 0 := by simp [runL, h]
theorem take_run {q : UInt8 → Bool} (l : List UInt8) : l.take (l.takeWhile q).length = l.takeWhile q := by
  induction l with
  | nil => rfl
  | cons b l ih => rw [List.takeWhile_cons]; split <;> simp [ih]
theorem len_run {q : UInt8 → Bool} (l : List UInt8) : (l.takeWhile q).length + (l.dropWhile q).length = l.length := by
  induction l with
  | nil => rfl
  | cons b l ih => rw [List.takeWhile_cons, List.dropWhile_cons]; split <;> simp; omega
theorem trim_yes (r : List UInt8) (c : UInt8) : trimPrefix (c :: r) [c] = r := by simp [trimPrefix, hasPrefix, List.isPrefixOf]
theorem trim_no {b c : UInt8} (r : List UInt8) (h : b ≠ c) : trimPrefix (b :: r) [c] = b :: r := by
  have : ¬ (c = b) := fun e => h e.symm
  simp [trimPrefix, hasPrefix, List.isPrefixOf, this]
theorem cut_take : ∀ {r : List UInt8}, (39 : UInt8) ∈ r → (cutL 39 r).1 = r.takeWhile notQ ∧ (cutL 39 r).2.2 = true
  | [], h => by cases h
  | b :: r, h => by
    unfold cutL
    by_cases hb : b = 39
    · subst hb; simp [notQ]
    · rw [if_neg hb]
      have hr : (39 : UInt8) ∈ r := by
        cases h with
        | head => exact absurd rfl hb
        | tail _ h => exact h
      obtain ⟨h1, h2⟩ := cut_take hr
      have hq : notQ b = true := by simp [notQ, hb]
      simp [hq, h1, h2]
theorem drop_q {r : List UInt8} (h : (39 : UInt8) ∈ r) : ((r.dropWhile notQ).drop 1).length + 1 + (r.takeWhile notQ).length = r.length := by
  have := len_run (q := notQ) r
  have h0 : 0 < (r.dropWhile notQ).length := by
    induction r with
    | nil => cases h
    | cons b r ih =>
      by_cases hb : b = 39
      · subst hb; simp [notQ]
      · have hq : notQ b = true := by simp [notQ, hb]
        rw [List.dropWhile_cons, if_pos hq]
        cases h with
        | head => exact absurd rfl hb
        | tail _ h => exact ih h (len_run r)
  rw [List.length_drop]; omega
theorem pre_split {l m : List UInt8} (h : hasPrefix l m = true) : ∃ r, l = m ++ r := by
  obtain ⟨r, hr⟩ := List.isPrefixOf_iff_prefix.mp h
  exact ⟨r, hr.symm⟩
theorem mark_yes {l : List UInt8} {i : Nat} (hi : i < 10) (hn : ∀ j, j < i → hasPrefix l (mkT j) = false) (hy : hasPrefix l (mkT i) = true) : ∃ r, markF l = some (tM (mkT i) (mkC i), r) ∧ l.length - r.length = (mkT i).length := by
  obtain ⟨r, rfl⟩ := pre_split hy
  refine ⟨r, ?_, by simp⟩
  match i, hi with
  | 0, _ => rfl
  | 1, _ => rfl
  | 2, _ => rfl
  | 3, _ => rfl
  | 4, _ =>
    cases r with
    | nil => rfl
    | cons c r =>
      have h0 := hn 0 (by omega)
      have h1 := hn 1 (by omega)
      simp [mkT, mks, hasPrefix, List.isPrefixOf] at h0 h1
      show markF (60 :: c :: r) = _
      unfold markF
      split <;> simp_all [mkT, mkC, mks]
  | 5, _ =>
    cases r with
    | nil => rfl
    | cons c r =>
      have h2 := hn 2 (by omega)
      simp [mkT, mks, hasPrefix, List.isPrefixOf] at h2
      show markF (62 :: c :: r) = _
      unfold markF
      split <;> simp_all [mkT, mkC, mks]
  | 6, _ => rfl
  | 7, _ => rfl
  | 8, _ => rfl
  | 9, _ => rfl
theorem mark_no {l : List UInt8} (hn : ∀ j, j < 10 → hasPrefix l (mkT j) = false) : markF l = none := by
  have h0 := hn 0 (by omega)
  have h1 := hn 1 (by omega)
  have h2 := hn 2 (by omega)
  have h3 := hn 3 (by omega)
  have h4 := hn 4 (by omega)
  have h5 := hn 5 (by omega)
  have h6 := hn 6 (by omega)
  have h7 := hn 7 (by omega)
  have h8 := hn 8 (by omega)
  have h9 := hn 9 (by omega)
  unfold markF
  split <;> simp_all [mkT, mks, hasPrefix, List.isPrefixOf]
/-- What comes of ask.first. -/
def FPost (l : List UInt8) (w : World) (e : Ending) (w' : World) : Prop :=
  Below w.heap.size w w' ∧ match first1 l with
    | some (t, r) => e = .returned (.tuple #[tokV t.kind (bA t.text) 0 t.code, .int .i64 ((l.length - r.length : Nat) : Int)])
    | none => e = .returned (.tuple #[tokV 0 ⟨#[]⟩ 0 0, .int .i64 0])
theorem ext_take (s : ByteArray) (n : Nat) : s.extract 0 n = bA (s.data.toList.take n) := by
  rw [extract_eq]; rfl
theorem first_any (s : ByteArray) (w : World) (hs : s.size ≤ 1000000) (hm : MkB w) (h0 : 0 < s.size) : Calls Tryz.prog 50 #[.string s] w (FPost s.data.toList w) := by
  have hs' : s.size ≤ maxLen := by unfold maxLen; omega
  have hsz := size_eq s
  obtain ⟨l, hl⟩ : ∃ l, s.data.toList = l := ⟨_, rfl⟩
  have hbl : bA l = s := by rw [← hl]; exact bA_list s
  cases l with
  | nil => rw [hl] at hsz; rw [hsz] at h0; cases h0
  | cons b r =>
    have hfw := first_word s w hs'
    have hfn := first_num s w hs'
    have hft := first_text s w hs
    have hfm := first_mark s w hs hm
    simp only [ext_take, unB] at hfw hfn hft hfm
    rw [hl] at hfw hfn hft hfm hsz ⊢
    simp only [bA_toList, bA_size] at hfn hft hfm
    unfold FPost
    simp only [first1]
    by_cases h1 : isSm b = true
    · rw [if_pos h1]
      have hw : wcR b.toNat = true := by
        have : smR b.toNat = true := h1
        simp [wcR, this]
      have e1 : runL wcR (b :: r) = (r.takeWhile isWc).length + 1 := run_t hw
      have hpos : 0 < runL smR (b :: r) := by rw [run_t h1]; omega
      refine (hfw hpos).mono ?_
      rintro e w' ⟨rfl, hb⟩
      refine ⟨hb, ?_⟩
      have e2 : (b :: r).length - (r.dropWhile isWc).length = (r.takeWhile isWc).length + 1 := by
        have := len_run (q := isWc) r
        simp only [List.length_cons]; omega
      dsimp only
      rw [e1, e2, List.take_succ_cons, take_run]
      rfl
    · rw [if_neg h1]
      have h1' : smR b.toNat = false := by
        have : isSm b = false := by simpa using h1
        exact this
      have z1 : runL smR (b :: r) = 0 := run_f h1'
      by_cases h2 : isDg b = true
      · rw [if_pos h2]
        have hne : b ≠ 45 := fun e => by subst e; exact absurd h2 (by decide)
        rw [trim_no r hne] at hfn
        have e1 : runL dgR (b :: r) = (r.takeWhile isDg).length + 1 := run_t h2
        refine (hfn z1 (by rw [e1]; omega)).mono ?_
        rintro e w' ⟨rfl, hb⟩
        refine ⟨hb, ?_⟩
        have e2 : (b :: r).length - (r.dropWhile isDg).length = (r.takeWhile isDg).length + 1 := by
          have := len_run (q := isDg) r
          simp only [List.length_cons]; omega
        dsimp only
        rw [e1, e2, hsz, Nat.sub_self, Nat.add_zero, List.take_succ_cons, take_run]
        rfl
      · rw [if_neg h2]
        have h2' : dgR b.toNat = false := by
          have : isDg b = false := by simpa using h2
          exact this
        by_cases h3 : b = 45 ∧ r.takeWhile isDg ≠ []
        · rw [if_pos h3]
          obtain ⟨rfl, h3⟩ := h3
          rw [trim_yes] at hfn
          have e1 : runL dgR r = (r.takeWhile isDg).length := rfl
          have hp : 0 < (r.takeWhile isDg).length := List.length_pos_iff.mpr h3
          refine (hfn z1 (by rw [e1]; exact hp)).mono ?_
          rintro e w' ⟨rfl, hb⟩
          refine ⟨hb, ?_⟩
          have e2 : (45 :: r : List UInt8).length - (r.dropWhile isDg).length = (r.takeWhile isDg).length + 1 := by
            have := len_run (q := isDg) r
            simp only [List.length_cons]; omega
          have e3 : s.size - r.length = 1 := by rw [hsz]; simp
          dsimp only
          rw [e1, e2, e3, List.take_succ_cons, take_run]
          rfl
        · rw [if_neg h3]
          have z2 : runL dgR (trimPrefix (b :: r) [45]) = 0 := by
            by_cases hb : b = 45
            · subst hb
              rw [trim_yes]
              have : r.takeWhile isDg = [] := Classical.byContradiction fun h => h3 ⟨rfl, h⟩
              show (r.takeWhile isDg).length = 0
              rw [this]; rfl
            · rw [trim_no r hb]; exact run_f h2'
          by_cases h4 : b = 39 ∧ (39 : UInt8) ∈ r
          · rw [if_pos h4]
            obtain ⟨rfl, h4⟩ := h4
            obtain ⟨q1, q2⟩ := cut_take h4
            have hq : quB (39 :: r) = true := by
              unfold quB; rw [trim_yes, q2]; simp [hasPrefix, List.isPrefixOf]
            have hr : quR (39 :: r) = r.takeWhile notQ := by unfold quR; rw [trim_yes, q1]
            refine (hft z1 z2 hq).mono ?_
            rintro e w' ⟨rfl, hb⟩
            refine ⟨hb, ?_⟩
            have := drop_q h4
            have e2 : (39 :: r : List UInt8).length - ((r.dropWhile notQ).drop 1).length = (r.takeWhile notQ).length + 2 := by
              simp only [List.length_cons]; omega
            dsimp only
            rw [e2, hr]
            rfl
          · rw [if_neg h4]
            have hq : quB (b :: r) = false := by
              unfold quB
              by_cases hb : b = 39
              · subst hb
                have hm : (39 : UInt8) ∉ r := fun h => h4 ⟨rfl, h⟩
                rw [trim_yes, cutL_miss hm]; simp
              · have : ¬ ((39 : UInt8) = b) := fun e => hb e.symm
                simp [hasPrefix, List.isPrefixOf, this]
            refine (hfm z1 z2 hq).mono ?_
            rintro e w' ⟨hb, hk⟩
            refine ⟨hb, ?_⟩
            cases hk with
            | inl h =>
              obtain ⟨i, hi, hn, hy, rfl⟩ := h
              obtain ⟨r', hm', hle⟩ := mark_yes hi hn hy
              rw [hm']
              dsimp only
              rw [hle]
              rfl
            | inr h =>
              obtain ⟨hn, rfl⟩ := h
              rw [mark_no hn]
end Go.Proofs.YtfokdpddcgaafaaGreatDoor
