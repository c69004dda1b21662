/- How many bytes a text begins with that are so: what the library's runes come to. -/
import Derived.Test.YtfokdpddcgaafaaGreatDoorKD
import Derived.Shelf.GgClosure.StringsTrimFunc
namespace Go.Proofs.YtfokdpddcgaafaaGreatDoor.Ask
open Go.Lib
def runL (p : Nat → Bool) (l : List UInt8) : Nat := (l.takeWhile fun b => p b.toNat).length
theorem runL_le (p : Nat → Bool) (l : List UInt8) : runL p l ≤ l.length := (List.takeWhile_sublist _).length_le
theorem decode_ascii {s : ByteArray} {i : Nat} (h : (s.get! i).toNat < 128) : (Utf8.decode s i).1 = (s.get! i).toNat := by
  rw [decode_at]; unfold decodeN
  simp [h]
theorem drop_get {s : ByteArray} {i : Nat} (h : i < s.size) : s.data.toList.drop i = s.get! i :: s.data.toList.drop (i + 1) := by
  have h' : i < s.data.toList.length := by rw [Array.length_toList]; exact h
  rw [List.drop_eq_getElem_cons h']
  have hj2 : i < s.data.size := h
  have : s.get! i = s.data.toList[i] := by
    show s.data[i]! = _
    rw [getElem!_pos s.data i hj2, Array.getElem_toList]
  rw [this]
theorem idx_run {p : Nat → Bool} {s : ByteArray} (hp : ∀ r, 127 < r → p r = false) : ∀ (f i : Nat), s.size ≤ f + i → i ≤ s.size →
    (i + runL p (s.data.toList.drop i) = s.size ∧ idxFuncFrom p false s f i = -1) ∨ (i + runL p (s.data.toList.drop i) < s.size ∧ idxFuncFrom p false s f i = ((i + runL p (s.data.toList.drop i) : Nat) : Int))
  | 0, i, hf, hi => by
    have e : i = s.size := by omega
    subst e
    have : s.data.toList.drop s.size = [] := List.drop_eq_nil_of_le (by rw [Array.length_toList]; exact Nat.le_refl _)
    rw [this]
    exact Or.inl ⟨rfl, rfl⟩
  | f + 1, i, hf, hi => by
    unfold idxFuncFrom
    by_cases hs : i < s.size
    · rw [if_pos hs, drop_get hs]
      by_cases hq : p (Utf8.decode s i).1 = false
      · rw [if_pos hq]
        have hb : p (s.get! i).toNat = false := by
          by_cases h : (s.get! i).toNat < 128
          · rw [← decode_ascii h]; exact hq
          · exact hp _ (by omega)
        have : runL p (s.get! i :: s.data.toList.drop (i + 1)) = 0 := by simp [runL, hb]
        rw [this]
        exact Or.inr ⟨hs, rfl⟩
      · rw [if_neg hq]
        have hq' : p (Utf8.decode s i).1 = true := by simpa using hq
        have hlt : (Utf8.decode s i).1 < 128 := by
          by_cases h : 127 < (Utf8.decode s i).1
          · rw [hp _ h] at hq'; cases hq'
          · omega
        obtain ⟨e1, e2⟩ := decode_small hlt
        have hb : p (s.get! i).toNat = true := by rw [e1]; exact hq'
        have er : runL p (s.get! i :: s.data.toList.drop (i + 1)) = runL p (s.data.toList.drop (i + 1)) + 1 := by simp [runL, hb]
        rw [er, e2, show i + (runL p (s.data.toList.drop (i + 1)) + 1) = i + 1 + runL p (s.data.toList.drop (i + 1)) from by omega]
        exact idx_run hp f (i + 1) (by omega) hs
    · have e : i = s.size := by omega
      rw [if_neg hs]
      subst e
      have : s.data.toList.drop s.size = [] := List.drop_eq_nil_of_le (by rw [Array.length_toList]; exact Nat.le_refl _)
      rw [this]
      exact Or.inl ⟨rfl, rfl⟩
theorem trim_size {p : Nat → Bool} {s : ByteArray} (hp : ∀ r, 127 < r → p r = false) : (s.size : Int) - ((trimLeftF p s).size : Int) = (runL p s.data.toList : Int) := by
  have h := idx_run (s := s) hp s.size 0 (by omega) (by omega)
  rw [List.drop_zero, Nat.zero_add] at h
  unfold trimLeftF
  have hx : idxFunc p false s = idxFuncFrom p false s s.size 0 := rfl
  cases h with
  | inl h =>
    rw [hx, h.2, if_pos rfl]
    show (s.size : Int) - ((0 : Nat) : Int) = _
    omega
  | inr h =>
    rw [hx, h.2, if_neg (by omega)]
    have : (s.extract (((runL p s.data.toList : Nat) : Int)).toNat s.size).size = s.size - runL p s.data.toList := by
      rw [ByteArray.size_extract]; simp
    rw [this]; omega
end Go.Proofs.YtfokdpddcgaafaaGreatDoor.Ask
