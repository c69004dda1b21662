/- Plain mathematics: what is written of two values that may be is the same only if the values are the same. -/
import Derived.Test.YtmghdphafepifaaDoorW2
namespace Go.Proofs.YtmghdphafepifaaDoor
open Go Go.Proofs

def unDec (l : List UInt8) : Nat := l.foldl (fun a c => a * 10 + (c.toNat - 48)) 0
theorem unDec_snoc (l : List UInt8) (c : UInt8) : unDec (l ++ [c]) = unDec l * 10 + (c.toNat - 48) := by simp [unDec]
theorem digit_nat (d : Nat) (h : d < 10) : (UInt8.ofNat (48 + d)).toNat = 48 + d := by
  simp [UInt8.toNat_ofNat']; omega
theorem unDec_decDigits (u : Nat) : unDec (Lib.decDigits u) = u := by
  induction u using Nat.strongRecOn with
  | ind u ih =>
    by_cases h : u < 10
    · rw [Lib.decDigits_one h]; simp [unDec]; omega
    · rw [Lib.decDigits, dif_neg h, unDec_snoc, ih (u / 10) (by omega), digit_nat _ (by omega)]; omega
theorem decDigits_head (u : Nat) : ∃ c l, Lib.decDigits u = c :: l ∧ 48 ≤ c.toNat ∧ c.toNat ≤ 57 := by
  induction u using Nat.strongRecOn with
  | ind u ih =>
    by_cases h : u < 10
    · exact ⟨_, [], Lib.decDigits_one h, by rw [digit_nat u h]; omega, by rw [digit_nat u h]; omega⟩
    · obtain ⟨c, l, e, h1, h2⟩ := ih (u / 10) (by omega)
      exact ⟨c, _, by rw [Lib.decDigits, dif_neg h, e]; rfl, h1, h2⟩
theorem itoa_head (n : Int) : ∃ c l, Lib.itoa n = c :: l ∧ (c = 45 ∧ n < 0 ∨ 48 ≤ c.toNat ∧ c.toNat ≤ 57 ∧ 0 ≤ n) := by
  unfold Lib.itoa
  by_cases h : n < 0
  · exact ⟨45, _, if_pos h, .inl ⟨rfl, h⟩⟩
  · obtain ⟨c, l, e, h1, h2⟩ := decDigits_head n.toNat
    exact ⟨c, l, by rw [if_neg h, e], .inr ⟨h1, h2, by omega⟩⟩
theorem itoa_inj {m n : Int} (h : Lib.itoa m = Lib.itoa n) : m = n := by
  obtain ⟨c, l, e, h1⟩ := itoa_head m
  obtain ⟨c', l', e', h1'⟩ := itoa_head n
  have hh : c = c' := by rw [e, e'] at h; injection h
  subst hh
  rcases h1 with ⟨e1, hm⟩ | ⟨a1, a2, hm⟩ <;> rcases h1' with ⟨e2, hn⟩ | ⟨b1, b2, hn⟩
  · unfold Lib.itoa at h
    rw [if_pos hm, if_pos hn] at h
    injection h with _ h
    have := congrArg unDec h
    rw [unDec_decDigits, unDec_decDigits] at this
    omega
  · subst e1; exact absurd b1 (by decide)
  · subst e2; exact absurd a1 (by decide)
  · unfold Lib.itoa at h
    rw [if_neg (by omega), if_neg (by omega)] at h
    have := congrArg unDec h
    rw [unDec_decDigits, unDec_decDigits] at this
    omega
theorem empty_of {t : ByteArray} (h : t.toList.isEmpty = true) : t = ⟨#[]⟩ := by
  rw [ByteArray.toList_eq] at h
  exact ByteArray.ext (Array.toList_inj.mp (by simpa using h))
theorem rightV_cases {k n : Int} {t : ByteArray} (h : rightV k n t = true) : k = 0 ∧ n = 0 ∧ t = ⟨#[]⟩ ∨ k = 1 ∧ t = ⟨#[]⟩ ∨ k = 2 ∧ n = 0 ∧ t.size ≤ 40 := by
  unfold rightV at h
  split at h
  · simp at h; exact .inl ⟨‹_›, h.1, empty_of (by simpa using h.2)⟩
  · split at h
    · exact .inr (.inl ⟨‹_›, empty_of h⟩)
    · split at h
      · simp [rtB] at h; exact .inr (.inr ⟨‹_›, h.1, h.2.1⟩)
      · cases h
theorem bytes_eq {a b : ByteArray} (h : a = b) : a.data.toList = b.data.toList := by rw [h]
theorem quoted (t : ByteArray) : ((⟨#[39]⟩ ++ t ++ ⟨#[39]⟩ : ByteArray)).data.toList = 39 :: (t.data.toList ++ [39]) := by
  simp [ByteArray.data_append]
theorem p0 (n : Int) (t : ByteArray) : (printV 0 n t).data.toList = [110, 117, 108, 108] := rfl
theorem p1 (n : Int) (t : ByteArray) : (printV 1 n t).data.toList = Lib.itoa n := by simp [printV]
theorem p2 (n : Int) (t : ByteArray) : (printV 2 n t).data.toList = 39 :: (t.data.toList ++ [39]) := by rw [← quoted]; rfl
theorem itoa_not {n : Int} {c : UInt8} {l : List UInt8} (h : Lib.itoa n = c :: l) (h1 : c ≠ 45) (h2 : ¬ (48 ≤ c.toNat ∧ c.toNat ≤ 57)) : False := by
  obtain ⟨d, m, e, g⟩ := itoa_head n
  rw [e] at h
  injection h with h _
  subst h
  rcases g with ⟨g, _⟩ | ⟨g1, g2, _⟩
  · exact h1 g
  · exact h2 ⟨g1, g2⟩
theorem print_inj {ka na kb nb : Int} {ta tb : ByteArray} (ha : rightV ka na ta = true) (hb : rightV kb nb tb = true) (h : printV ka na ta = printV kb nb tb) : ka = kb ∧ na = nb ∧ ta = tb := by
  have h := bytes_eq h
  rcases rightV_cases ha with ⟨rfl, rfl, rfl⟩ | ⟨rfl, rfl⟩ | ⟨rfl, rfl, _⟩ <;> rcases rightV_cases hb with ⟨rfl, rfl, rfl⟩ | ⟨rfl, rfl⟩ | ⟨rfl, rfl, _⟩
  · exact ⟨rfl, rfl, rfl⟩
  · rw [p0, p1] at h; exact (itoa_not h.symm (by decide) (by decide)).elim
  · rw [p0, p2] at h; injection h with h _; exact absurd h (by decide)
  · rw [p0, p1] at h; exact (itoa_not h (by decide) (by decide)).elim
  · rw [p1, p1] at h; exact ⟨rfl, itoa_inj h, rfl⟩
  · rw [p1, p2] at h; exact (itoa_not h (by decide) (by decide)).elim
  · rw [p0, p2] at h; injection h with h _; exact absurd h (by decide)
  · rw [p1, p2] at h; exact (itoa_not h.symm (by decide) (by decide)).elim
  · rw [p2, p2] at h
    injection h with _ h
    exact ⟨rfl, rfl, ByteArray.ext (Array.toList_inj.mp (List.append_cancel_right h))⟩
end Go.Proofs.YtmghdphafepifaaDoor
