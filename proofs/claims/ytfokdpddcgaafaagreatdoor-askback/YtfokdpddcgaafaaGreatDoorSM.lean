/- Plain mathematics: the order of values (a kind, a number, a text), as an order of three parts one behind the other, is a row: of two one is ahead or they are the same, and what is ahead of what is ahead is ahead. -/
import Derived.WalkKit
import Derived.Sort.Walk0
namespace Go.Proofs.YtfokdpddcgaafaaGreatDoor.S
open Go Go.Sort

def cmpI (x y : Int) : Int := if x < y then -1 else if y < x then 1 else 0
def cmpL (x y : List UInt8) : Int := if x < y then -1 else if y < x then 1 else 0
def cmpS (x y : ByteArray) : Int := cmpL x.data.toList y.data.toList
def orI (a b c : Int) : Int := if a = 0 then (if b = 0 then c else b) else a
def cmpV (k1 n1 : Int) (t1 : ByteArray) (k2 n2 : Int) (t2 : ByteArray) : Int := orI (cmpI k1 k2) (cmpI n1 n2) (cmpS t1 t2)

theorem cmpI_swap (x y : Int) : cmpI y x = -cmpI x y := by
  unfold cmpI; split <;> split <;> (try split) <;> omega
theorem cmpI_cases (x y : Int) : cmpI x y = -1 ∧ x < y ∨ cmpI x y = 0 ∧ x = y ∨ cmpI x y = 1 ∧ y < x := by
  unfold cmpI; split <;> (try split) <;> omega
theorem lt_tri (x y : List UInt8) : x < y ∨ x = y ∨ y < x := by
  rcases Classical.em (x < y) with h | h
  · exact .inl h
  · rcases Classical.em (y < x) with h' | h'
    · exact .inr (.inr h')
    · exact .inr (.inl (List.le_antisymm (List.not_lt.mp h') (List.not_lt.mp h)))
theorem cmpL_cases (x y : List UInt8) : cmpL x y = -1 ∧ x < y ∨ cmpL x y = 0 ∧ x = y ∨ cmpL x y = 1 ∧ y < x := by
  unfold cmpL
  rcases lt_tri x y with h | h | h
  · exact .inl ⟨if_pos h, h⟩
  · subst h; exact .inr (.inl ⟨by rw [if_neg (List.lt_irrefl x), if_neg (List.lt_irrefl x)], rfl⟩)
  · exact .inr (.inr ⟨by rw [if_neg (List.lt_asymm h), if_pos h], h⟩)
theorem cmpS_cases (x y : ByteArray) : cmpS x y = -1 ∧ x.data.toList < y.data.toList ∨ cmpS x y = 0 ∧ x = y ∨ cmpS x y = 1 ∧ y.data.toList < x.data.toList := by
  rcases cmpL_cases x.data.toList y.data.toList with h | ⟨h, e⟩ | h
  · exact .inl h
  · exact .inr (.inl ⟨h, ByteArray.ext (Array.toList_inj.mp e)⟩)
  · exact .inr (.inr h)
theorem no_lt {x y : List UInt8} (h : x < y) (h' : y < x) : False := List.lt_asymm h h'
theorem cmpS_swap (x y : ByteArray) : cmpS y x = -cmpS x y := by
  rcases cmpS_cases x y with ⟨h, e⟩ | ⟨h, e⟩ | ⟨h, e⟩ <;> rcases cmpS_cases y x with ⟨h', e'⟩ | ⟨h', e'⟩ | ⟨h', e'⟩ <;> rw [h, h'] <;> first
    | rfl
    | exact (no_lt e e').elim
    | (subst e; exact (List.lt_irrefl _ e').elim)
    | (subst e'; exact (List.lt_irrefl _ e).elim)
theorem cmpS_self (x : ByteArray) : cmpS x x = 0 := by
  rcases cmpS_cases x x with ⟨_, e⟩ | ⟨h, _⟩ | ⟨_, e⟩
  · exact (List.lt_irrefl _ e).elim
  · exact h
  · exact (List.lt_irrefl _ e).elim
theorem cmpS_trans (x y z : ByteArray) (m : Int) (h1 : cmpS x y = m) (h2 : cmpS y z = m) : cmpS x z = m := by
  rcases cmpS_cases x y with ⟨h, e⟩ | ⟨h, e⟩ | ⟨h, e⟩ <;> rcases cmpS_cases y z with ⟨h', e'⟩ | ⟨h', e'⟩ | ⟨h', e'⟩ <;> first
    | (exfalso; omega)
    | (subst e; subst e'; exact h1)
    | skip
  · have := List.lt_trans e e'
    rcases cmpS_cases x z with ⟨g, f⟩ | ⟨g, f⟩ | ⟨g, f⟩
    · omega
    · subst f; exact (List.lt_irrefl _ this).elim
    · exact (no_lt this f).elim
  · have := List.lt_trans e' e
    rcases cmpS_cases x z with ⟨g, f⟩ | ⟨g, f⟩ | ⟨g, f⟩
    · exact (no_lt this f).elim
    · subst f; exact (List.lt_irrefl _ this).elim
    · omega
theorem cmpV_range (k1 n1 : Int) (t1 : ByteArray) (k2 n2 : Int) (t2 : ByteArray) : cmpV k1 n1 t1 k2 n2 t2 = -1 ∨ cmpV k1 n1 t1 k2 n2 t2 = 0 ∨ cmpV k1 n1 t1 k2 n2 t2 = 1 := by
  unfold cmpV orI
  have := cmpI_cases k1 k2; have := cmpI_cases n1 n2; have := cmpS_cases t1 t2
  split <;> (try split) <;> omega
theorem cmpV_swap (k1 n1 : Int) (t1 : ByteArray) (k2 n2 : Int) (t2 : ByteArray) : cmpV k2 n2 t2 k1 n1 t1 = -cmpV k1 n1 t1 k2 n2 t2 := by
  unfold cmpV orI
  rw [cmpI_swap k1 k2, cmpI_swap n1 n2, cmpS_swap t1 t2]
  split <;> (try split) <;> (try split) <;> (try split) <;> omega
theorem cmpV_zero (k1 n1 : Int) (t1 : ByteArray) (k2 n2 : Int) (t2 : ByteArray) : cmpV k1 n1 t1 k2 n2 t2 = 0 ↔ k1 = k2 ∧ n1 = n2 ∧ t1 = t2 := by
  constructor
  · intro h
    unfold cmpV orI at h
    rcases cmpI_cases k1 k2 with ⟨a, a'⟩ | ⟨a, a'⟩ | ⟨a, a'⟩ <;> rcases cmpI_cases n1 n2 with ⟨b, b'⟩ | ⟨b, b'⟩ | ⟨b, b'⟩ <;> rcases cmpS_cases t1 t2 with ⟨c, c'⟩ | ⟨c, c'⟩ | ⟨c, c'⟩ <;> simp [a, b, c] at h
    exact ⟨a', b', c'⟩
  · rintro ⟨rfl, rfl, rfl⟩
    unfold cmpV orI
    rw [cmpS_self]
    simp [cmpI]
theorem cmpV_trans (k1 n1 : Int) (t1 : ByteArray) (k2 n2 : Int) (t2 : ByteArray) (k3 n3 : Int) (t3 : ByteArray) (m : Int) (h1 : cmpV k1 n1 t1 k2 n2 t2 = m) (h2 : cmpV k2 n2 t2 k3 n3 t3 = m) : cmpV k1 n1 t1 k3 n3 t3 = m := by
  unfold cmpV orI at *
  have a := cmpI_cases k1 k2; have b := cmpI_cases k2 k3; have c := cmpI_cases k1 k3
  have d := cmpI_cases n1 n2; have e := cmpI_cases n2 n3; have f := cmpI_cases n1 n3
  have g := cmpS_trans t1 t2 t3 m
  split at h1 <;> split at h2 <;> (try split at h1) <;> (try split at h2) <;> split <;> (try split) <;> first
    | omega
    | exact g h1 h2
    | (exfalso; omega)
theorem cmpV_zero_left (k1 n1 : Int) (t1 : ByteArray) (k2 n2 : Int) (t2 : ByteArray) (k3 n3 : Int) (t3 : ByteArray) (h1 : cmpV k1 n1 t1 k2 n2 t2 = 0) : cmpV k1 n1 t1 k3 n3 t3 = cmpV k2 n2 t2 k3 n3 t3 := by
  obtain ⟨rfl, rfl, rfl⟩ := (cmpV_zero ..).1 h1
  rfl
theorem bytesLess_data (x y : ByteArray) : Op.bytesLess x.toList y.toList = decide (x.data.toList < y.data.toList) := by
  rw [ByteArray.toList_eq, ByteArray.toList_eq, bytesLess_eq]
end Go.Proofs.YtfokdpddcgaafaaGreatDoor.S
