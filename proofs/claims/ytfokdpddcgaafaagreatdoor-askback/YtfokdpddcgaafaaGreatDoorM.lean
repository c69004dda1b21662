/- Plain mathematics: columns, and how they change: what may be a table's columns stays so behind each change; a name stands in one place; a column that is called otherwise, and back, is as it was. -/
import Derived.WalkKit
import Derived.Lib.SlBy
namespace Go.Proofs.YtfokdpddcgaafaaGreatDoor
open Go

/-- A column: its number, its name, its kind, whether it must be something, and its default's kind, number and text. -/
abbrev Col := Int × ByteArray × Int × Bool × Int × Int × ByteArray
/-- A column's seven cells. -/
def encC (c : Col) : List Value := [.int .i64 c.1, .string c.2.1, .int .i64 c.2.2.1, .bool c.2.2.2.1, .int .i64 c.2.2.2.2.1, .int .i64 c.2.2.2.2.2.1, .string c.2.2.2.2.2.2]
/-- The cells of columns, one behind the other. -/
def cellsC (l : List Col) : List Value := l.flatMap encC

theorem encC_len (c : Col) : (encC c).length = 7 := rfl
theorem cellsC_len : ∀ l : List Col, (cellsC l).length = l.length * 7
  | [] => rfl
  | c :: l => by simp only [cellsC, List.flatMap_cons, List.length_append, encC_len, List.length_cons]; have := cellsC_len l; simp only [cellsC] at this; omega
theorem cellsC_at : ∀ (l : List Col) (j i : Nat), j < l.length → i < 7 → (cellsC l)[j * 7 + i]? = (encC l[j]!)[i]?
  | [], j, i, h, _ => absurd h (Nat.not_lt_zero _)
  | c :: l, 0, i, _, hi => by
    simp only [cellsC, List.flatMap_cons]
    rw [List.getElem?_append_left (by rw [encC_len]; omega)]
    simp
  | c :: l, j + 1, i, h, hi => by
    have ih := cellsC_at l j i (by simpa using h) hi
    simp only [cellsC, List.flatMap_cons] at ih ⊢
    rw [List.getElem?_append_right (by rw [encC_len]; omega), encC_len, show (j + 1) * 7 + i - 7 = j * 7 + i by omega, ih]
    simp
theorem cellsC_one (l : List Col) : ∀ u ∈ cellsC l, u.oneCell' = true := by
  intro u hu
  simp only [cellsC, List.mem_flatMap] at hu
  obtain ⟨c, _, hc⟩ := hu
  simp only [encC, List.mem_cons, List.not_mem_nil, or_false] at hc
  rcases hc with rfl | rfl | rfl | rfl | rfl | rfl | rfl <;> rfl
theorem cellsC_append (a b : List Col) : cellsC (a ++ b) = cellsC a ++ cellsC b := by simp [cellsC]

def mayC (cb : ByteArray → Bool) (fb : Int → Int → Int → ByteArray → Bool) (c : Col) : Prop :=
  (c.2.2.1 = 1 ∨ c.2.2.1 = 2) ∧ 1 ≤ c.1 ∧ cb c.2.1 = true ∧ fb c.2.2.1 c.2.2.2.2.1 c.2.2.2.2.2.1 c.2.2.2.2.2.2 = true
def Apart (a b : Col) : Prop := a.1 ≠ b.1 ∧ a.2.1 ≠ b.2.1
def RightP (cb : ByteArray → Bool) (fb : Int → Int → Int → ByteArray → Bool) (l : List Col) (next : Int) : Prop :=
  1 ≤ l.length ∧ l.length ≤ 8 ∧ (∀ c ∈ l, mayC cb fb c ∧ c.1 < next) ∧ l.Pairwise Apart
def renC (c : Col) (to : ByteArray) : Col := (c.1, to, c.2.2)
def findC (l : List Col) (nm : ByteArray) : Int := Lib.idxBy (fun _ y => y.2.1.toList == nm.toList) l default

theorem toList_inj {a b : ByteArray} (h : a.toList = b.toList) : a = b := by
  rw [ByteArray.toList_eq, ByteArray.toList_eq] at h
  exact ByteArray.ext (Array.toList_inj.mp h)
theorem find_cases (l : List Col) (nm : ByteArray) : (findC l nm = -1 ∧ ∀ j, j < l.length → l[j]!.2.1 ≠ nm) ∨ ∃ k : Nat, k < l.length ∧ findC l nm = k ∧ l[k]!.2.1 = nm := by
  by_cases h : ∃ k, k < l.length ∧ l[k]!.2.1 = nm
  · right
    have hex : ∃ k, k < l.length ∧ l[k]!.2.1 = nm := h
    let P : Nat → Prop := fun k => k < l.length ∧ l[k]!.2.1 = nm
    have key : ∀ n, (∃ k, k < n ∧ P k) → ∃ k, P k ∧ ∀ j, j < k → ¬ P j := by
      intro n
      induction n with
      | zero => rintro ⟨k, hk, _⟩; omega
      | succ n ih =>
        rintro ⟨k, hk, hp⟩
        by_cases hx : ∃ j, j < n ∧ P j
        · exact ih hx
        · refine ⟨k, hp, fun j hj hpj => hx ⟨j, by omega, hpj⟩⟩
    obtain ⟨k0, hk0⟩ := hex
    obtain ⟨k, ⟨hk, hn⟩, hmin⟩ := key (k0 + 1) ⟨k0, by omega, hk0⟩
    refine ⟨k, hk, ?_, hn⟩
    have := Lib.idxBy_hit (fun (_ : Col) (y : Col) => y.2.1.toList == nm.toList) l l.length k default hk (Nat.le_refl _) (by show (l[k]!.2.1.toList == nm.toList) = true; rw [hn]; exact beq_self_eq_true _) (fun j hj => by
      have := hmin j hj
      have : l[j]!.2.1 ≠ nm := fun e => this ⟨by omega, e⟩
      exact beq_eq_false_iff_ne.2 (fun e => this (toList_inj e)))
    rw [List.take_length] at this
    exact this
  · left
    refine ⟨?_, fun j hj e => h ⟨j, hj, e⟩⟩
    have := Lib.idxBy_miss (fun (_ : Col) (y : Col) => y.2.1.toList == nm.toList) l l.length default (fun j hj => beq_eq_false_iff_ne.2 (fun e => h ⟨j, hj, toList_inj e⟩))
    rw [List.take_length] at this
    exact this

theorem mem_of_lt {l : List Col} {j : Nat} (h : j < l.length) : l[j]! ∈ l := by
  rw [getElem!_pos l j h]; exact List.getElem_mem h
theorem apart_at {l : List Col} (h : l.Pairwise Apart) {i j : Nat} (hi : i < l.length) (hj : j < l.length) (hne : i ≠ j) : Apart l[i]! l[j]! := by
  rw [getElem!_pos l i hi, getElem!_pos l j hj]
  rcases Nat.lt_or_gt_of_ne hne with hlt | hlt
  · exact List.pairwise_iff_getElem.1 h i j hi hj hlt
  · have := List.pairwise_iff_getElem.1 h j i hj hi hlt
    exact ⟨fun e => this.1 e.symm, fun e => this.2 e.symm⟩
theorem find_at {cb : ByteArray → Bool} {fb : Int → Int → Int → ByteArray → Bool} {l : List Col} {next : Int} (h : RightP cb fb l next) {k : Nat} (hk : k < l.length) : findC l l[k]!.2.1 = k := by
  rcases find_cases l l[k]!.2.1 with ⟨_, hn⟩ | ⟨j, hj, hf, he⟩
  · exact (hn k hk rfl).elim
  · by_cases e : j = k
    · rw [hf, e]
    · exact ((apart_at h.2.2.2 hj hk e).2 he).elim

theorem right_more {cb : ByteArray → Bool} {fb : Int → Int → Int → ByteArray → Bool} {l : List Col} {next : Int} (h : RightP cb fb l next) (h8 : l.length < 8) {c : Col} (hc : mayC cb fb c) (hid : c.1 = next) (hn : ∀ j, j < l.length → l[j]!.2.1 ≠ c.2.1) : RightP cb fb (l ++ [c]) (next + 1) := by
  obtain ⟨h1, _, h3, h4⟩ := h
  refine ⟨by simp, by simp; omega, ?_, ?_⟩
  · intro x hx
    rcases List.mem_append.1 hx with hx | hx
    · exact ⟨(h3 x hx).1, by have := (h3 x hx).2; omega⟩
    · rw [List.mem_singleton.1 hx]; exact ⟨hc, by omega⟩
  · rw [List.pairwise_append]
    refine ⟨h4, List.pairwise_singleton _ _, ?_⟩
    intro a ha b hb
    rw [List.mem_singleton.1 hb]
    obtain ⟨j, hj, rfl⟩ := List.getElem_of_mem ha
    have := (h3 _ ha).2
    refine ⟨by omega, ?_⟩
    have := hn j hj
    rwa [getElem!_pos l j hj] at this

theorem right_less {cb : ByteArray → Bool} {fb : Int → Int → Int → ByteArray → Bool} {l : List Col} {next : Int} (h : RightP cb fb l next) {k : Nat} (hk : k < l.length) (h1 : l.length ≠ 1) : RightP cb fb (l.take k ++ l.drop (k + 1)) next := by
  obtain ⟨hl, h8, h3, h4⟩ := h
  rw [← List.eraseIdx_eq_take_drop_succ]
  have hlen := List.length_eraseIdx_of_lt hk
  exact ⟨by omega, by omega, fun c hc => h3 c (List.mem_of_mem_eraseIdx hc), h4.sublist (List.eraseIdx_sublist _ _)⟩

theorem getElem!_set {l : List Col} {k j : Nat} {c : Col} (hk : k < l.length) : (l.set k c)[j]! = if j = k then c else l[j]! := by
  by_cases e : j = k
  · subst e; simp [hk]
  · have e' : ¬ k = j := fun x => e x.symm
    simp [List.getElem!_eq_getElem?_getD, e, e']

theorem right_ren {cb : ByteArray → Bool} {fb : Int → Int → Int → ByteArray → Bool} {l : List Col} {next : Int} (h : RightP cb fb l next) {k : Nat} (hk : k < l.length) {to : ByteArray} (hto : cb to = true) (hn : ∀ j, j < l.length → l[j]!.2.1 ≠ to) : RightP cb fb (l.set k (renC l[k]! to)) next := by
  obtain ⟨hl, h8, h3, h4⟩ := h
  refine ⟨by simpa using hl, by simpa using h8, ?_, ?_⟩
  · intro c hc
    rcases List.mem_or_eq_of_mem_set hc with hc | rfl
    · exact h3 c hc
    · obtain ⟨⟨a1, a2, a3, a4⟩, a5⟩ := h3 _ (mem_of_lt hk)
      exact ⟨⟨a1, a2, hto, a4⟩, a5⟩
  · rw [List.pairwise_iff_getElem]
    intro i j hi hj hij
    have hi' : i < l.length := by simpa using hi
    have hj' : j < l.length := by simpa using hj
    rw [← getElem!_pos (l.set k (renC l[k]! to)) i, ← getElem!_pos (l.set k (renC l[k]! to)) j, getElem!_set hk, getElem!_set hk]
    have hap := apart_at h4 hi' hj' (by omega)
    by_cases ei : i = k
    · have ej : ¬ j = k := by omega
      rw [if_pos ei, if_neg ej]
      subst ei
      exact ⟨hap.1, fun e => hn j hj' e.symm⟩
    · rw [if_neg ei]
      by_cases ej : j = k
      · rw [if_pos ej]
        subst ej
        exact ⟨hap.1, fun e => hn i hi' e⟩
      · rw [if_neg ej]; exact hap

theorem ren_back {l : List Col} {k : Nat} (hk : k < l.length) {nm to : ByteArray} (h : l[k]!.2.1 = nm) : (l.set k (renC l[k]! to)).set k (renC (l.set k (renC l[k]! to))[k]! nm) = l := by
  rw [getElem!_set hk, if_pos rfl, List.set_set]
  have : renC (renC l[k]! to) nm = l[k]! := by rw [← h]; rfl
  rw [this, getElem!_pos l k hk, List.set_getElem_self]
theorem find_ren_to {cb : ByteArray → Bool} {fb : Int → Int → Int → ByteArray → Bool} {l : List Col} {next : Int} (h : RightP cb fb l next) {k : Nat} (hk : k < l.length) {to : ByteArray} (hto : cb to = true) (hn : ∀ j, j < l.length → l[j]!.2.1 ≠ to) : findC (l.set k (renC l[k]! to)) to = k := by
  have := find_at (right_ren h hk hto hn) (k := k) (by simpa using hk)
  rwa [getElem!_set hk, if_pos rfl] at this
theorem find_ren_nm {cb : ByteArray → Bool} {fb : Int → Int → Int → ByteArray → Bool} {l : List Col} {next : Int} (h : RightP cb fb l next) {k : Nat} (hk : k < l.length) {nm to : ByteArray} (hnm : l[k]!.2.1 = nm) (hne : to ≠ nm) : findC (l.set k (renC l[k]! to)) nm = -1 := by
  rcases find_cases (l.set k (renC l[k]! to)) nm with ⟨hf, _⟩ | ⟨j, hj, _, he⟩
  · exact hf
  · rw [List.length_set] at hj
    rw [getElem!_set hk] at he
    by_cases e : j = k
    · rw [if_pos e] at he; exact (hne he).elim
    · rw [if_neg e, ← hnm] at he; exact ((apart_at h.2.2.2 hj hk e).2 he).elim
end Go.Proofs.YtfokdpddcgaafaaGreatDoor
