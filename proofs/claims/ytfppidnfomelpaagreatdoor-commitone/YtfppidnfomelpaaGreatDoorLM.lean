/- Plain mathematics of package log: what an action does to a table; what a table is behind commits; who does not fight may go first. -/
import Derived.WalkKit
import Derived.Lib.SlBy
namespace Go.Proofs.YtfppidnfomelpaaGreatDoor
open Go

/-- A column: its number, its name, its kind, whether it must be something, and its default's kind, number and text. -/
abbrev Col := Int × ByteArray × Int × Bool × Int × Int × ByteArray
/-- A column's seven cells. -/
def encC (c : Col) : List Value := [.int .i64 c.1, .string c.2.1, .int .i64 c.2.2.1, .bool c.2.2.2.1, .int .i64 c.2.2.2.2.1, .int .i64 c.2.2.2.2.2.1, .string c.2.2.2.2.2.2]
/-- The cells of columns, one behind the other. -/
def cellsC (l : List Col) : List Value := l.flatMap encC

theorem encC_len (c : Col) : (encC c).length = 7 := rfl
theorem cellsC_len : ∀ l : List Col, (cellsC l).length = l.length * 7
  | [] => rfl
  | c :: l => by simp only [cellsC, List.flatMap_cons, List.length_append, encC_len, List.length_cons]; have := cellsC_len l; simp only [cellsC] at this; omega
theorem cellsC_at : ∀ (l : List Col) (j i : Nat), j < l.length → i < 7 → (cellsC l)[j * 7 + i]? = (encC l[j]!)[i]?
  | [], j, i, h, _ => absurd h (Nat.not_lt_zero _)
  | c :: l, 0, i, _, hi => by
    simp only [cellsC, List.flatMap_cons]
    rw [List.getElem?_append_left (by rw [encC_len]; omega)]
    simp
  | c :: l, j + 1, i, h, hi => by
    have ih := cellsC_at l j i (by simpa using h) hi
    simp only [cellsC, List.flatMap_cons] at ih ⊢
    rw [List.getElem?_append_right (by rw [encC_len]; omega), encC_len, show (j + 1) * 7 + i - 7 = j * 7 + i by omega, ih]
    simp
theorem cellsC_one (l : List Col) : ∀ u ∈ cellsC l, u.oneCell' = true := by
  intro u hu
  simp only [cellsC, List.mem_flatMap] at hu
  obtain ⟨c, _, hc⟩ := hu
  simp only [encC, List.mem_cons, List.not_mem_nil, or_false] at hc
  rcases hc with rfl | rfl | rfl | rfl | rfl | rfl | rfl <;> rfl
theorem cellsC_append (a b : List Col) : cellsC (a ++ b) = cellsC a ++ cellsC b := by simp [cellsC]

def mayC (cb : ByteArray → Bool) (fb : Int → Int → Int → ByteArray → Bool) (c : Col) : Prop :=
  (c.2.2.1 = 1 ∨ c.2.2.1 = 2) ∧ 1 ≤ c.1 ∧ cb c.2.1 = true ∧ fb c.2.2.1 c.2.2.2.2.1 c.2.2.2.2.2.1 c.2.2.2.2.2.2 = true
def Apart (a b : Col) : Prop := a.1 ≠ b.1 ∧ a.2.1 ≠ b.2.1
def RightP (cb : ByteArray → Bool) (fb : Int → Int → Int → ByteArray → Bool) (l : List Col) (next : Int) : Prop :=
  1 ≤ l.length ∧ l.length ≤ 8 ∧ (∀ c ∈ l, mayC cb fb c ∧ c.1 < next) ∧ l.Pairwise Apart
def renC (c : Col) (to : ByteArray) : Col := (c.1, to, c.2.2)
def findC (l : List Col) (nm : ByteArray) : Int := Lib.idxBy (fun _ y => y.2.1.toList == nm.toList) l default

theorem toList_inj {a b : ByteArray} (h : a.toList = b.toList) : a = b := by
  rw [ByteArray.toList_eq, ByteArray.toList_eq] at h
  exact ByteArray.ext (Array.toList_inj.mp h)
theorem find_cases (l : List Col) (nm : ByteArray) : (findC l nm = -1 ∧ ∀ j, j < l.length → l[j]!.2.1 ≠ nm) ∨ ∃ k : Nat, k < l.length ∧ findC l nm = k ∧ l[k]!.2.1 = nm := by
  by_cases h : ∃ k, k < l.length ∧ l[k]!.2.1 = nm
  · right
    have hex : ∃ k, k < l.length ∧ l[k]!.2.1 = nm := h
    let P : Nat → Prop := fun k => k < l.length ∧ l[k]!.2.1 = nm
    have key : ∀ n, (∃ k, k < n ∧ P k) → ∃ k, P k ∧ ∀ j, j < k → ¬ P j := by
      intro n
      induction n with
      | zero => rintro ⟨k, hk, _⟩; omega
      | succ n ih =>
        rintro ⟨k, hk, hp⟩
        by_cases hx : ∃ j, j < n ∧ P j
        · exact ih hx
        · refine ⟨k, hp, fun j hj hpj => hx ⟨j, by omega, hpj⟩⟩
    obtain ⟨k0, hk0⟩ := hex
    obtain ⟨k, ⟨hk, hn⟩, hmin⟩ := key (k0 + 1) ⟨k0, by omega, hk0⟩
    refine ⟨k, hk, ?_, hn⟩
    have := Lib.idxBy_hit (fun (_ : Col) (y : Col) => y.2.1.toList == nm.toList) l l.length k default hk (Nat.le_refl _) (by show (l[k]!.2.1.toList == nm.toList) = true; rw [hn]; exact beq_self_eq_true _) (fun j hj => by
      have := hmin j hj
      have : l[j]!.2.1 ≠ nm := fun e => this ⟨by omega, e⟩
      exact beq_eq_false_iff_ne.2 (fun e => this (toList_inj e)))
    rw [List.take_length] at this
    exact this
  · left
    refine ⟨?_, fun j hj e => h ⟨j, hj, e⟩⟩
    have := Lib.idxBy_miss (fun (_ : Col) (y : Col) => y.2.1.toList == nm.toList) l l.length default (fun j hj => beq_eq_false_iff_ne.2 (fun e => h ⟨j, hj, toList_inj e⟩))
    rw [List.take_length] at this
    exact this

theorem mem_of_lt {l : List Col} {j : Nat} (h : j < l.length) : l[j]! ∈ l := by
  rw [getElem!_pos l j h]; exact List.getElem_mem h
theorem apart_at {l : List Col} (h : l.Pairwise Apart) {i j : Nat} (hi : i < l.length) (hj : j < l.length) (hne : i ≠ j) : Apart l[i]! l[j]! := by
  rw [getElem!_pos l i hi, getElem!_pos l j hj]
  rcases Nat.lt_or_gt_of_ne hne with hlt | hlt
  · exact List.pairwise_iff_getElem.1 h i j hi hj hlt
  · have := List.pairwise_iff_getElem.1 h j i hj hi hlt
    exact ⟨fun e => this.1 e.symm, fun e => this.2 e.symm⟩
theorem find_at {cb : ByteArray → Bool} {fb : Int → Int → Int → ByteArray → Bool} {l : List Col} {next : Int} (h : RightP cb fb l next) {k : Nat} (hk : k < l.length) : findC l l[k]!.2.1 = k := by
  rcases find_cases l l[k]!.2.1 with ⟨_, hn⟩ | ⟨j, hj, hf, he⟩
  · exact (hn k hk rfl).elim
  · by_cases e : j = k
    · rw [hf, e]
    · exact ((apart_at h.2.2.2 hj hk e).2 he).elim

theorem right_more {cb : ByteArray → Bool} {fb : Int → Int → Int → ByteArray → Bool} {l : List Col} {next : Int} (h : RightP cb fb l next) (h8 : l.length < 8) {c : Col} (hc : mayC cb fb c) (hid : c.1 = next) (hn : ∀ j, j < l.length → l[j]!.2.1 ≠ c.2.1) : RightP cb fb (l ++ [c]) (next + 1) := by
  obtain ⟨h1, _, h3, h4⟩ := h
  refine ⟨by simp, by simp; omega, ?_, ?_⟩
  · intro x hx
    rcases List.mem_append.1 hx with hx | hx
    · exact ⟨(h3 x hx).1, by have := (h3 x hx).2; omega⟩
    · rw [List.mem_singleton.1 hx]; exact ⟨hc, by omega⟩
  · rw [List.pairwise_append]
    refine ⟨h4, List.pairwise_singleton _ _, ?_⟩
    intro a ha b hb
    rw [List.mem_singleton.1 hb]
    obtain ⟨j, hj, rfl⟩ := List.getElem_of_mem ha
    have := (h3 _ ha).2
    refine ⟨by omega, ?_⟩
    have := hn j hj
    rwa [getElem!_pos l j hj] at this

theorem right_less {cb : ByteArray → Bool} {fb : Int → Int → Int → ByteArray → Bool} {l : List Col} {next : Int} (h : RightP cb fb l next) {k : Nat} (hk : k < l.length) (h1 : l.length ≠ 1) : RightP cb fb (l.take k ++ l.drop (k + 1)) next := by
  obtain ⟨hl, h8, h3, h4⟩ := h
  rw [← List.eraseIdx_eq_take_drop_succ]
  have hlen := List.length_eraseIdx_of_lt hk
  exact ⟨by omega, by omega, fun c hc => h3 c (List.mem_of_mem_eraseIdx hc), h4.sublist (List.eraseIdx_sublist _ _)⟩

theorem getElem!_set {l : List Col} {k j : Nat} {c : Col} (hk : k < l.length) : (l.set k c)[j]! = if j = k then c else l[j]! := by
  by_cases e : j = k
  · subst e; simp [hk]
  · have e' : ¬ k = j := fun x => e x.symm
    simp [List.getElem!_eq_getElem?_getD, e, e']

theorem right_ren {cb : ByteArray → Bool} {fb : Int → Int → Int → ByteArray → Bool} {l : List Col} {next : Int} (h : RightP cb fb l next) {k : Nat} (hk : k < l.length) {to : ByteArray} (hto : cb to = true) (hn : ∀ j, j < l.length → l[j]!.2.1 ≠ to) : RightP cb fb (l.set k (renC l[k]! to)) next := by
  obtain ⟨hl, h8, h3, h4⟩ := h
  refine ⟨by simpa using hl, by simpa using h8, ?_, ?_⟩
  · intro c hc
    rcases List.mem_or_eq_of_mem_set hc with hc | rfl
    · exact h3 c hc
    · obtain ⟨⟨a1, a2, a3, a4⟩, a5⟩ := h3 _ (mem_of_lt hk)
      exact ⟨⟨a1, a2, hto, a4⟩, a5⟩
  · rw [List.pairwise_iff_getElem]
    intro i j hi hj hij
    have hi' : i < l.length := by simpa using hi
    have hj' : j < l.length := by simpa using hj
    rw [← getElem!_pos (l.set k (renC l[k]! to)) i, ← getElem!_pos (l.set k (renC l[k]! to)) j, getElem!_set hk, getElem!_set hk]
    have hap := apart_at h4 hi' hj' (by omega)
    by_cases ei : i = k
    · have ej : ¬ j = k := by omega
      rw [if_pos ei, if_neg ej]
      subst ei
      exact ⟨hap.1, fun e => hn j hj' e.symm⟩
    · rw [if_neg ei]
      by_cases ej : j = k
      · rw [if_pos ej]
        subst ej
        exact ⟨hap.1, fun e => hn i hi' e⟩
      · rw [if_neg ej]; exact hap

theorem ren_back {l : List Col} {k : Nat} (hk : k < l.length) {nm to : ByteArray} (h : l[k]!.2.1 = nm) : (l.set k (renC l[k]! to)).set k (renC (l.set k (renC l[k]! to))[k]! nm) = l := by
  rw [getElem!_set hk, if_pos rfl, List.set_set]
  have : renC (renC l[k]! to) nm = l[k]! := by rw [← h]; rfl
  rw [this, getElem!_pos l k hk, List.set_getElem_self]
theorem find_ren_to {cb : ByteArray → Bool} {fb : Int → Int → Int → ByteArray → Bool} {l : List Col} {next : Int} (h : RightP cb fb l next) {k : Nat} (hk : k < l.length) {to : ByteArray} (hto : cb to = true) (hn : ∀ j, j < l.length → l[j]!.2.1 ≠ to) : findC (l.set k (renC l[k]! to)) to = k := by
  have := find_at (right_ren h hk hto hn) (k := k) (by simpa using hk)
  rwa [getElem!_set hk, if_pos rfl] at this
theorem find_ren_nm {cb : ByteArray → Bool} {fb : Int → Int → Int → ByteArray → Bool} {l : List Col} {next : Int} (h : RightP cb fb l next) {k : Nat} (hk : k < l.length) {nm to : ByteArray} (hnm : l[k]!.2.1 = nm) (hne : to ≠ nm) : findC (l.set k (renC l[k]! to)) nm = -1 := by
  rcases find_cases (l.set k (renC l[k]! to)) nm with ⟨hf, _⟩ | ⟨j, hj, _, he⟩
  · exact hf
  · rw [List.length_set] at hj
    rw [getElem!_set hk] at he
    by_cases e : j = k
    · rw [if_pos e] at he; exact (hne he).elim
    · rw [if_neg e, ← hnm] at he; exact ((apart_at h.2.2.2 hj hk e).2 he).elim
end Go.Proofs.YtfppidnfomelpaaGreatDoor

namespace Go.Proofs.YtfppidnfomelpaaGreatDoor
open Go

/-- A file of a table: its name, its rows, which are masked. -/
abbrev Ent := ByteArray × Int × List Int
/-- An action: kind, name, rows, mask, columns, next. -/
abbrev Actn := Int × ByteArray × Int × List Int × List Col × Int
/-- A commit: who, whether it reads, actions. -/
abbrev Com := ByteArray × Bool × List Actn
/-- A table. -/
structure Snap where
  ver : Int
  cols : List Col
  next : Int
  files : List Ent

def zeroS : Snap := ⟨0, [], 0, []⟩

def risesB (rows : Int) : Int → List Int → Bool
  | _, [] => true
  | last, x :: xs => !(decide (x ≤ last) || decide (rows ≤ x)) && risesB rows x xs
def risingB (l : List Int) (rows : Int) : Bool := decide (0 < l.length) && risesB rows (-1) l
def whereF (l : List Ent) (p : ByteArray) : Int := Lib.idxBy (fun _ y => y.1.toList == p.toList) l default
def anyB (l masked : List Int) : Bool := l.any (fun x => masked.any (fun y => x == y))
def sortR (l : List Int) : List Int := l.mergeSort fun x y => decide (x ≤ y)
def maskE (e : Ent) (m : List Int) : Ent := (e.1, e.2.1, sortR (e.2.2 ++ m))

section
variable (nb : ByteArray → Bool) (cb : ByteArray → Bool) (fb : Int → Int → Int → ByteArray → Bool)
def addOk (s : Snap) (a : Actn) : Prop := nb a.2.1 = true ∧ 1 ≤ a.2.2.1 ∧ a.2.2.1 ≤ 60 ∧ whereF s.files a.2.1 < 0 ∧ s.cols ≠ [] ∧ s.files.length < 40
def addS (s : Snap) (a : Actn) : Snap := ⟨s.ver, s.cols, s.next, s.files ++ [(a.2.1, a.2.2.1, [])]⟩
def remS (s : Snap) (a : Actn) : Snap := ⟨s.ver, s.cols, s.next, s.files.eraseIdx (whereF s.files a.2.1).toNat⟩
def mskOk (s : Snap) (a : Actn) : Prop := 0 ≤ whereF s.files a.2.1 ∧ risingB a.2.2.2.1 (s.files[(whereF s.files a.2.1).toNat]!).2.1 = true ∧ anyB a.2.2.2.1 (s.files[(whereF s.files a.2.1).toNat]!).2.2 = false
def mskS (s : Snap) (a : Actn) : Snap := ⟨s.ver, s.cols, s.next, s.files.set (whereF s.files a.2.1).toNat (maskE s.files[(whereF s.files a.2.1).toNat]! a.2.2.2.1)⟩
def schOk (s : Snap) (a : Actn) : Prop := RightP cb fb a.2.2.2.2.1 a.2.2.2.2.2 ∧ s.next ≤ a.2.2.2.2.2
def schS (s : Snap) (a : Actn) : Snap := ⟨s.ver, a.2.2.2.2.1, a.2.2.2.2.2, s.files⟩
/-- What an action does: it may be done, and that comes of it. -/
def Does (s : Snap) (a : Actn) (t : Snap) : Prop :=
  (a.1 = 1 ∧ addOk nb s a ∧ t = addS s a) ∨ (a.1 = 2 ∧ 0 ≤ whereF s.files a.2.1 ∧ t = remS s a) ∨ (a.1 = 3 ∧ mskOk s a ∧ t = mskS s a) ∨ (a.1 = 4 ∧ schOk cb fb s a ∧ t = schS s a)
/-- What actions do, one behind the other. -/
def Runs : Snap → List Actn → Snap → Prop
  | s, [], t => t = s
  | s, a :: l, t => ∃ u, Does nb cb fb s a u ∧ Runs u l t
def bump (s : Snap) : Snap := ⟨s.ver + 1, s.cols, s.next, s.files⟩
def Applies (s : Snap) (c : Com) (t : Snap) : Prop := nb c.1 = true ∧ Runs nb cb fb (bump s) c.2.2 t
end

section
variable {nb : ByteArray → Bool} {cb : ByteArray → Bool} {fb : Int → Int → Int → ByteArray → Bool}

theorem does_one {s t u : Snap} {a : Actn} (h : Does nb cb fb s a t) (k : Does nb cb fb s a u) : t = u := by
  unfold Does at h k
  rcases h with ⟨h1, _, rfl⟩ | ⟨h1, _, rfl⟩ | ⟨h1, _, rfl⟩ | ⟨h1, _, rfl⟩ <;> rcases k with ⟨k1, _, rfl⟩ | ⟨k1, _, rfl⟩ | ⟨k1, _, rfl⟩ | ⟨k1, _, rfl⟩ <;> first | rfl | (exfalso; omega)
theorem runs_one : ∀ {l : List Actn} {s t u : Snap}, Runs nb cb fb s l t → Runs nb cb fb s l u → t = u
  | [], _, _, _, h, k => by simp only [Runs] at h k; rw [h, k]
  | a :: l, s, t, u, h, k => by
    obtain ⟨x, h1, h2⟩ := h
    obtain ⟨y, k1, k2⟩ := k
    have := does_one h1 k1
    subst this
    exact runs_one h2 k2
theorem runs_app : ∀ {l m : List Actn} {s u t : Snap}, Runs nb cb fb s l u → Runs nb cb fb u m t → Runs nb cb fb s (l ++ m) t
  | [], _, _, _, _, h, k => by simp only [Runs] at h; subst h; exact k
  | a :: l, m, s, u, t, ⟨x, h1, h2⟩, k => ⟨x, h1, runs_app h2 k⟩
theorem runs_cut : ∀ {l m : List Actn} {s t : Snap}, Runs nb cb fb s (l ++ m) t → ∃ u, Runs nb cb fb s l u ∧ Runs nb cb fb u m t
  | [], _, s, _, h => ⟨s, rfl, h⟩
  | a :: l, m, s, t, ⟨x, h1, h2⟩ => by
    obtain ⟨u, k1, k2⟩ := runs_cut h2
    exact ⟨u, ⟨x, h1, k1⟩, k2⟩

/-! Where a file is. -/
theorem where_cases (l : List Ent) (nm : ByteArray) : (whereF l nm = -1 ∧ ∀ j, j < l.length → l[j]!.1 ≠ nm) ∨ ∃ k : Nat, k < l.length ∧ whereF l nm = k ∧ l[k]!.1 = nm ∧ ∀ j, j < k → l[j]!.1 ≠ nm := by
  by_cases h : ∃ k, k < l.length ∧ l[k]!.1 = nm
  · right
    let P : Nat → Prop := fun k => k < l.length ∧ l[k]!.1 = nm
    have key : ∀ n, (∃ k, k < n ∧ P k) → ∃ k, P k ∧ ∀ j, j < k → ¬ P j := by
      intro n
      induction n with
      | zero => rintro ⟨k, hk, _⟩; omega
      | succ n ih =>
        rintro ⟨k, hk, hp⟩
        by_cases hx : ∃ j, j < n ∧ P j
        · exact ih hx
        · refine ⟨k, hp, fun j hj hpj => hx ⟨j, by omega, hpj⟩⟩
    obtain ⟨k0, hk0⟩ := h
    obtain ⟨k, ⟨hk, hn⟩, hmin⟩ := key (k0 + 1) ⟨k0, by omega, hk0⟩
    have hmin' : ∀ j, j < k → l[j]!.1 ≠ nm := fun j hj e => hmin j hj ⟨by omega, e⟩
    refine ⟨k, hk, ?_, hn, hmin'⟩
    have := Lib.idxBy_hit (fun (_ : Ent) (y : Ent) => y.1.toList == nm.toList) l l.length k default hk (Nat.le_refl _) (by show (l[k]!.1.toList == nm.toList) = true; rw [hn]; exact beq_self_eq_true _) (fun j hj => beq_eq_false_iff_ne.2 (fun e => hmin' j hj (toList_inj e)))
    rw [List.take_length] at this
    exact this
  · left
    refine ⟨?_, fun j hj e => h ⟨j, hj, e⟩⟩
    have := Lib.idxBy_miss (fun (_ : Ent) (y : Ent) => y.1.toList == nm.toList) l l.length default (fun j hj => beq_eq_false_iff_ne.2 (fun e => h ⟨j, hj, toList_inj e⟩))
    rw [List.take_length] at this
    exact this

/-! A table as it should be. -/
def Rising (lo hi : Int) (l : List Int) : Prop := l.Pairwise (· < ·) ∧ ∀ x ∈ l, lo < x ∧ x < hi
theorem rises_iff (rows : Int) : ∀ (l : List Int) (last : Int), risesB rows last l = true ↔ Rising last rows l
  | [], last => by simp [risesB, Rising]
  | x :: xs, last => by
    have ih := rises_iff rows xs x
    simp only [risesB, Bool.and_eq_true, Bool.not_eq_true', Bool.or_eq_false_iff, decide_eq_false_iff_not, ih, Rising, List.pairwise_cons, List.mem_cons, forall_eq_or_imp]
    constructor
    · rintro ⟨⟨h1, h2⟩, h3, h4⟩
      exact ⟨⟨fun y hy => (h4 y hy).1, h3⟩, ⟨by omega, by omega⟩, fun y hy => ⟨by have := (h4 y hy).1; omega, (h4 y hy).2⟩⟩
    · rintro ⟨⟨h1, h2⟩, ⟨h3, h4⟩, h5⟩
      exact ⟨⟨by omega, by omega⟩, h2, fun y hy => ⟨h1 y hy, (h5 y hy).2⟩⟩
theorem rises_le (rows : Int) {l : List Int} {last : Int} (h : risesB rows last l = true) : (l.length : Int) ≤ max 0 (rows - last - 1) := by
  induction l generalizing last with
  | nil => simp; omega
  | cons x xs ih =>
    simp only [risesB, Bool.and_eq_true, Bool.not_eq_true', Bool.or_eq_false_iff, decide_eq_false_iff_not] at h
    have := ih h.2
    simp only [List.length_cons]
    omega

theorem sortR_perm (l : List Int) : (sortR l).Perm l := List.mergeSort_perm l _
theorem sortR_len (l : List Int) : (sortR l).length = l.length := (sortR_perm l).length_eq
theorem sortR_sorted (l : List Int) : (sortR l).Pairwise (· ≤ ·) := by
  have := List.pairwise_mergeSort (le := fun (x y : Int) => decide (x ≤ y)) (fun a b c h1 h2 => by simp at *; omega) (fun a b => by simp; omega) l
  exact this.imp (fun h => by simpa using h)
theorem sortR_rising {lo hi : Int} {a b : List Int} (ha : Rising lo hi a) (hb : Rising lo hi b) (hd : anyB b a = false) : Rising lo hi (sortR (a ++ b)) := by
  have hp := sortR_perm (a ++ b)
  have hn : (sortR (a ++ b)).Nodup := by
    rw [hp.nodup_iff, List.nodup_append]
    refine ⟨ha.1.imp (fun h e => by omega), hb.1.imp (fun h e => by omega), ?_⟩
    intro x hx y hy e
    subst e
    have := List.any_eq_false.1 hd x hy
    simp at this
    exact this hx
  refine ⟨?_, ?_⟩
  · exact ((sortR_sorted (a ++ b)).and hn).imp (fun h => by have h1 := h.1; have h2 := h.2; omega)
  · intro x hx
    rcases List.mem_append.1 (hp.mem_iff.1 hx) with h | h
    · exact ha.2 x h
    · exact hb.2 x h

/-- A table that may be. -/
structure Good (cb : ByteArray → Bool) (fb : Int → Int → Int → ByteArray → Bool) (s : Snap) : Prop where
  few : s.files.length ≤ 40
  cols : s.cols = [] ∨ RightP cb fb s.cols s.next
  once : (s.files.map (·.1)).Nodup
  masks : ∀ e ∈ s.files, Rising (-1) e.2.1 e.2.2
  rows : ∀ e ∈ s.files, e.2.1 ≤ 60
theorem good_zero : Good cb fb zeroS := ⟨by simp [zeroS], .inl rfl, by simp [zeroS], by simp [zeroS], by simp [zeroS]⟩
theorem mem_ent {l : List Ent} {j : Nat} (h : j < l.length) : l[j]! ∈ l := by
  rw [getElem!_pos l j h]; exact List.getElem_mem h
theorem set_names {l : List Ent} {k : Nat} (hk : k < l.length) {e : Ent} (he : e.1 = l[k]!.1) : (l.set k e).map (·.1) = l.map (·.1) := by
  rw [List.map_set, he, getElem!_pos l k hk]
  apply List.ext_getElem
  · simp
  · intro i h1 h2
    rw [List.getElem_set]
    split
    · rename_i hh; subst hh; simp
    · rfl
theorem does_good {s t : Snap} {a : Actn} (h : Does nb cb fb s a t) (g : Good cb fb s) : Good cb fb t := by
  rcases h with ⟨_, ⟨_, h1, h2, hw, _, h40⟩, rfl⟩ | ⟨_, hw, rfl⟩ | ⟨_, ⟨hw, hr, ha⟩, rfl⟩ | ⟨_, ⟨hr, _⟩, rfl⟩
  · refine ⟨by simp [addS]; omega, g.cols, ?_, ?_, ?_⟩
    · simp only [addS, List.map_append, List.map_cons, List.map_nil]
      rw [List.nodup_append]
      refine ⟨g.once, by simp, ?_⟩
      intro x hx y hy e
      simp at hy
      subst e; subst hy
      rcases where_cases s.files a.2.1 with ⟨_, hn⟩ | ⟨k, hk, hf, _⟩
      · obtain ⟨e, he, e1⟩ := List.mem_map.1 hx
        obtain ⟨j, hj, rfl⟩ := List.getElem_of_mem he
        have := hn j hj
        rw [getElem!_pos s.files j hj] at this
        exact this e1
      · omega
    · intro e he
      rcases List.mem_append.1 he with he | he
      · exact g.masks e he
      · simp at he; subst he; exact ⟨List.Pairwise.nil, by simp⟩
    · intro e he
      rcases List.mem_append.1 he with he | he
      · exact g.rows e he
      · simp at he; subst he; exact h2
  · refine ⟨?_, g.cols, ?_, ?_, fun e he => g.rows e (List.mem_of_mem_eraseIdx he)⟩
    · have := g.few
      have := (List.eraseIdx_sublist s.files (whereF s.files a.2.1).toNat).length_le
      simp only [remS]; omega
    · exact (g.once).sublist ((List.eraseIdx_sublist _ _).map _)
    · exact fun e he => g.masks e (List.mem_of_mem_eraseIdx he)
  · rcases where_cases s.files a.2.1 with ⟨h0, _⟩ | ⟨k, hk, hf, _⟩
    · omega
    · have e0 : (whereF s.files a.2.1).toNat = k := by omega
      rw [e0] at hr ha
      unfold mskS
      rw [e0]
      refine ⟨by simpa using g.few, g.cols, ?_, ?_, ?_⟩
      · simp only
        rw [set_names hk (by rfl)]
        exact g.once
      · intro e he
        rcases List.mem_or_eq_of_mem_set he with he | rfl
        · exact g.masks e he
        · have h1 := g.masks _ (mem_ent hk)
          simp only [risingB, Bool.and_eq_true] at hr
          exact sortR_rising h1 ((rises_iff _ _ _).1 hr.2) ha
      · intro e he
        rcases List.mem_or_eq_of_mem_set he with he | rfl
        · exact g.rows e he
        · exact g.rows s.files[k]! (mem_ent hk)
  · exact ⟨g.few, .inr hr, g.once, g.masks, g.rows⟩
theorem runs_good : ∀ {l : List Actn} {s t : Snap}, Runs nb cb fb s l t → Good cb fb s → Good cb fb t
  | [], _, _, h, g => by simp only [Runs] at h; subst h; exact g
  | a :: l, s, t, ⟨u, h1, h2⟩, g => runs_good h2 (does_good h1 g)
theorem applies_good {s t : Snap} {c : Com} (h : Applies nb cb fb s c t) (g : Good cb fb s) : Good cb fb t := runs_good h.2 ⟨g.few, g.cols, g.once, g.masks, g.rows⟩
theorem does_ver {s t : Snap} {a : Actn} (h : Does nb cb fb s a t) : t.ver = s.ver := by
  rcases h with ⟨_, _, rfl⟩ | ⟨_, _, rfl⟩ | ⟨_, _, rfl⟩ | ⟨_, _, rfl⟩ <;> rfl
theorem runs_ver : ∀ {l : List Actn} {s t : Snap}, Runs nb cb fb s l t → t.ver = s.ver
  | [], _, _, h => by simp only [Runs] at h; rw [h]
  | a :: l, s, t, ⟨u, h1, h2⟩ => (runs_ver h2).trans (does_ver h1)
theorem applies_ver {s t : Snap} {c : Com} (h : Applies nb cb fb s c t) : t.ver = s.ver + 1 := runs_ver h.2
theorem good_mask_len {s : Snap} (g : Good cb fb s) {e : Ent} (he : e ∈ s.files) : e.2.2.length ≤ 60 := by
  have h60 := g.rows e he
  have := rises_le e.2.1 ((rises_iff _ _ _).2 (g.masks e he))
  omega
end
end Go.Proofs.YtfppidnfomelpaaGreatDoor
