/- How a condition is read out of tokens, and written as tokens: plain mathematics. -/
import Derived.Test.YtfokdpddcgaafaaGreatDoorRM
namespace Go.Proofs.YtfokdpddcgaafaaGreatDoor.Ask
open Go.Lib

structure Tok where
  kind : Nat
  text : List UInt8
  code : Nat
inductive Vl where
  | null : Vl
  | num : Int → Vl
  | text : List UInt8 → Vl
inductive Tr where
  | cmp : Nat → List UInt8 → Vl → Tr
  | isn : Bool → List UInt8 → Tr
  | no : Tr → Tr
  | bi : Bool → Tr → Tr → Tr
def wOr : List UInt8 := [111, 114]
def wAnd : List UInt8 := [97, 110, 100]
def wNot : List UInt8 := [110, 111, 116]
def wIs : List UInt8 := [105, 115]
def wNull : List UInt8 := [110, 117, 108, 108]
def tW (l : List UInt8) : Tok := ⟨1, l, 0⟩
def tM (l : List UInt8) (c : Nat) : Tok := ⟨4, l, c⟩
def isT (k : Nat) (w : List UInt8) (t : Tok) : Bool := decide (t.kind = k) && decide (t.text = w)
def hdT (k : Nat) (w : List UInt8) : List Tok → Bool
  | [] => false
  | t :: _ => isT k w t
theorem isT_w (w : List UInt8) : isT 1 w (tW w) = true := by simp [isT, tW]
theorem isT_wm (w w' : List UInt8) : isT 4 w' (tW w) = false := by simp [isT, tW]
def numT (l : List UInt8) : Option Int := match atoiAll l with
  | .ok v => some v
  | _ => none
section
variable (nm rt : List UInt8 → Bool)
def needNull (x : Tr) : List Tok → Option (Tr × List Tok)
  | [] => none
  | v :: r => if isT 1 wNull v then some (x, r) else none
def valP (k : Vl → Tr) : List Tok → Option (Tr × List Tok)
  | [] => none
  | v :: r => if isT 1 wNull v then some (k .null, r) else if v.kind = 3 then (if rt v.text then some (k (.text v.text), r) else none) else if v.kind = 2 then (numT v.text).map fun n => (k (.num n), r) else none
def leaf3 (col : List UInt8) : List Tok → Option (Tr × List Tok)
  | [] => none
  | v :: r => if isT 1 wNot v then needNull (.isn true col) r else needNull (.isn false col) (v :: r)
def leaf2 (col : List UInt8) : List Tok → Option (Tr × List Tok)
  | [] => none
  | u :: r => if isT 1 wIs u then leaf3 col r else if u.code ≠ 0 then valP rt (.cmp u.code col) r else none
def leafP : List Tok → Option (Tr × List Tok)
  | [] => none
  | t :: r => if t.kind = 1 ∧ nm t.text = true then leaf2 rt t.text r else none
inductive Md where
  | cond : Md
  | all : Md
  | one : Md
  | condL : Tr → Md
  | allL : Tr → Md
/-- What comes of reading: a condition and what is left, or nothing (it is thrown). -/
inductive PR : Md → Nat → List Tok → Option (Tr × List Tok) → Prop
  | cond_no {d : Nat} {ts : List Tok} : PR .all d ts none → PR .cond d ts none
  | cond_go {d : Nat} {ts r : List Tok} {c : Tr} {o : Option (Tr × List Tok)} : PR .all d ts (some (c, r)) → PR (.condL c) d r o → PR .cond d ts o
  | condL_end {d : Nat} {ts : List Tok} {c : Tr} : hdT 1 wOr ts = false → PR (.condL c) d ts (some (c, ts))
  | condL_no {d : Nat} {t : Tok} {r : List Tok} {c : Tr} : isT 1 wOr t = true → PR .all d r none → PR (.condL c) d (t :: r) none
  | condL_go {d : Nat} {t : Tok} {r r2 : List Tok} {c x : Tr} {o : Option (Tr × List Tok)} : isT 1 wOr t = true → PR .all d r (some (x, r2)) → PR (.condL (.bi true c x)) d r2 o → PR (.condL c) d (t :: r) o
  | all_no {d : Nat} {ts : List Tok} : PR .one d ts none → PR .all d ts none
  | all_go {d : Nat} {ts r : List Tok} {c : Tr} {o : Option (Tr × List Tok)} : PR .one d ts (some (c, r)) → PR (.allL c) d r o → PR .all d ts o
  | allL_end {d : Nat} {ts : List Tok} {c : Tr} : hdT 1 wAnd ts = false → PR (.allL c) d ts (some (c, ts))
  | allL_no {d : Nat} {t : Tok} {r : List Tok} {c : Tr} : isT 1 wAnd t = true → PR .one d r none → PR (.allL c) d (t :: r) none
  | allL_go {d : Nat} {t : Tok} {r r2 : List Tok} {c x : Tr} {o : Option (Tr × List Tok)} : isT 1 wAnd t = true → PR .one d r (some (x, r2)) → PR (.allL (.bi false c x)) d r2 o → PR (.allL c) d (t :: r) o
  | one_deep {d : Nat} {ts : List Tok} : 6 < d → PR .one d ts none
  | one_not_no {d : Nat} {t : Tok} {r : List Tok} : d ≤ 6 → isT 1 wNot t = true → PR .one (d + 1) r none → PR .one d (t :: r) none
  | one_not {d : Nat} {t : Tok} {r r2 : List Tok} {x : Tr} : d ≤ 6 → isT 1 wNot t = true → PR .one (d + 1) r (some (x, r2)) → PR .one d (t :: r) (some (.no x, r2))
  | one_par_no {d : Nat} {t : Tok} {r : List Tok} : d ≤ 6 → isT 1 wNot t = false → isT 4 [40] t = true → PR .cond (d + 1) r none → PR .one d (t :: r) none
  | one_par_bad {d : Nat} {t : Tok} {r r2 : List Tok} {x : Tr} : d ≤ 6 → isT 1 wNot t = false → isT 4 [40] t = true → PR .cond (d + 1) r (some (x, r2)) → hdT 4 [41] r2 = false → PR .one d (t :: r) none
  | one_par {d : Nat} {t u : Tok} {r r2 : List Tok} {x : Tr} : d ≤ 6 → isT 1 wNot t = false → isT 4 [40] t = true → PR .cond (d + 1) r (some (x, u :: r2)) → isT 4 [41] u = true → PR .one d (t :: r) (some (x, r2))
  | one_leaf {d : Nat} {ts : List Tok} : d ≤ 6 → hdT 1 wNot ts = false → hdT 4 [40] ts = false → PR .one d ts (leafP nm rt ts)
end
section
variable {nm rt : List UInt8 → Bool}
theorem pr_one {m : Md} {d : Nat} {ts : List Tok} {o : Option (Tr × List Tok)} (h : PR nm rt m d ts o) : ∀ o', PR nm rt m d ts o' → o = o' := by
  induction h with
  | cond_no _ ih =>
    intro o' h'
    cases h' with
    | cond_no _ => rfl
    | cond_go h1 _ => cases ih _ h1
  | cond_go _ _ ih1 ih2 =>
    intro o' h'
    cases h' with
    | cond_no h1 => cases ih1 _ h1
    | cond_go h1 h2 => cases ih1 _ h1; exact ih2 _ h2
  | condL_end h =>
    intro o' h'
    cases h' with
    | condL_end _ => rfl
    | condL_no h1 _ => rw [hdT, h1] at h; cases h
    | condL_go h1 _ _ => rw [hdT, h1] at h; cases h
  | condL_no h _ ih =>
    intro o' h'
    cases h' with
    | condL_end h1 => rw [hdT, h] at h1; cases h1
    | condL_no _ _ => rfl
    | condL_go _ h2 _ => cases ih _ h2
  | condL_go h _ _ ih1 ih2 =>
    intro o' h'
    cases h' with
    | condL_end h1 => rw [hdT, h] at h1; cases h1
    | condL_no _ h2 => cases ih1 _ h2
    | condL_go _ h2 h3 => cases ih1 _ h2; exact ih2 _ h3
  | all_no _ ih =>
    intro o' h'
    cases h' with
    | all_no _ => rfl
    | all_go h1 _ => cases ih _ h1
  | all_go _ _ ih1 ih2 =>
    intro o' h'
    cases h' with
    | all_no h1 => cases ih1 _ h1
    | all_go h1 h2 => cases ih1 _ h1; exact ih2 _ h2
  | allL_end h =>
    intro o' h'
    cases h' with
    | allL_end _ => rfl
    | allL_no h1 _ => rw [hdT, h1] at h; cases h
    | allL_go h1 _ _ => rw [hdT, h1] at h; cases h
  | allL_no h _ ih =>
    intro o' h'
    cases h' with
    | allL_end h1 => rw [hdT, h] at h1; cases h1
    | allL_no _ _ => rfl
    | allL_go _ h2 _ => cases ih _ h2
  | allL_go h _ _ ih1 ih2 =>
    intro o' h'
    cases h' with
    | allL_end h1 => rw [hdT, h] at h1; cases h1
    | allL_no _ h2 => cases ih1 _ h2
    | allL_go _ h2 h3 => cases ih1 _ h2; exact ih2 _ h3
  | one_deep h =>
    intro o' h'
    cases h' with
    | one_deep _ => rfl
    | one_not_no h1 _ _ => omega
    | one_not h1 _ _ => omega
    | one_par_no h1 _ _ _ => omega
    | one_par_bad h1 _ _ _ _ => omega
    | one_par h1 _ _ _ _ => omega
    | one_leaf h1 _ _ => omega
  | one_not_no h hn _ ih =>
    intro o' h'
    cases h' with
    | one_deep h1 => rfl
    | one_not_no _ _ _ => rfl
    | one_not _ _ h2 => cases ih _ h2
    | one_par_no _ h2 _ _ => rfl
    | one_par_bad _ h2 _ _ _ => rfl
    | one_par _ h2 _ _ _ => rw [hn] at h2; cases h2
    | one_leaf _ h2 _ => rw [hdT, hn] at h2; cases h2
  | one_not h hn _ ih =>
    intro o' h'
    cases h' with
    | one_deep h1 => omega
    | one_not_no _ _ h2 => cases ih _ h2
    | one_not _ _ h2 => cases ih _ h2; rfl
    | one_par_no _ h2 _ _ => rw [hn] at h2; cases h2
    | one_par_bad _ h2 _ _ _ => rw [hn] at h2; cases h2
    | one_par _ h2 _ _ _ => rw [hn] at h2; cases h2
    | one_leaf _ h2 _ => rw [hdT, hn] at h2; cases h2
  | one_par_no h hn hp _ ih =>
    intro o' h'
    cases h' with
    | one_deep _ => rfl
    | one_not_no _ _ _ => rfl
    | one_not _ h2 _ => rw [hn] at h2; cases h2
    | one_par_no _ _ _ _ => rfl
    | one_par_bad _ _ _ _ _ => rfl
    | one_par _ _ _ h2 _ => cases ih _ h2
    | one_leaf _ _ h2 => rw [hdT, hp] at h2; cases h2
  | one_par_bad h hn hp _ hc ih =>
    intro o' h'
    cases h' with
    | one_deep _ => rfl
    | one_not_no _ _ _ => rfl
    | one_not _ h2 _ => rw [hn] at h2; cases h2
    | one_par_no _ _ _ _ => rfl
    | one_par_bad _ _ _ _ _ => rfl
    | one_par _ _ _ h2 h3 => cases ih _ h2; rw [hdT, h3] at hc; cases hc
    | one_leaf _ _ h2 => rw [hdT, hp] at h2; cases h2
  | one_par h hn hp _ hc ih =>
    intro o' h'
    cases h' with
    | one_deep h1 => omega
    | one_not_no _ h2 _ => rw [hn] at h2; cases h2
    | one_not _ h2 _ => rw [hn] at h2; cases h2
    | one_par_no _ _ _ h2 => cases ih _ h2
    | one_par_bad _ _ _ h2 h3 => cases ih _ h2; rw [hdT, hc] at h3; cases h3
    | one_par _ _ _ h2 _ => cases ih _ h2; rfl
    | one_leaf _ _ h2 => rw [hdT, hp] at h2; cases h2
  | one_leaf h hn hp =>
    intro o' h'
    cases h' with
    | one_deep h1 => omega
    | one_not_no _ h2 _ => rw [hdT, h2] at hn; cases hn
    | one_not _ h2 _ => rw [hdT, h2] at hn; cases hn
    | one_par_no _ _ h2 _ => rw [hdT, h2] at hp; cases hp
    | one_par_bad _ _ h2 _ _ => rw [hdT, h2] at hp; cases hp
    | one_par _ _ h2 _ _ => rw [hdT, h2] at hp; cases hp
    | one_leaf _ _ _ => rfl
end
end Go.Proofs.YtfokdpddcgaafaaGreatDoor.Ask
