/- A condition written as tokens is read as it was; what is read costs no more tokens, and goes no deeper, when it is written. -/
import Derived.Test.YtfokdpddcgaafaaGreatDoorKA
namespace Go.Proofs.YtfokdpddcgaafaaGreatDoor.Ask
open Go.Lib

def clo : Tr → Nat
  | .bi true _ _ => 0
  | .bi false _ _ => 1
  | _ => 2
def tO : Tok := tM [40] 0
def tC : Tok := tM [41] 0
def par (k : Nat) (T : Tr) (l : List Tok) : List Tok := if clo T < k then tO :: (l ++ [tC]) else l
def dpar (k : Nat) (T : Tr) (n : Nat) : Nat := if clo T < k then n + 1 else n
def mk (c : Nat) : List UInt8 := match c with
  | 1 => [61]
  | 2 => [60, 62]
  | 3 => [60]
  | 4 => [60, 61]
  | 5 => [62]
  | 6 => [62, 61]
  | _ => []
section
variable (dc : Int → List UInt8)
def vt : Vl → Tok
  | .null => tW wNull
  | .num n => ⟨2, dc n, 0⟩
  | .text l => ⟨3, l, 0⟩
def wt : Tr → List Tok
  | .cmp c col v => [tW col, tM (mk c) c, vt dc v]
  | .isn false col => [tW col, tW wIs, tW wNull]
  | .isn true col => [tW col, tW wIs, tW wNot, tW wNull]
  | .no x => tW wNot :: par 2 x (wt x)
  | .bi true x y => par 0 x (wt x) ++ tW wOr :: par 1 y (wt y)
  | .bi false x y => par 1 x (wt x) ++ tW wAnd :: par 2 y (wt y)
end
def dw : Tr → Nat
  | .cmp _ _ _ => 0
  | .isn _ _ => 0
  | .no x => 1 + dpar 2 x (dw x)
  | .bi true x y => max (dpar 0 x (dw x)) (dpar 1 y (dw y))
  | .bi false x y => max (dpar 1 x (dw x)) (dpar 2 y (dw y))
def VV (rt : List UInt8 → Bool) (okn : Int → Prop) : Vl → Prop
  | .null => True
  | .num n => okn n
  | .text l => rt l = true
def VT (nm rt : List UInt8 → Bool) (okn : Int → Prop) : Tr → Prop
  | .cmp c col v => (1 ≤ c ∧ c ≤ 6) ∧ nm col = true ∧ VV rt okn v
  | .isn _ col => nm col = true
  | .no x => VT nm rt okn x
  | .bi _ x y => VT nm rt okn x ∧ VT nm rt okn y

section
variable {nm rt : List UInt8 → Bool} {okn : Int → Prop} {dc : Int → List UInt8}
theorem and_or (r : List Tok) : hdT 1 wAnd (tW wOr :: r) = false := by
  show (decide ((1 : Nat) = 1) && decide (wOr = wAnd)) = false
  simp [wOr, wAnd]
/-- Names are none of the words. -/
def NN (nm : List UInt8 → Bool) : Prop := nm wNot = false
theorem leaf_back (hN : NN nm) (hD : ∀ n, okn n → numT (dc n) = some n) (d : Nat) (hd : d ≤ 6) (T : Tr) (hL : clo T = 2) (hno : ∀ x, T ≠ .no x) (hV : VT nm rt okn T) (rest : List Tok) : PR nm rt .one d (wt dc T ++ rest) (some (T, rest)) := by
  have key : hdT 1 wNot (wt dc T ++ rest) = false ∧ hdT 4 [40] (wt dc T ++ rest) = false ∧ leafP nm rt (wt dc T ++ rest) = some (T, rest) := by
    cases T with
    | cmp c col v =>
      obtain ⟨⟨hc1, hc6⟩, hn, hv⟩ := hV
      have h1 : isT 1 wNot (tW col) = false := by
        have : col ≠ wNot := fun h => by rw [h, show nm wNot = false from hN] at hn; cases hn
        simp [isT, tW, this]
      refine ⟨h1, isT_wm _ _, ?_⟩
      have hi : isT 1 wIs (tM (mk c) c) = false := by simp [isT, tM]
      have hc0 : (tM (mk c) c).code ≠ 0 := by show c ≠ 0; omega
      show leafP nm rt (tW col :: tM (mk c) c :: vt dc v :: rest) = _
      simp only [leafP]
      rw [if_pos (⟨rfl, hn⟩ : (tW col).kind = 1 ∧ nm (tW col).text = true)]
      simp only [leaf2, hi]
      rw [if_neg (by simp), if_pos hc0]
      cases v with
      | null => simp only [valP]; rw [if_pos (show isT 1 wNull (vt dc .null) = true from isT_w _)]; rfl
      | num n =>
        simp only [valP]
        rw [if_neg (by simp [isT, vt]), if_neg (by simp [vt]), if_pos (by rfl)]
        show (numT (dc n)).map _ = _
        rw [hD n hv]; rfl
      | text l =>
        simp only [valP]
        rw [if_neg (by simp [isT, vt]), if_pos (by rfl)]
        show (if rt l = true then _ else _) = _
        rw [if_pos (show rt l = true from hv)]; rfl
    | isn b col =>
      have hn : nm col = true := hV
      have h1 : isT 1 wNot (tW col) = false := by
        have : col ≠ wNot := fun h => by rw [h, show nm wNot = false from hN] at hn; cases hn
        simp [isT, tW, this]
      cases b with
      | false =>
        refine ⟨h1, isT_wm _ _, ?_⟩
        show leafP nm rt (tW col :: tW wIs :: tW wNull :: rest) = _
        simp only [leafP]
        rw [if_pos (⟨rfl, hn⟩ : (tW col).kind = 1 ∧ nm (tW col).text = true)]
        simp only [leaf2]
        rw [if_pos (isT_w wIs)]
        simp only [leaf3]
        rw [if_neg (by simp [isT, tW, wNull, wNot])]
        simp only [needNull]
        rw [if_pos (isT_w wNull)]; rfl
      | true =>
        refine ⟨h1, isT_wm _ _, ?_⟩
        show leafP nm rt (tW col :: tW wIs :: tW wNot :: tW wNull :: rest) = _
        simp only [leafP]
        rw [if_pos (⟨rfl, hn⟩ : (tW col).kind = 1 ∧ nm (tW col).text = true)]
        simp only [leaf2]
        rw [if_pos (isT_w wIs)]
        simp only [leaf3]
        rw [if_pos (isT_w wNot)]
        simp only [needNull]
        rw [if_pos (isT_w wNull)]; rfl
    | no x => exact absurd rfl (hno x)
    | bi b x y => cases b <;> cases hL
  exact key.2.2 ▸ PR.one_leaf hd key.1 key.2.1

/-- What is read of what is written: as one, as all, as a whole. -/
def BkA (nm rt : List UInt8 → Bool) (dc : Int → List UInt8) (T : Tr) : Prop := ∀ d rest, d + dpar 2 T (dw T) ≤ 6 → PR nm rt .one d (par 2 T (wt dc T) ++ rest) (some (T, rest))
def BkB (nm rt : List UInt8 → Bool) (dc : Int → List UInt8) (T : Tr) : Prop := ∀ d rest o, d + dpar 1 T (dw T) ≤ 6 → PR nm rt (.allL T) d rest o → PR nm rt .all d (par 1 T (wt dc T) ++ rest) o
def BkC (nm rt : List UInt8 → Bool) (dc : Int → List UInt8) (T : Tr) : Prop := ∀ d rest o, d + dw T ≤ 6 → hdT 1 wAnd rest = false → PR nm rt (.condL T) d rest o → PR nm rt .cond d (wt dc T ++ rest) o
theorem b_of_a {T : Tr} (hc : clo T ≠ 1) (h : BkA nm rt dc T) : BkB nm rt dc T := by
  intro d rest o hd ho
  have e : dpar 1 T (dw T) = dpar 2 T (dw T) := by unfold dpar; split <;> split <;> omega
  have e' : par 1 T (wt dc T) = par 2 T (wt dc T) := by
    unfold par; split <;> split <;> first | rfl | omega
  rw [e']; exact PR.all_go (h d rest (e ▸ hd)) ho
theorem clo2 (T : Tr) : clo T ≤ 2 := by
  cases T with
  | bi b _ _ => cases b <;> simp [clo]
  | _ => simp [clo]
theorem c_of_b {T : Tr} (hc : clo T ≠ 0) (h : BkB nm rt dc T) : BkC nm rt dc T := by
  intro d rest o hd ha ho
  have e : dpar 1 T (dw T) = dw T := by unfold dpar; split <;> omega
  have e' : par 1 T (wt dc T) = wt dc T := by
    unfold par; split <;> first | rfl | omega
  have := h d rest _ (e.symm ▸ hd) (PR.allL_end ha)
  rw [e'] at this
  exact PR.cond_go this ho
theorem a_of_c {T : Tr} (hc : clo T ≠ 2) (h : BkC nm rt dc T) : BkA nm rt dc T := by
  intro d rest hd
  have hl : clo T < 2 := by have := clo2 T; omega
  simp only [dpar, if_pos hl] at hd
  simp only [par, if_pos hl, List.cons_append, List.append_assoc]
  exact PR.one_par (by omega) (by simp [isT, tO, tM]) (by simp [isT, tO, tM]) (h (d + 1) (tC :: rest) _ (by omega) (by simp [hdT, isT, tC, tM]) (PR.condL_end (by simp [hdT, isT, tC, tM]))) (by simp [isT, tC, tM])
theorem back (hN : NN nm) (hD : ∀ n, okn n → numT (dc n) = some n) (T : Tr) : VT nm rt okn T → BkA nm rt dc T ∧ BkB nm rt dc T ∧ BkC nm rt dc T := by
  have flat : ∀ T, clo T = 2 → BkA nm rt dc T → BkA nm rt dc T ∧ BkB nm rt dc T ∧ BkC nm rt dc T := fun T h a =>
    have b := b_of_a (by omega) a
    ⟨a, b, c_of_b (by omega) b⟩
  induction T with
  | cmp c col v =>
    intro hV
    exact flat _ rfl fun d rest hd => leaf_back hN hD d (by simp [dpar, clo, dw] at hd; exact hd) _ rfl (fun x h => by cases h) hV rest
  | isn b col =>
    intro hV
    exact flat _ rfl fun d rest hd => leaf_back hN hD d (by simp [dpar, clo, dw] at hd; exact hd) _ rfl (fun x h => by cases h) hV rest
  | no x ih =>
    intro hV
    obtain ⟨a, _, _⟩ := ih hV
    refine flat _ rfl fun d rest hd => ?_
    have hd' : d + (1 + dpar 2 x (dw x)) ≤ 6 := hd
    show PR nm rt .one d (tW wNot :: (par 2 x (wt dc x) ++ rest)) _
    exact PR.one_not (by omega) (isT_w wNot) (a (d + 1) rest (by omega))
  | bi b x y ihx ihy =>
    intro hV
    obtain ⟨ax, bx, cx⟩ := ihx hV.1
    obtain ⟨ay, by', cy⟩ := ihy hV.2
    cases b with
    | true =>
      have c : BkC nm rt dc (.bi true x y) := by
        intro d rest o hd ha ho
        have hd' : d + max (dpar 0 x (dw x)) (dpar 1 y (dw y)) ≤ 6 := hd
        have e0 : dpar 0 x (dw x) = dw x := by simp [dpar]
        have e1 : par 0 x (wt dc x) = wt dc x := by simp [par]
        show PR nm rt .cond d ((par 0 x (wt dc x) ++ tW wOr :: par 1 y (wt dc y)) ++ rest) o
        rw [e1, List.append_assoc, List.cons_append]
        exact cx d _ o (by omega) (and_or _) (PR.condL_go (isT_w wOr) (by' d rest _ (by omega) (PR.allL_end ha)) ho)
      have a := a_of_c (T := .bi true x y) (by simp [clo]) c
      exact ⟨a, b_of_a (by simp [clo]) a, c⟩
    | false =>
      have b : BkB nm rt dc (.bi false x y) := by
        intro d rest o hd ho
        have hd' : d + max (dpar 1 x (dw x)) (dpar 2 y (dw y)) ≤ 6 := hd
        show PR nm rt .all d ((par 1 x (wt dc x) ++ tW wAnd :: par 2 y (wt dc y)) ++ rest) o
        rw [List.append_assoc, List.cons_append]
        exact bx d _ o (by omega) (PR.allL_go (isT_w wAnd) (ay d rest (by omega)) ho)
      have c := c_of_b (T := .bi false x y) (by simp [clo]) b
      exact ⟨a_of_c (by simp [clo]) c, b, c⟩
end
end Go.Proofs.YtfokdpddcgaafaaGreatDoor.Ask
