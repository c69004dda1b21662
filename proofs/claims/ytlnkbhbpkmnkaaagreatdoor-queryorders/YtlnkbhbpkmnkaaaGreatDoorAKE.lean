/- How many bytes a text begins with that are so: what the library's runes come to. -/
import Derived.Test.YtlnkbhbpkmnkaaaGreatDoorKC
import Derived.Shelf.GgClosure.StringsTrimFunc
namespace Go.Proofs.YtlnkbhbpkmnkaaaGreatDoor.Ask
open Go.Lib
def isSm (b : UInt8) : Bool := decide (97 ≤ b.toNat) && decide (b.toNat ≤ 122)
def isDg (b : UInt8) : Bool := decide (48 ≤ b.toNat) && decide (b.toNat ≤ 57)
def isWc (b : UInt8) : Bool := isSm b || isDg b || decide (b.toNat = 95)
def isBl (b : UInt8) : Bool := decide (b.toNat = 32)
def notQ (b : UInt8) : Bool := !decide (b = 39)
def dropB (s : List UInt8) : List UInt8 := s.dropWhile isBl
def markF : List UInt8 → Option (Tok × List UInt8)
  | 60 :: 62 :: r => some (tM [60, 62] 2, r)
  | 60 :: 61 :: r => some (tM [60, 61] 4, r)
  | 62 :: 61 :: r => some (tM [62, 61] 6, r)
  | 61 :: r => some (tM [61] 1, r)
  | 60 :: r => some (tM [60] 3, r)
  | 62 :: r => some (tM [62] 5, r)
  | 40 :: r => some (tM [40] 0, r)
  | 41 :: r => some (tM [41] 0, r)
  | 44 :: r => some (tM [44] 0, r)
  | 42 :: r => some (tM [42] 0, r)
  | _ => none
def first1 : List UInt8 → Option (Tok × List UInt8)
  | [] => none
  | b :: r =>
    if isSm b = true then some (⟨1, b :: r.takeWhile isWc, 0⟩, r.dropWhile isWc)
    else if isDg b = true then some (⟨2, b :: r.takeWhile isDg, 0⟩, r.dropWhile isDg)
    else if b = 45 ∧ r.takeWhile isDg ≠ [] then some (⟨2, b :: r.takeWhile isDg, 0⟩, r.dropWhile isDg)
    else if b = 39 ∧ (39 : UInt8) ∈ r then some (⟨3, r.takeWhile notQ, 0⟩, (r.dropWhile notQ).drop 1)
    else markF (b :: r)
/-- The tokens of a text behind so many others (none: something is thrown). -/
inductive TS : Nat → List UInt8 → Option (List Tok) → Prop
  | fin {k : Nat} {s : List UInt8} : dropB s = [] → TS k s (some [])
  | bad {k : Nat} {s : List UInt8} : dropB s ≠ [] → first1 (dropB s) = none → TS k s none
  | many {k : Nat} {s : List UInt8} {t : Tok} {r : List UInt8} : first1 (dropB s) = some (t, r) → k = 80 → TS k s none
  | go {k : Nat} {s : List UInt8} {t : Tok} {r : List UInt8} {o : Option (List Tok)} : first1 (dropB s) = some (t, r) → k ≠ 80 → TS (k + 1) r o → TS k s (o.map (t :: ·))
theorem drop_le {α : Type} (p : α → Bool) (l : List α) : (l.dropWhile p).length ≤ l.length := by
  induction l with
  | nil => simp
  | cons a l ih => rw [List.dropWhile_cons]; split <;> simp <;> omega
theorem mark_le {s : List UInt8} {t : Tok} {r : List UInt8} (h : markF s = some (t, r)) : r.length < s.length ∧ t.code ≤ 6 := by
  unfold markF at h
  split at h <;> first
    | (cases h; constructor <;> simp [tM] <;> omega)
    | cases h
theorem first_le {s : List UInt8} {t : Tok} {r : List UInt8} (h : first1 s = some (t, r)) : r.length < s.length ∧ t.code ≤ 6 := by
  cases s with
  | nil => cases h
  | cons b s =>
    simp only [first1] at h
    have h1 := drop_le isWc s
    have h2 := drop_le isDg s
    have h3 := drop_le notQ s
    split at h
    · cases h; exact ⟨by simp only [List.length_cons]; omega, by simp⟩
    · split at h
      · cases h; exact ⟨by simp only [List.length_cons]; omega, by simp⟩
      · split at h
        · cases h; exact ⟨by simp only [List.length_cons]; omega, by simp⟩
        · split at h
          · cases h; exact ⟨by simp only [List.length_cons, List.length_drop]; omega, by simp⟩
          · exact mark_le h
theorem ts_total (n : Nat) : ∀ (s : List UInt8) (k : Nat), s.length ≤ n → ∃ o, TS k s o := by
  induction n with
  | zero =>
    intro s k hl
    have : s = [] := List.length_eq_zero_iff.mp (by omega)
    subst this
    exact ⟨_, .fin rfl⟩
  | succ n ih =>
    intro s k hl
    by_cases h0 : dropB s = []
    · exact ⟨_, .fin h0⟩
    · cases hf : first1 (dropB s) with
      | none => exact ⟨_, .bad h0 hf⟩
      | some p =>
        obtain ⟨t, r⟩ := p
        by_cases hk : k = 80
        · exact ⟨_, .many hf hk⟩
        · have h1 := (first_le hf).1
          have h2 : (dropB s).length ≤ s.length := drop_le isBl s
          obtain ⟨o, ho⟩ := ih r (k + 1) (by omega)
          exact ⟨_, .go hf hk ho⟩
theorem ts_one {k : Nat} {s : List UInt8} {o : Option (List Tok)} (h : TS k s o) : ∀ o', TS k s o' → o = o' := by
  induction h with
  | fin h =>
    intro o' h'
    cases h' with
    | fin _ => rfl
    | bad h1 _ => exact absurd h h1
    | many h1 _ => rw [h] at h1; cases h1
    | go h1 _ _ => rw [h] at h1; cases h1
  | bad h0 h =>
    intro o' h'
    cases h' with
    | fin h1 => exact absurd h1 h0
    | bad _ _ => rfl
    | many _ _ => rfl
    | go h1 _ _ => rw [h] at h1; cases h1
  | many h hk =>
    intro o' h'
    cases h' with
    | fin h1 => rw [h1] at h; cases h
    | bad _ _ => rfl
    | many _ _ => rfl
    | go _ h1 _ => exact absurd hk h1
  | go h hk _ ih =>
    intro o' h'
    cases h' with
    | fin h1 => rw [h1] at h; cases h
    | bad _ h1 => rw [h] at h1; cases h1
    | many _ h1 => exact absurd h1 hk
    | go h1 _ h2 => rw [h] at h1; cases h1; rw [ih _ h2]
theorem ts_codes {k : Nat} {s : List UInt8} {o : Option (List Tok)} (h : TS k s o) : ∀ l, o = some l → k ≤ 80 → CT l ∧ k + l.length ≤ 80 := by
  induction h with
  | fin _ => intro l e hk; cases e; exact ⟨fun _ h => (by cases h), by simpa using hk⟩
  | bad _ _ => intro l e; cases e
  | many _ _ => intro l e; cases e
  | @go k s t r o hf hk _ ih =>
    intro l e hk'
    cases o with
    | none => cases e
    | some l' =>
      cases e
      obtain ⟨h1, h2⟩ := ih _ rfl (by omega)
      refine ⟨fun u hu => ?_, by simp only [List.length_cons]; omega⟩
      cases hu with
      | head _ => exact (first_le hf).2
      | tail _ h => exact h1 u h
theorem ts_blank {k : Nat} {s : List UInt8} {o : Option (List Tok)} (h : TS k s o) : TS k (32 :: s) o := by
  have e : dropB (32 :: s) = dropB s := by simp [dropB, isBl]
  cases h with
  | fin h => exact .fin (e.trans h)
  | bad h0 h => exact .bad (e.symm ▸ h0) (e.symm ▸ h)
  | many h hk => exact .many (e.symm ▸ h) hk
  | go h hk h2 => exact .go (e.symm ▸ h) hk h2
/-- A text begins with tokens, and goes on. -/
def TT (l : List Tok) (s rest : List UInt8) : Prop := ∀ k o, k + l.length ≤ 80 → TS (k + l.length) rest o → TS k s (o.map (l ++ ·))
theorem TT.comp {l1 l2 : List Tok} {s s' rest : List UInt8} (h1 : TT l1 s s') (h2 : TT l2 s' rest) : TT (l1 ++ l2) s rest := by
  intro k o hk ho
  rw [List.length_append] at hk ho
  have a := h2 (k + l1.length) o (by omega) (by rw [Nat.add_assoc]; exact ho)
  have b := h1 k _ (by omega) a
  rw [Option.map_map] at b
  have e : ((fun x => l1 ++ x) ∘ fun x => l2 ++ x) = fun x => (l1 ++ l2) ++ x := by funext x; simp
  rw [e] at b; exact b
theorem TT.cons {t : Tok} {l : List Tok} {s s' rest : List UInt8} (h1 : TT [t] s s') (h2 : TT l s' rest) : TT (t :: l) s rest := TT.comp (l1 := [t]) h1 h2
theorem TT.blank {l : List Tok} {s rest : List UInt8} (h : TT l s rest) : TT l (32 :: s) rest := fun k o hk ho => ts_blank (h k o hk ho)
theorem TT.one {t : Tok} {s r : List UInt8} (hb : dropB s = s) (h : first1 s = some (t, r)) : TT [t] s r := by
  intro k o hk ho
  have hk' : k ≠ 80 := by simp at hk; omega
  exact .go (hb.symm ▸ h) hk' ho
theorem dropB_ne {b : UInt8} {r : List UInt8} (h : b ≠ 32) : dropB (b :: r) = b :: r := by
  have : isBl b = false := by
    simp only [isBl, decide_eq_false_iff_not]
    intro e; exact h (UInt8.toNat_inj.mp e)
  simp [dropB, this]
def Stop : List UInt8 → Prop
  | [] => True
  | b :: _ => b = 32 ∨ b = 41
theorem take_stop {p : UInt8 → Bool} (h1 : p 32 = false) (h2 : p 41 = false) {l rest : List UInt8} (hl : ∀ b ∈ l, p b = true) (hs : Stop rest) : (l ++ rest).takeWhile p = l ∧ (l ++ rest).dropWhile p = rest := by
  induction l with
  | nil =>
    cases rest with
    | nil => exact ⟨rfl, rfl⟩
    | cons b r => cases hs with
      | inl e => subst e; simp [h1]
      | inr e => subst e; simp [h2]
  | cons b l ih =>
    obtain ⟨a, c⟩ := ih fun x hx => hl x (List.mem_cons_of_mem _ hx)
    have hb := hl b (List.mem_cons_self ..)
    simp [hb, a, c]
theorem quote_stop {l rest : List UInt8} (hl : (39 : UInt8) ∉ l) : (l ++ 39 :: rest).takeWhile notQ = l ∧ (l ++ 39 :: rest).dropWhile notQ = 39 :: rest := by
  induction l with
  | nil => simp [notQ]
  | cons b l ih =>
    obtain ⟨a, c⟩ := ih fun h => hl (List.mem_cons_of_mem _ h)
    have hb : notQ b = true := by
      have : b ≠ 39 := fun e => hl (e ▸ List.mem_cons_self ..)
      simp [notQ, this]
    simp [hb, a, c]
def isWord : List UInt8 → Prop
  | [] => False
  | b :: r => isSm b = true ∧ ∀ x ∈ r, isWc x = true
theorem tt_word {w rest : List UInt8} (h : isWord w) (hs : Stop rest) : TT [tW w] (w ++ rest) rest := by
  cases w with
  | nil => exact h.elim
  | cons b w =>
    obtain ⟨a, c⟩ := take_stop (p := isWc) (by decide) (by decide) h.2 hs
    refine TT.one (dropB_ne fun e => ?_) ?_
    · subst e; exact absurd h.1 (by decide)
    · show first1 (b :: (w ++ rest)) = _
      simp only [first1]; rw [if_pos h.1, a, c]; rfl
theorem tt_text {l rest : List UInt8} (h : (39 : UInt8) ∉ l) : TT [⟨3, l, 0⟩] (39 :: (l ++ 39 :: rest)) rest := by
  obtain ⟨a, c⟩ := quote_stop (rest := rest) h
  refine TT.one (dropB_ne (by decide)) ?_
  simp only [first1]
  rw [if_neg (by decide), if_neg (by decide), if_neg (by simp), if_pos ⟨by simp, by simp⟩, a, c]; rfl
/-- A number's letters. -/
def isNum (l : List UInt8) : Prop := ∃ ds, ds ≠ [] ∧ (∀ b ∈ ds, isDg b = true) ∧ (l = ds ∨ l = 45 :: ds)
theorem tt_num {l rest : List UInt8} (h : isNum l) (hs : Stop rest) : TT [⟨2, l, 0⟩] (l ++ rest) rest := by
  obtain ⟨ds, h0, hd, e⟩ := h
  cases e with
  | inl e =>
    subst e
    cases l with
    | nil => exact absurd rfl h0
    | cons b w =>
      have hb : isDg b = true := hd b (List.mem_cons_self ..)
      obtain ⟨a, c⟩ := take_stop (p := isDg) (by decide) (by decide) (fun x hx => hd x (List.mem_cons_of_mem _ hx)) hs
      have h1 : isSm b = false := by
        simp only [isDg, Bool.and_eq_true, decide_eq_true_eq] at hb
        simp only [isSm, Bool.and_eq_false_iff, decide_eq_false_iff_not]
        omega
      refine TT.one (dropB_ne fun e => ?_) ?_
      · subst e; exact absurd hb (by decide)
      · show first1 (b :: (w ++ rest)) = _
        simp only [first1]; rw [if_neg (by simp [h1]), if_pos hb, a, c]
  | inr e =>
    subst e
    obtain ⟨a, c⟩ := take_stop (p := isDg) (by decide) (by decide) hd hs
    refine TT.one (dropB_ne (by decide)) ?_
    show first1 (45 :: (ds ++ rest)) = _
    simp only [first1]; rw [if_neg (by decide), if_neg (by decide), if_pos ⟨by simp, by rw [a]; exact h0⟩, a, c]
theorem tt_mark {c : Nat} (h1 : 1 ≤ c) (h6 : c ≤ 6) (rest : List UInt8) : TT [tM (mk c) c] (mk c ++ 32 :: rest) (32 :: rest) := by
  have : c = 1 ∨ c = 2 ∨ c = 3 ∨ c = 4 ∨ c = 5 ∨ c = 6 := by omega
  rcases this with e | e | e | e | e | e <;> subst e <;>
    exact TT.one (dropB_ne (by decide)) (by simp only [mk, List.cons_append, List.nil_append, first1]; rw [if_neg (by decide), if_neg (by decide), if_neg (by simp), if_neg (by simp)]; rfl)
theorem tt_open (rest : List UInt8) : TT [tO] (40 :: rest) rest :=
  TT.one (dropB_ne (by decide)) (by simp only [first1]; rw [if_neg (by decide), if_neg (by decide), if_neg (by simp), if_neg (by simp)]; rfl)
theorem tt_close (rest : List UInt8) : TT [tC] (41 :: rest) rest :=
  TT.one (dropB_ne (by decide)) (by simp only [first1]; rw [if_neg (by decide), if_neg (by decide), if_neg (by simp), if_neg (by simp)]; rfl)
section
variable (dc : Int → List UInt8)
def vx : Vl → List UInt8
  | .null => wNull
  | .num n => dc n
  | .text l => 39 :: (l ++ [39])
def parX (k : Nat) (T : Tr) (l : List UInt8) : List UInt8 := if clo T < k then 40 :: (l ++ [41]) else l
def tx : Tr → List UInt8
  | .cmp c col v => col ++ 32 :: (mk c ++ 32 :: vx dc v)
  | .isn false col => col ++ 32 :: (wIs ++ 32 :: wNull)
  | .isn true col => col ++ 32 :: (wIs ++ 32 :: (wNot ++ 32 :: wNull))
  | .no x => wNot ++ 32 :: parX 2 x (tx x)
  | .bi true x y => parX 0 x (tx x) ++ 32 :: (wOr ++ 32 :: parX 1 y (tx y))
  | .bi false x y => parX 1 x (tx x) ++ 32 :: (wAnd ++ 32 :: parX 2 y (tx y))
end
section
variable {nm rt : List UInt8 → Bool} {okn : Int → Prop} {dc : Int → List UInt8}
theorem tt_par {T : Tr} (k : Nat) (h : ∀ rest, Stop rest → TT (wt dc T) (tx dc T ++ rest) rest) (rest : List UInt8) (hs : Stop rest) : TT (par k T (wt dc T)) (parX k T (tx dc T) ++ rest) rest := by
  unfold par parX
  split
  · rw [List.cons_append, List.append_assoc]
    exact TT.cons (tt_open _) (TT.comp (h (41 :: rest) (Or.inr rfl)) (tt_close rest))
  · exact h rest hs
theorem tx_toks (hW : ∀ l, nm l = true → isWord l) (hR : ∀ l, rt l = true → (39 : UInt8) ∉ l) (hI : ∀ n, okn n → isNum (dc n)) (T : Tr) : VT nm rt okn T → ∀ rest, Stop rest → TT (wt dc T) (tx dc T ++ rest) rest := by
  have b32 : ∀ r : List UInt8, Stop (32 :: r) := fun _ => Or.inl rfl
  have wn : isWord wNull := ⟨by decide, by decide⟩
  have wi : isWord wIs := ⟨by decide, by decide⟩
  have wno : isWord wNot := ⟨by decide, by decide⟩
  have wo : isWord wOr := ⟨by decide, by decide⟩
  have wa : isWord wAnd := ⟨by decide, by decide⟩
  induction T with
  | cmp c col v =>
    intro hV rest hs
    obtain ⟨⟨h1, h6⟩, hn, hv⟩ := hV
    have e : tx dc (.cmp c col v) ++ rest = col ++ 32 :: (mk c ++ 32 :: (vx dc v ++ rest)) := by simp [tx]
    rw [e]
    refine TT.cons (tt_word (hW _ hn) (b32 _)) (TT.blank (TT.cons (tt_mark h1 h6 _) (TT.blank ?_)))
    cases v with
    | null => exact tt_word wn hs
    | num n => exact tt_num (hI n hv) hs
    | text l =>
      have := tt_text (rest := rest) (hR l hv)
      simpa [vx, vt] using this
  | isn b col =>
    intro hV rest hs
    have hn : nm col = true := hV
    cases b with
    | false =>
      have e : tx dc (.isn false col) ++ rest = col ++ 32 :: (wIs ++ 32 :: (wNull ++ rest)) := by simp [tx]
      rw [e]
      exact TT.cons (tt_word (hW _ hn) (b32 _)) (TT.blank (TT.cons (tt_word wi (b32 _)) (TT.blank (tt_word wn hs))))
    | true =>
      have e : tx dc (.isn true col) ++ rest = col ++ 32 :: (wIs ++ 32 :: (wNot ++ 32 :: (wNull ++ rest))) := by simp [tx]
      rw [e]
      exact TT.cons (tt_word (hW _ hn) (b32 _)) (TT.blank (TT.cons (tt_word wi (b32 _)) (TT.blank (TT.cons (tt_word wno (b32 _)) (TT.blank (tt_word wn hs))))))
  | no x ih =>
    intro hV rest hs
    have e : tx dc (.no x) ++ rest = wNot ++ 32 :: (parX 2 x (tx dc x) ++ rest) := by simp [tx]
    rw [e]
    exact TT.cons (tt_word wno (b32 _)) (TT.blank (tt_par 2 (ih hV) rest hs))
  | bi b x y ihx ihy =>
    intro hV rest hs
    cases b with
    | true =>
      have e : tx dc (.bi true x y) ++ rest = parX 0 x (tx dc x) ++ 32 :: (wOr ++ 32 :: (parX 1 y (tx dc y) ++ rest)) := by simp [tx]
      rw [e]
      exact TT.comp (tt_par 0 (ihx hV.1) _ (b32 _)) (TT.blank (TT.cons (tt_word wo (b32 _)) (TT.blank (tt_par 1 (ihy hV.2) rest hs))))
    | false =>
      have e : tx dc (.bi false x y) ++ rest = parX 1 x (tx dc x) ++ 32 :: (wAnd ++ 32 :: (parX 2 y (tx dc y) ++ rest)) := by simp [tx]
      rw [e]
      exact TT.comp (tt_par 1 (ihx hV.1) _ (b32 _)) (TT.blank (TT.cons (tt_word wa (b32 _)) (TT.blank (tt_par 2 (ihy hV.2) rest hs))))
/-- What a text is, as a condition: none of it, one, or something is thrown. -/
inductive Reads (nm rt : List UInt8 → Bool) : List UInt8 → Option (Option Tr) → Prop
  | blank {s : List UInt8} : TS 0 s (some []) → Reads nm rt s (some none)
  | bad {s : List UInt8} : TS 0 s none → Reads nm rt s none
  | no {s : List UInt8} {l : List Tok} : TS 0 s (some l) → l ≠ [] → PR nm rt .cond 0 l none → Reads nm rt s none
  | more {s : List UInt8} {l r : List Tok} {T : Tr} : TS 0 s (some l) → l ≠ [] → PR nm rt .cond 0 l (some (T, r)) → r ≠ [] → Reads nm rt s none
  | cond {s : List UInt8} {l : List Tok} {T : Tr} : TS 0 s (some l) → l ≠ [] → PR nm rt .cond 0 l (some (T, [])) → Reads nm rt s (some (some T))
theorem reads_total (nm rt : List UInt8 → Bool) (s : List UInt8) : ∃ o, Reads nm rt s o := by
  obtain ⟨o, ho⟩ := ts_total s.length s 0 (Nat.le_refl _)
  cases o with
  | none => exact ⟨_, .bad ho⟩
  | some l =>
    by_cases hl : l = []
    · subst hl; exact ⟨_, .blank ho⟩
    · obtain ⟨o, h⟩ := (pr_total nm rt l.length l (Nat.le_refl _)).2.2.2.2 0
      cases o with
      | none => exact ⟨_, .no ho hl h⟩
      | some p =>
        obtain ⟨T, r⟩ := p
        by_cases hr : r = []
        · subst hr; exact ⟨_, .cond ho hl h⟩
        · exact ⟨_, .more ho hl h hr⟩
/-- What a condition that was read is written as is read as that one. -/
theorem reads_back (hN : NN nm) (hW : ∀ l, nm l = true → isWord l) (hR : ∀ l, rt l = true → (39 : UInt8) ∉ l) (hK : ∀ l n, numT l = some n → okn n) (hD : ∀ n, okn n → numT (dc n) = some n) (hI : ∀ n, okn n → isNum (dc n)) {s : List UInt8} {T : Tr} (h : Reads nm rt s (some (some T))) : VT nm rt okn T ∧ (wt dc T).length ≤ 80 ∧ Reads nm rt (tx dc T) (some (some T)) := by
  cases h with
  | cond ht hl hp =>
    obtain ⟨hct, h80⟩ := ts_codes ht _ rfl (by omega)
    obtain ⟨hv, hle, ha⟩ := again (dc := dc) hN hK hD hct hp
    have h := tx_toks (dc := dc) hW hR hI T hv [] trivial 0 (some []) (by omega) (.fin rfl)
    simp only [List.append_nil, Option.map_some] at h
    refine ⟨hv, by omega, .cond h (fun e => ?_) ha⟩
    rw [e] at ha
    have := pr_le ha _ _ rfl
    simp [loopy] at this
end
end Go.Proofs.YtlnkbhbpkmnkaaaGreatDoor.Ask
namespace Go.Proofs.YtlnkbhbpkmnkaaaGreatDoor.Ask
open Go.Lib
def runL (p : Nat → Bool) (l : List UInt8) : Nat := (l.takeWhile fun b => p b.toNat).length
theorem runL_le (p : Nat → Bool) (l : List UInt8) : runL p l ≤ l.length := (List.takeWhile_sublist _).length_le
theorem decode_ascii {s : ByteArray} {i : Nat} (h : (s.get! i).toNat < 128) : (Utf8.decode s i).1 = (s.get! i).toNat := by
  rw [decode_at]; unfold decodeN
  simp [h]
theorem drop_get {s : ByteArray} {i : Nat} (h : i < s.size) : s.data.toList.drop i = s.get! i :: s.data.toList.drop (i + 1) := by
  have h' : i < s.data.toList.length := by rw [Array.length_toList]; exact h
  rw [List.drop_eq_getElem_cons h']
  have hj2 : i < s.data.size := h
  have : s.get! i = s.data.toList[i] := by
    show s.data[i]! = _
    rw [getElem!_pos s.data i hj2, Array.getElem_toList]
  rw [this]
theorem idx_run {p : Nat → Bool} {s : ByteArray} (hp : ∀ r, 127 < r → p r = false) : ∀ (f i : Nat), s.size ≤ f + i → i ≤ s.size →
    (i + runL p (s.data.toList.drop i) = s.size ∧ idxFuncFrom p false s f i = -1) ∨ (i + runL p (s.data.toList.drop i) < s.size ∧ idxFuncFrom p false s f i = ((i + runL p (s.data.toList.drop i) : Nat) : Int))
  | 0, i, hf, hi => by
    have e : i = s.size := by omega
    subst e
    have : s.data.toList.drop s.size = [] := List.drop_eq_nil_of_le (by rw [Array.length_toList]; exact Nat.le_refl _)
    rw [this]
    exact Or.inl ⟨rfl, rfl⟩
  | f + 1, i, hf, hi => by
    unfold idxFuncFrom
    by_cases hs : i < s.size
    · rw [if_pos hs, drop_get hs]
      by_cases hq : p (Utf8.decode s i).1 = false
      · rw [if_pos hq]
        have hb : p (s.get! i).toNat = false := by
          by_cases h : (s.get! i).toNat < 128
          · rw [← decode_ascii h]; exact hq
          · exact hp _ (by omega)
        have : runL p (s.get! i :: s.data.toList.drop (i + 1)) = 0 := by simp [runL, hb]
        rw [this]
        exact Or.inr ⟨hs, rfl⟩
      · rw [if_neg hq]
        have hq' : p (Utf8.decode s i).1 = true := by simpa using hq
        have hlt : (Utf8.decode s i).1 < 128 := by
          by_cases h : 127 < (Utf8.decode s i).1
          · rw [hp _ h] at hq'; cases hq'
          · omega
        obtain ⟨e1, e2⟩ := decode_small hlt
        have hb : p (s.get! i).toNat = true := by rw [e1]; exact hq'
        have er : runL p (s.get! i :: s.data.toList.drop (i + 1)) = runL p (s.data.toList.drop (i + 1)) + 1 := by simp [runL, hb]
        rw [er, e2, show i + (runL p (s.data.toList.drop (i + 1)) + 1) = i + 1 + runL p (s.data.toList.drop (i + 1)) from by omega]
        exact idx_run hp f (i + 1) (by omega) hs
    · have e : i = s.size := by omega
      rw [if_neg hs]
      subst e
      have : s.data.toList.drop s.size = [] := List.drop_eq_nil_of_le (by rw [Array.length_toList]; exact Nat.le_refl _)
      rw [this]
      exact Or.inl ⟨rfl, rfl⟩
theorem trim_size {p : Nat → Bool} {s : ByteArray} (hp : ∀ r, 127 < r → p r = false) : (s.size : Int) - ((trimLeftF p s).size : Int) = (runL p s.data.toList : Int) := by
  have h := idx_run (s := s) hp s.size 0 (by omega) (by omega)
  rw [List.drop_zero, Nat.zero_add] at h
  unfold trimLeftF
  have hx : idxFunc p false s = idxFuncFrom p false s s.size 0 := rfl
  cases h with
  | inl h =>
    rw [hx, h.2, if_pos rfl]
    show (s.size : Int) - ((0 : Nat) : Int) = _
    omega
  | inr h =>
    rw [hx, h.2, if_neg (by omega)]
    have : (s.extract (((runL p s.data.toList : Nat) : Int)).toNat s.size).size = s.size - runL p s.data.toList := by
      rw [ByteArray.size_extract]; simp
    rw [this]; omega
end Go.Proofs.YtlnkbhbpkmnkaaaGreatDoor.Ask
