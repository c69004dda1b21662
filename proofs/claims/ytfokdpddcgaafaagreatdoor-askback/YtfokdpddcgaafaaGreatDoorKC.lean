/- What is read costs no more tokens, and goes no deeper, when it is written; reading comes to something. -/
import Derived.Test.YtfokdpddcgaafaaGreatDoorKB
namespace Go.Proofs.YtfokdpddcgaafaaGreatDoor.Ask
open Go.Lib
section
variable {nm rt : List UInt8 → Bool} {okn : Int → Prop} {dc : Int → List UInt8}
theorem par_up (k : Nat) (T : Tr) (l : List Tok) : (par k T l).length ≤ (par (k + 1) T l).length := by
  unfold par; split <;> split <;> simp <;> omega
theorem dpar_up (k : Nat) (T : Tr) (n : Nat) : dpar k T n ≤ dpar (k + 1) T n := by
  unfold dpar; split <;> split <;> omega
theorem par_le (k : Nat) (T : Tr) (l : List Tok) : (par k T l).length ≤ l.length + 2 := by
  unfold par; split <;> simp
theorem dpar_le (k : Nat) (T : Tr) (n : Nat) : dpar k T n ≤ n + 1 := by
  unfold dpar; split <;> omega
theorem par0 (T : Tr) (l : List Tok) : par 0 T l = l := by simp [par]
theorem dpar0 (T : Tr) (n : Nat) : dpar 0 T n = n := by simp [dpar]
/-- Codes of tokens are those of marks. -/
def CT (ts : List Tok) : Prop := ∀ t ∈ ts, t.code ≤ 6
theorem CT.tail {t : Tok} {ts : List Tok} (h : CT (t :: ts)) : CT ts := fun u hu => h u (List.mem_cons_of_mem _ hu)
theorem need_cost {x T : Tr} {ts r : List Tok} (h : needNull x ts = some (T, r)) : T = x ∧ r.length + 1 = ts.length ∧ (CT ts → CT r) := by
  cases ts with
  | nil => cases h
  | cons v l =>
    simp only [needNull] at h
    split at h
    · cases h; exact ⟨rfl, rfl, CT.tail⟩
    · cases h
theorem val_cost (hK : ∀ l n, numT l = some n → okn n) {k : Vl → Tr} {T : Tr} {ts r : List Tok} (h : valP rt k ts = some (T, r)) : (∃ v, T = k v ∧ VV rt okn v) ∧ r.length + 1 = ts.length ∧ (CT ts → CT r) := by
  cases ts with
  | nil => cases h
  | cons v l =>
    simp only [valP] at h
    split at h
    · cases h; exact ⟨⟨_, rfl, trivial⟩, rfl, CT.tail⟩
    · split at h
      · split at h
        · cases h; exact ⟨⟨_, rfl, ‹_›⟩, rfl, CT.tail⟩
        · cases h
      · split at h
        · cases hn : numT v.text with
          | none => rw [hn] at h; cases h
          | some n => rw [hn] at h; cases h; exact ⟨⟨_, rfl, hK _ _ hn⟩, rfl, CT.tail⟩
        · cases h
theorem leaf_cost (dc : Int → List UInt8) (hK : ∀ l n, numT l = some n → okn n) {T : Tr} {ts r : List Tok} (hct : CT ts) (h : leafP nm rt ts = some (T, r)) : VT nm rt okn T ∧ clo T = 2 ∧ dw T = 0 ∧ (wt dc T).length + r.length = ts.length ∧ CT r := by
  cases ts with
  | nil => cases h
  | cons t l =>
    simp only [leafP] at h
    split at h
    · rename_i hn
      cases l with
      | nil => cases h
      | cons u l =>
        simp only [leaf2] at h
        split at h
        · cases l with
          | nil => cases h
          | cons v l =>
            simp only [leaf3] at h
            split at h
            · obtain ⟨e, hl, hc⟩ := need_cost h
              subst e
              refine ⟨hn.2, rfl, rfl, ?_, hc hct.tail.tail.tail⟩
              simp [wt]; omega
            · obtain ⟨e, hl, hc⟩ := need_cost h
              subst e
              refine ⟨hn.2, rfl, rfl, ?_, hc hct.tail.tail⟩
              simp [wt] at hl ⊢; omega
        · split at h
          · rename_i hz
            obtain ⟨⟨v, e, hv⟩, hl, hc⟩ := val_cost hK h
            subst e
            have h6 : u.code ≤ 6 := hct u (by simp)
            refine ⟨⟨⟨by omega, h6⟩, hn.2, hv⟩, rfl, rfl, ?_, hc hct.tail.tail⟩
            simp [wt]; omega
          · cases h
    · cases h
def Cost (dc : Int → List UInt8) (nm rt : List UInt8 → Bool) (okn : Int → Prop) : Md → Nat → List Tok → Tr → List Tok → Prop
  | .one, d, ts, T, r => VT nm rt okn T ∧ (par 2 T (wt dc T)).length + r.length ≤ ts.length ∧ d + dpar 2 T (dw T) ≤ 6
  | .all, d, ts, T, r => VT nm rt okn T ∧ (par 1 T (wt dc T)).length + r.length ≤ ts.length ∧ d + dpar 1 T (dw T) ≤ 6
  | .cond, d, ts, T, r => VT nm rt okn T ∧ (wt dc T).length + r.length ≤ ts.length ∧ d + dw T ≤ 6
  | .allL c, d, ts, T, r => VT nm rt okn c → d + dpar 1 c (dw c) ≤ 6 → VT nm rt okn T ∧ (par 1 T (wt dc T)).length + r.length ≤ (par 1 c (wt dc c)).length + ts.length ∧ d + dpar 1 T (dw T) ≤ 6
  | .condL c, d, ts, T, r => VT nm rt okn c → d + dw c ≤ 6 → VT nm rt okn T ∧ (wt dc T).length + r.length ≤ (wt dc c).length + ts.length ∧ d + dw T ≤ 6
theorem pr_cost (dc : Int → List UInt8) (hK : ∀ l n, numT l = some n → okn n) {m : Md} {d : Nat} {ts : List Tok} {o : Option (Tr × List Tok)} (h : PR nm rt m d ts o) : CT ts → ∀ T r, o = some (T, r) → CT r ∧ Cost dc nm rt okn m d ts T r := by
  induction h with
  | cond_no _ _ => intro _ _ _ e; cases e
  | @cond_go d ts r c o _ _ ih1 ih2 =>
    intro hct T r' e
    obtain ⟨c1, v1, l1, d1⟩ := ih1 hct _ _ rfl
    have p1 := par_up 0 c (wt dc c); have q1 := dpar_up 0 c (dw c)
    rw [par0] at p1; rw [dpar0] at q1
    obtain ⟨c2, k2⟩ := ih2 c1 _ _ e
    obtain ⟨v2, l2, d2⟩ := k2 v1 (by simp at q1; omega)
    exact ⟨c2, v2, by simp at p1; omega, d2⟩
  | condL_end h => intro hct T r e; cases e; exact ⟨hct, fun v d => ⟨v, Nat.le_refl _, d⟩⟩
  | condL_no _ _ _ => intro _ _ _ e; cases e
  | @condL_go d t r r2 c x o _ _ _ ih1 ih2 =>
    intro hct T r' e
    obtain ⟨c1, v1, l1, d1⟩ := ih1 hct.tail _ _ rfl
    obtain ⟨c2, k2⟩ := ih2 c1 _ _ e
    refine ⟨c2, fun v dd => ?_⟩
    have ew : (wt dc (.bi true c x)).length = (wt dc c).length + 1 + (par 1 x (wt dc x)).length := by simp [wt, par0]; omega
    have ed : dw (.bi true c x) = max (dw c) (dpar 1 x (dw x)) := by simp [dw, dpar0]
    obtain ⟨v2, l2, d2⟩ := k2 ⟨v, v1⟩ (by rw [ed]; omega)
    refine ⟨v2, ?_, d2⟩
    simp only [List.length_cons]; omega
  | all_no _ _ => intro _ _ _ e; cases e
  | @all_go d ts r c o _ _ ih1 ih2 =>
    intro hct T r' e
    obtain ⟨c1, v1, l1, d1⟩ := ih1 hct _ _ rfl
    have p1 := par_up 1 c (wt dc c); have q1 := dpar_up 1 c (dw c)
    obtain ⟨c2, k2⟩ := ih2 c1 _ _ e
    obtain ⟨v2, l2, d2⟩ := k2 v1 (by simp at q1; omega)
    exact ⟨c2, v2, by simp at p1; omega, d2⟩
  | allL_end h => intro hct T r e; cases e; exact ⟨hct, fun v d => ⟨v, Nat.le_refl _, d⟩⟩
  | allL_no _ _ _ => intro _ _ _ e; cases e
  | @allL_go d t r r2 c x o _ _ _ ih1 ih2 =>
    intro hct T r' e
    obtain ⟨c1, v1, l1, d1⟩ := ih1 hct.tail _ _ rfl
    obtain ⟨c2, k2⟩ := ih2 c1 _ _ e
    refine ⟨c2, fun v dd => ?_⟩
    have ew : (par 1 (.bi false c x) (wt dc (.bi false c x))).length = (par 1 c (wt dc c)).length + 1 + (par 2 x (wt dc x)).length := by
      rw [show par 1 (.bi false c x) (wt dc (.bi false c x)) = wt dc (.bi false c x) from by simp [par, clo]]
      simp [wt]; omega
    have ed : dpar 1 (.bi false c x) (dw (.bi false c x)) = max (dpar 1 c (dw c)) (dpar 2 x (dw x)) := by
      rw [show dpar 1 (.bi false c x) (dw (.bi false c x)) = dw (.bi false c x) from by simp [dpar, clo]]
      simp [dw]
    obtain ⟨v2, l2, d2⟩ := k2 ⟨v, v1⟩ (by rw [ed]; omega)
    refine ⟨v2, ?_, d2⟩
    simp only [List.length_cons]; omega
  | one_deep _ => intro _ _ _ e; cases e
  | one_not_no _ _ _ _ => intro _ _ _ e; cases e
  | @one_not d t r r2 x h hn _ ih =>
    intro hct T r' e
    cases e
    obtain ⟨c1, v1, l1, d1⟩ := ih hct.tail _ _ rfl
    refine ⟨c1, v1, ?_, ?_⟩
    · rw [show par 2 (.no x) (wt dc (.no x)) = tW wNot :: par 2 x (wt dc x) from by simp [par, clo, wt]]
      simp only [List.length_cons]; omega
    · rw [show dpar 2 (.no x) (dw (.no x)) = 1 + dpar 2 x (dw x) from by simp [dpar, clo, dw]]
      omega
  | one_par_no _ _ _ _ _ => intro _ _ _ e; cases e
  | one_par_bad _ _ _ _ _ _ => intro _ _ _ e; cases e
  | @one_par d t u r r2 x h hn hp _ hc ih =>
    intro hct T r' e
    cases e
    obtain ⟨c1, v1, l1, d1⟩ := ih hct.tail _ _ rfl
    have p1 := par_le 2 x (wt dc x); have q1 := dpar_le 2 x (dw x)
    refine ⟨c1.tail, v1, ?_, by omega⟩
    simp only [List.length_cons] at l1 ⊢; omega
  | @one_leaf d ts h hn hp =>
    intro hct T r' e
    obtain ⟨v, c2, d0, l, c1⟩ := leaf_cost dc hK hct e
    refine ⟨c1, v, ?_, ?_⟩
    · rw [show par 2 T (wt dc T) = wt dc T from by simp [par, c2]]; omega
    · rw [show dpar 2 T (dw T) = dw T from by simp [dpar, c2], d0]; omega
theorem need_le {x T : Tr} {ts r : List Tok} (h : needNull x ts = some (T, r)) : r.length < ts.length := by
  have := (need_cost h).2.1; omega
theorem leaf_le {T : Tr} {ts r : List Tok} (h : leafP nm rt ts = some (T, r)) : r.length < ts.length := by
  cases ts with
  | nil => cases h
  | cons t l =>
    simp only [leafP] at h
    split at h
    · cases l with
      | nil => cases h
      | cons u l =>
        simp only [leaf2] at h
        split at h
        · cases l with
          | nil => cases h
          | cons v l =>
            simp only [leaf3] at h
            split at h
            · have := need_le h; simp only [List.length_cons]; omega
            · have := need_le h; simp only [List.length_cons] at this ⊢; omega
        · split at h
          · have := (val_cost (okn := fun _ => True) (fun _ _ _ => trivial) h).2.1
            simp only [List.length_cons]; omega
          · cases h
    · cases h
def loopy : Md → Nat
  | .condL _ => 0
  | .allL _ => 0
  | _ => 1
theorem pr_le {m : Md} {d : Nat} {ts : List Tok} {o : Option (Tr × List Tok)} (h : PR nm rt m d ts o) : ∀ T r, o = some (T, r) → r.length + loopy m ≤ ts.length := by
  induction h with
  | cond_no _ _ => intro _ _ e; cases e
  | cond_go _ _ ih1 ih2 => intro T r e; have := ih1 _ _ rfl; have := ih2 _ _ e; simp only [loopy] at *; omega
  | condL_end h => intro T r e; cases e; simp [loopy]
  | condL_no _ _ _ => intro _ _ e; cases e
  | condL_go _ _ _ ih1 ih2 => intro T r e; have := ih1 _ _ rfl; have := ih2 _ _ e; simp only [loopy, List.length_cons] at *; omega
  | all_no _ _ => intro _ _ e; cases e
  | all_go _ _ ih1 ih2 => intro T r e; have := ih1 _ _ rfl; have := ih2 _ _ e; simp only [loopy] at *; omega
  | allL_end h => intro T r e; cases e; simp [loopy]
  | allL_no _ _ _ => intro _ _ e; cases e
  | allL_go _ _ _ ih1 ih2 => intro T r e; have := ih1 _ _ rfl; have := ih2 _ _ e; simp only [loopy, List.length_cons] at *; omega
  | one_deep _ => intro _ _ e; cases e
  | one_not_no _ _ _ _ => intro _ _ e; cases e
  | one_not _ _ _ ih => intro T r e; cases e; have := ih _ _ rfl; simp only [loopy, List.length_cons] at *; omega
  | one_par_no _ _ _ _ _ => intro _ _ e; cases e
  | one_par_bad _ _ _ _ _ _ => intro _ _ e; cases e
  | one_par _ _ _ _ _ ih => intro T r e; cases e; have := ih _ _ rfl; simp only [loopy, List.length_cons] at *; omega
  | one_leaf _ _ _ => intro T r e; have := leaf_le e; simp only [loopy]; omega
/-- Reading comes to something. -/
theorem pr_total (nm rt : List UInt8 → Bool) (n : Nat) : ∀ ts : List Tok, ts.length ≤ n → (∀ d, ∃ o, PR nm rt .one d ts o) ∧ (∀ d c, ∃ o, PR nm rt (.allL c) d ts o) ∧ (∀ d, ∃ o, PR nm rt .all d ts o) ∧ (∀ d c, ∃ o, PR nm rt (.condL c) d ts o) ∧ (∀ d, ∃ o, PR nm rt .cond d ts o) := by
  induction n with
  | zero =>
    intro ts hl
    have : ts = [] := List.length_eq_zero_iff.mp (by omega)
    subst this
    have h1 : ∀ d, PR nm rt .one d [] none := fun d => by
      by_cases h : 6 < d
      · exact .one_deep h
      · exact .one_leaf (by omega) rfl rfl
    exact ⟨fun d => ⟨_, h1 d⟩, fun d c => ⟨_, .allL_end rfl⟩, fun d => ⟨_, .all_no (h1 d)⟩, fun d c => ⟨_, .condL_end rfl⟩, fun d => ⟨_, .cond_no (.all_no (h1 d))⟩⟩
  | succ n ih =>
    intro ts hl
    have I : ∀ r : List Tok, r.length < ts.length → _ := fun r hr => ih r (by omega)
    have h1 : ∀ d, ∃ o, PR nm rt .one d ts o := fun d => by
      by_cases h : 6 < d
      · exact ⟨_, .one_deep h⟩
      have h6 : d ≤ 6 := by omega
      cases ts with
      | nil => exact ⟨_, .one_leaf h6 rfl rfl⟩
      | cons t r =>
        cases hn : isT 1 wNot t with
        | true =>
          obtain ⟨o, ho⟩ := (I r (by simp)).1 (d + 1)
          cases o with
          | none => exact ⟨_, .one_not_no h6 hn ho⟩
          | some p => exact ⟨_, .one_not h6 hn ho⟩
        | false =>
          cases hp : isT 4 [40] t with
          | false => exact ⟨_, .one_leaf h6 hn hp⟩
          | true =>
            obtain ⟨o, ho⟩ := (I r (by simp)).2.2.2.2 (d + 1)
            cases o with
            | none => exact ⟨_, .one_par_no h6 hn hp ho⟩
            | some p =>
              obtain ⟨x, r2⟩ := p
              cases r2 with
              | nil => exact ⟨_, .one_par_bad h6 hn hp ho rfl⟩
              | cons u r2 =>
                cases hc : isT 4 [41] u with
                | true => exact ⟨_, .one_par h6 hn hp ho hc⟩
                | false => exact ⟨_, .one_par_bad h6 hn hp ho hc⟩
    have h2 : ∀ d c, ∃ o, PR nm rt (.allL c) d ts o := fun d c => by
      cases ts with
      | nil => exact ⟨_, .allL_end rfl⟩
      | cons t r =>
        cases ha : isT 1 wAnd t with
        | false => exact ⟨_, .allL_end ha⟩
        | true =>
          obtain ⟨o, ho⟩ := (I r (by simp)).1 d
          cases o with
          | none => exact ⟨_, .allL_no ha ho⟩
          | some p =>
            obtain ⟨x, r2⟩ := p
            have := pr_le ho _ _ rfl
            obtain ⟨o, h⟩ := (I r2 (by simp only [loopy, List.length_cons] at *; omega)).2.1 d (.bi false c x)
            exact ⟨_, .allL_go ha ho h⟩
    have h3 : ∀ d, ∃ o, PR nm rt .all d ts o := fun d => by
      obtain ⟨o, ho⟩ := h1 d
      cases o with
      | none => exact ⟨_, .all_no ho⟩
      | some p =>
        obtain ⟨x, r2⟩ := p
        have := pr_le ho _ _ rfl
        obtain ⟨o, h⟩ := (I r2 (by simp only [loopy] at *; omega)).2.1 d x
        exact ⟨_, .all_go ho h⟩
    have h4 : ∀ d c, ∃ o, PR nm rt (.condL c) d ts o := fun d c => by
      cases ts with
      | nil => exact ⟨_, .condL_end rfl⟩
      | cons t r =>
        cases ha : isT 1 wOr t with
        | false => exact ⟨_, .condL_end ha⟩
        | true =>
          obtain ⟨o, ho⟩ := (I r (by simp)).2.2.1 d
          cases o with
          | none => exact ⟨_, .condL_no ha ho⟩
          | some p =>
            obtain ⟨x, r2⟩ := p
            have := pr_le ho _ _ rfl
            obtain ⟨o, h⟩ := (I r2 (by simp only [loopy, List.length_cons] at *; omega)).2.2.2.1 d (.bi true c x)
            exact ⟨_, .condL_go ha ho h⟩
    refine ⟨h1, h2, h3, h4, fun d => ?_⟩
    obtain ⟨o, ho⟩ := h3 d
    cases o with
    | none => exact ⟨_, .cond_no ho⟩
    | some p =>
      obtain ⟨x, r2⟩ := p
      have := pr_le ho _ _ rfl
      obtain ⟨o, h⟩ := (I r2 (by simp only [loopy] at *; omega)).2.2.2.1 d x
      exact ⟨_, .cond_go ho h⟩
/-- The whole of it: what is read of all tokens is read again of what it is written as, which has no more tokens. -/
theorem again (hN : NN nm) (hK : ∀ l n, numT l = some n → okn n) (hD : ∀ n, okn n → numT (dc n) = some n) {ts : List Tok} {T : Tr} (hct : CT ts) (h : PR nm rt .cond 0 ts (some (T, []))) : VT nm rt okn T ∧ (wt dc T).length ≤ ts.length ∧ PR nm rt .cond 0 (wt dc T) (some (T, [])) := by
  obtain ⟨_, v, l, d⟩ := pr_cost dc hK h hct _ _ rfl
  refine ⟨v, by simpa using l, ?_⟩
  have := (back (dc := dc) (rt := rt) hN hD T v).2.2 0 [] _ d rfl (.condL_end rfl)
  simpa using this
end
end Go.Proofs.YtfokdpddcgaafaaGreatDoor.Ask
