/- Plain mathematics: what is known of a list of values (how many, how many are nothing, the least and the greatest of the others) is one thing alone, and that of two lists together comes of that of each. -/
import Derived.Test.YtmghdphafepifaaDoorM
namespace Go.Proofs.YtmghdphafepifaaDoor
open Go

/-- A value: a kind, a number, a text. -/
abbrev V := Int × Int × ByteArray
def zeroV : V := (0, 0, ⟨#[]⟩)
def cmpW (x y : V) : Int := cmpV x.1 x.2.1 x.2.2 y.1 y.2.1 y.2.2
theorem cmpW_range (x y : V) : cmpW x y = -1 ∨ cmpW x y = 0 ∨ cmpW x y = 1 := cmpV_range ..
theorem cmpW_swap (x y : V) : cmpW y x = -cmpW x y := cmpV_swap ..
theorem cmpW_zero {x y : V} : cmpW x y = 0 ↔ x = y := by
  unfold cmpW; rw [cmpV_zero]
  constructor
  · rintro ⟨h1, h2, h3⟩; exact Prod.ext h1 (Prod.ext h2 h3)
  · rintro rfl; exact ⟨rfl, rfl, rfl⟩
theorem cmpW_self (x : V) : cmpW x x = 0 := cmpW_zero.2 rfl
theorem cmpW_trans {x y z : V} (h1 : cmpW x y ≤ 0) (h2 : cmpW y z ≤ 0) : cmpW x z ≤ 0 := by
  rcases cmpW_range x y with a | a | a <;> rcases cmpW_range y z with b | b | b
  · have : cmpW x z = -1 := cmpV_trans _ _ _ _ _ _ _ _ _ _ a b
    omega
  · rw [cmpW_zero] at b; subst b; omega
  · omega
  · rw [cmpW_zero] at a; subst a; omega
  · rw [cmpW_zero] at a; subst a; omega
  · omega
  · omega
  · omega
  · omega
theorem cmpW_anti {x y : V} (h1 : cmpW x y ≤ 0) (h2 : cmpW y x ≤ 0) : x = y := by
  rw [cmpW_swap x y] at h2
  exact cmpW_zero.1 (by omega)
theorem cmpW_kind {x y : V} (h : x.1 < y.1) : cmpW y x = 1 := by
  unfold cmpW cmpV orI
  have : cmpI y.1 x.1 = 1 := by unfold cmpI; split <;> (try split) <;> omega
  rw [this]; simp

def leastV (a b : V) : V := if a.1 = 0 ∨ (¬ b.1 = 0 ∧ cmpW b a < 0) then b else a
def greatV (a b : V) : V := if 0 < cmpW b a then b else a

/-- The least of the values that are something. -/
def IsMin (l : List V) (m : V) : Prop := (m = zeroV ∧ ∀ x ∈ l, x.1 = 0) ∨ (¬ m.1 = 0 ∧ m ∈ l ∧ ∀ x ∈ l, ¬ x.1 = 0 → cmpW m x ≤ 0)
def IsMax (l : List V) (m : V) : Prop := (m = zeroV ∧ ∀ x ∈ l, x.1 = 0) ∨ (¬ m.1 = 0 ∧ m ∈ l ∧ ∀ x ∈ l, ¬ x.1 = 0 → cmpW x m ≤ 0)
theorem IsMin.one {l : List V} {m m' : V} (h : IsMin l m) (h' : IsMin l m') : m = m' := by
  rcases h with ⟨rfl, h⟩ | ⟨h1, h2, h3⟩ <;> rcases h' with ⟨rfl, h'⟩ | ⟨h1', h2', h3'⟩
  · rfl
  · exact (h1' (h _ h2')).elim
  · exact (h1 (h' _ h2)).elim
  · exact cmpW_anti (h3 _ h2' h1') (h3' _ h2 h1)
theorem IsMax.one {l : List V} {m m' : V} (h : IsMax l m) (h' : IsMax l m') : m = m' := by
  rcases h with ⟨rfl, h⟩ | ⟨h1, h2, h3⟩ <;> rcases h' with ⟨rfl, h'⟩ | ⟨h1', h2', h3'⟩
  · rfl
  · exact (h1' (h _ h2')).elim
  · exact (h1 (h' _ h2)).elim
  · exact cmpW_anti (h3' _ h2 h1) (h3 _ h2' h1')
theorem IsMin.same {l l' : List V} {m : V} (h : IsMin l m) (hl : ∀ x, x ∈ l ↔ x ∈ l') : IsMin l' m := by
  rcases h with ⟨rfl, h⟩ | ⟨h1, h2, h3⟩
  · exact .inl ⟨rfl, fun x hx => h x ((hl x).2 hx)⟩
  · exact .inr ⟨h1, (hl _).1 h2, fun x hx => h3 x ((hl x).2 hx)⟩
theorem IsMax.same {l l' : List V} {m : V} (h : IsMax l m) (hl : ∀ x, x ∈ l ↔ x ∈ l') : IsMax l' m := by
  rcases h with ⟨rfl, h⟩ | ⟨h1, h2, h3⟩
  · exact .inl ⟨rfl, fun x hx => h x ((hl x).2 hx)⟩
  · exact .inr ⟨h1, (hl _).1 h2, fun x hx => h3 x ((hl x).2 hx)⟩
theorem IsMin.both {l l' : List V} {m m' : V} (h : IsMin l m) (h' : IsMin l' m') : IsMin (l ++ l') (leastV m m') := by
  unfold leastV
  rcases h with ⟨rfl, h⟩ | ⟨h1, h2, h3⟩
  · rw [if_pos (.inl rfl)]
    rcases h' with ⟨rfl, h'⟩ | ⟨h1', h2', h3'⟩
    · exact .inl ⟨rfl, fun x hx => (List.mem_append.1 hx).elim (h x) (h' x)⟩
    · exact .inr ⟨h1', List.mem_append.2 (.inr h2'), fun x hx hk => (List.mem_append.1 hx).elim (fun hh => (hk (h x hh)).elim) (fun hh => h3' x hh hk)⟩
  · rcases h' with ⟨rfl, h'⟩ | ⟨h1', h2', h3'⟩
    · rw [if_neg (by rintro (h | ⟨h, _⟩); exact h1 h; exact h rfl)]
      exact .inr ⟨h1, List.mem_append.2 (.inl h2), fun x hx hk => (List.mem_append.1 hx).elim (fun hh => h3 x hh hk) (fun hh => (hk (h' x hh)).elim)⟩
    · by_cases hc : cmpW m' m < 0
      · rw [if_pos (.inr ⟨h1', hc⟩)]
        exact .inr ⟨h1', List.mem_append.2 (.inr h2'), fun x hx hk => (List.mem_append.1 hx).elim (fun hh => cmpW_trans (by omega) (h3 x hh hk)) (fun hh => h3' x hh hk)⟩
      · rw [if_neg (by rintro (h | ⟨_, h⟩); exact h1 h; exact hc h)]
        have hs := cmpW_swap m' m
        exact .inr ⟨h1, List.mem_append.2 (.inl h2), fun x hx hk => (List.mem_append.1 hx).elim (fun hh => h3 x hh hk) (fun hh => cmpW_trans (by omega) (h3' x hh hk))⟩
theorem IsMax.both {l l' : List V} {m m' : V} (h : IsMax l m) (h' : IsMax l' m') (hn : ∀ x ∈ l, 0 ≤ x.1) (hn' : ∀ x ∈ l', 0 ≤ x.1) : IsMax (l ++ l') (greatV m m') := by
  unfold greatV
  rcases h with ⟨rfl, h⟩ | ⟨h1, h2, h3⟩
  · rcases h' with ⟨rfl, h'⟩ | ⟨h1', h2', h3'⟩
    · rw [cmpW_self, if_neg (by omega)]
      exact .inl ⟨rfl, fun x hx => (List.mem_append.1 hx).elim (h x) (h' x)⟩
    · have hk := hn' _ h2'
      rw [cmpW_kind (show zeroV.1 < m'.1 by simp [zeroV]; omega), if_pos (by omega)]
      exact .inr ⟨h1', List.mem_append.2 (.inr h2'), fun x hx hk => (List.mem_append.1 hx).elim (fun hh => (hk (h x hh)).elim) (fun hh => h3' x hh hk)⟩
  · rcases h' with ⟨rfl, h'⟩ | ⟨h1', h2', h3'⟩
    · have hk := hn _ h2
      rw [cmpW_swap m zeroV, cmpW_kind (show zeroV.1 < m.1 by simp [zeroV]; omega), if_neg (by omega)]
      exact .inr ⟨h1, List.mem_append.2 (.inl h2), fun x hx hk => (List.mem_append.1 hx).elim (fun hh => h3 x hh hk) (fun hh => (hk (h' x hh)).elim)⟩
    · by_cases hc : 0 < cmpW m' m
      · rw [if_pos hc]
        have hs := cmpW_swap m' m
        exact .inr ⟨h1', List.mem_append.2 (.inr h2'), fun x hx hk => (List.mem_append.1 hx).elim (fun hh => cmpW_trans (h3 x hh hk) (by omega)) (fun hh => h3' x hh hk)⟩
      · rw [if_neg hc]
        exact .inr ⟨h1, List.mem_append.2 (.inl h2), fun x hx hk => (List.mem_append.1 hx).elim (fun hh => h3 x hh hk) (fun hh => cmpW_trans (h3' x hh hk) (by omega))⟩

/-- What is known of values: how many, how many are nothing, the least, the greatest. -/
abbrev St := Int × Int × V × V
def zeroS : St := (0, 0, zeroV, zeroV)
def bothS (a b : St) : St := (a.1 + b.1, a.2.1 + b.2.1, leastV a.2.2.1 b.2.2.1, greatV a.2.2.2 b.2.2.2)
def oneS (v : V) : St := if v.1 = 0 then (1, 1, zeroV, zeroV) else (1, 0, v, v)
def nulls (l : List V) : Nat := l.countP fun x => x.1 == 0
structure IsSt (l : List V) (s : St) : Prop where
  cnt : s.1 = l.length
  nul : s.2.1 = nulls l
  mn : IsMin l s.2.2.1
  mx : IsMax l s.2.2.2
theorem IsSt.one {l : List V} {s s' : St} (h : IsSt l s) (h' : IsSt l s') : s = s' :=
  Prod.ext (h.cnt.trans h'.cnt.symm) (Prod.ext (h.nul.trans h'.nul.symm) (Prod.ext (h.mn.one h'.mn) (h.mx.one h'.mx)))
theorem IsSt.nil : IsSt [] zeroS := ⟨rfl, rfl, .inl ⟨rfl, by simp⟩, .inl ⟨rfl, by simp⟩⟩
theorem IsSt.single (v : V) : IsSt [v] (oneS v) := by
  unfold oneS
  by_cases h : v.1 = 0
  · rw [if_pos h]
    exact ⟨rfl, by simp [nulls, h], .inl ⟨rfl, by simpa using h⟩, .inl ⟨rfl, by simpa using h⟩⟩
  · rw [if_neg h]
    refine ⟨rfl, by simp [nulls, h], .inr ⟨h, by simp, ?_⟩, .inr ⟨h, by simp, ?_⟩⟩
    · intro x hx _
      rw [List.mem_singleton.1 hx, cmpW_self]; omega
    · intro x hx _
      rw [List.mem_singleton.1 hx, cmpW_self]; omega
theorem IsSt.both {l l' : List V} {s s' : St} (h : IsSt l s) (h' : IsSt l' s') (hn : ∀ x ∈ l, 0 ≤ x.1) (hn' : ∀ x ∈ l', 0 ≤ x.1) : IsSt (l ++ l') (bothS s s') :=
  ⟨by simp [bothS, h.cnt, h'.cnt], by simp [bothS, h.nul, h'.nul, nulls], h.mn.both h'.mn, h.mx.both h'.mx hn hn'⟩
theorem IsSt.turn {l l' : List V} {s : St} (h : IsSt (l ++ l') s) : IsSt (l' ++ l) s :=
  ⟨by have := h.cnt; simp at this ⊢; omega, by have := h.nul; simp [nulls] at this ⊢; omega, h.mn.same (by simp [or_comm]), h.mx.same (by simp [or_comm])⟩
theorem nulls_le (l : List V) : nulls l ≤ l.length := List.countP_le_length
theorem IsSt.cnt_le {l : List V} {s : St} (h : IsSt l s) (hl : l.length ≤ 40) : 0 ≤ s.1 ∧ s.1 ≤ 40 ∧ 0 ≤ s.2.1 ∧ s.2.1 ≤ 40 := by
  have := h.cnt; have := h.nul; have := nulls_le l
  omega

/-- Values are of one kind, but for those that are nothing. -/
def Alone (l : List V) : Prop := ∀ x ∈ l, ∀ y ∈ l, ¬ x.1 = 0 → ¬ y.1 = 0 → x.1 = y.1

theorem IsSt.null {l : List V} {s : St} (h : IsSt l s) {x : V} (hx : x ∈ l) (hk : x.1 = 0) : 0 < s.2.1 := by
  have := h.nul
  have : 0 < nulls l := List.countP_pos_iff.2 ⟨x, hx, by simpa using hk⟩
  omega
theorem nulls_lt {x : V} (hk : ¬ x.1 = 0) : ∀ (l : List V), x ∈ l → nulls l < l.length
  | [], h => by simp at h
  | y :: l, h => by
    have hl := nulls_le l
    unfold nulls at hl ⊢
    rcases List.mem_cons.1 h with rfl | h
    · rw [List.countP_cons_of_neg (by simpa using hk)]; simp only [List.length_cons]; omega
    · have := nulls_lt hk l h
      unfold nulls at this
      rw [List.countP_cons]; simp only [List.length_cons]; split <;> omega
theorem IsSt.some {l : List V} {s : St} (h : IsSt l s) (ha : Alone l) {x : V} (hx : x ∈ l) (hk : ¬ x.1 = 0) :
    s.2.1 < s.1 ∧ s.2.2.1.1 = x.1 ∧ s.2.2.2.1 = x.1 ∧ cmpW s.2.2.1 x ≤ 0 ∧ cmpW x s.2.2.2 ≤ 0 := by
  have h1 := h.cnt; have h2 := h.nul
  have h3 := nulls_lt hk l hx
  rcases h.mn with ⟨_, hz⟩ | ⟨a1, a2, a3⟩
  · exact (hk (hz x hx)).elim
  rcases h.mx with ⟨_, hz⟩ | ⟨b1, b2, b3⟩
  · exact (hk (hz x hx)).elim
  exact ⟨by omega, ha _ a2 _ hx a1 hk, ha _ b2 _ hx b1 hk, a3 x hx hk, b3 x hx hk⟩
end Go.Proofs.YtmghdphafepifaaDoor
