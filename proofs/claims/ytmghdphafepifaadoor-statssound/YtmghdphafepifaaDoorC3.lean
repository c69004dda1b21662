/- WHO IS PASSED BY HAD NOTHING, as plain mathematics: a condition that is 1 of a row may hold of what is known of the rows; one that is 0 of it, its Not may. -/
import Derived.Test.YtmghdphafepifaaDoorC2
namespace Go.Proofs.YtmghdphafepifaaDoor
open Go.RowKit Go.Proofs

/-- Every code of the tree is one. -/
def okT : CT → Prop
  | .nil => True
  | .node _ _ ⟨c, _, _, _, _⟩ l r => (1 ≤ c ∧ c ≤ 11) ∧ okT l ∧ okT r
theorem InC.ok {w : World} : ∀ {T : CT} {v : Value}, InC w T v → okT T
  | .nil, _, _ => trivial
  | .node _ _ ⟨_, _, _, _, _⟩ _ _, _, ⟨_, _, _, _, _, hcd, hl, hr⟩ => ⟨hcd, InC.ok hl, InC.ok hr⟩

/-- A value is one of those of which this is known. -/
def Link (s : St) (x : V) : Prop := ∃ l, IsSt l s ∧ Alone l ∧ x ∈ l

/-- What a condition of a column comes to, of its value. -/
def leafI (c : Int) (x v : V) : Int := if c = 7 then b2i (x.1 == 0) else if c = 8 then b2i (x.1 != 0) else isV c x.1 x.2.1 x.2.2 v.1 v.2.1 v.2.2
theorem isV_one {c : Int} {x v : V} (h : isV c x.1 x.2.1 x.2.2 v.1 v.2.1 v.2.2 = 1) : ¬ x.1 = 0 ∧ x.1 = v.1 ∧ standsB c (cmpW x v) = true := by
  unfold isV at h
  split at h
  · omega
  · rename_i hk
    refine ⟨fun e => hk (.inl e), Classical.byContradiction fun e => hk (.inr e), ?_⟩
    cases hs : standsB c (cmpW x v) with
    | true => rfl
    | false => unfold cmpW at hs; rw [hs] at h; simp [b2i] at h
theorem isV_nought {c : Int} {x v : V} (h : isV c x.1 x.2.1 x.2.2 v.1 v.2.1 v.2.2 = 0) : ¬ x.1 = 0 ∧ x.1 = v.1 ∧ standsB c (cmpW x v) = false := by
  unfold isV at h
  split at h
  · omega
  · rename_i hk
    refine ⟨fun e => hk (.inl e), Classical.byContradiction fun e => hk (.inr e), ?_⟩
    cases hs : standsB c (cmpW x v) with
    | false => rfl
    | true => unfold cmpW at hs; rw [hs] at h; simp [b2i] at h
theorem isV_of {c : Int} {x v : V} (h1 : ¬ x.1 = 0) (h2 : x.1 = v.1) (h3 : standsB c (cmpW x v) = true) : isV c x.1 x.2.1 x.2.2 v.1 v.2.1 v.2.2 = 1 := by
  unfold isV
  rw [if_neg (by rintro (e | e); exact h1 e; exact e h2)]
  unfold cmpW at h3
  rw [h3]; rfl
theorem isB_of {c : Int} {x v : V} (h1 : ¬ x.1 = 0) (h2 : x.1 = v.1) (h3 : standsB c (cmpW x v) = true) : isB c x v = true := by
  unfold isB; rw [isV_of h1 h2 h3]; rfl
theorem stands1 (o : Int) : standsB 1 o = true ↔ o = 0 := by simp [standsB]
theorem stands2 (o : Int) : standsB 2 o = true ↔ ¬ o = 0 := by simp [standsB]
theorem stands3 (o : Int) : standsB 3 o = true ↔ o < 0 := by simp [standsB]
theorem stands4 (o : Int) : standsB 4 o = true ↔ o ≤ 0 := by simp [standsB]
theorem stands5 (o : Int) : standsB 5 o = true ↔ 0 < o := by simp [standsB]
theorem stands6 (o : Int) : standsB 6 o = true ↔ 0 ≤ o := by simp [standsB]
theorem stands_opp {c o : Int} (hc : 1 ≤ c) (hc' : c ≤ 6) (h : standsB c o = false) : standsB (opp c) o = true := by
  rcases (show c = 1 ∨ c = 2 ∨ c = 3 ∨ c = 4 ∨ c = 5 ∨ c = 6 by omega) with rfl | rfl | rfl | rfl | rfl | rfl
  · rw [show opp 1 = 2 from rfl, stands2]; intro e; rw [(stands1 o).2 e] at h; cases h
  · rw [show opp 2 = 1 from rfl, stands1]; exact Classical.byContradiction fun e => by rw [(stands2 o).2 e] at h; cases h
  · rw [show opp 3 = 6 from rfl, stands6]; exact Classical.byContradiction fun e => by rw [(stands3 o).2 (by omega)] at h; cases h
  · rw [show opp 4 = 5 from rfl, stands5]; exact Classical.byContradiction fun e => by rw [(stands4 o).2 (by omega)] at h; cases h
  · rw [show opp 5 = 4 from rfl, stands4]; exact Classical.byContradiction fun e => by rw [(stands5 o).2 (by omega)] at h; cases h
  · rw [show opp 6 = 3 from rfl, stands3]; exact Classical.byContradiction fun e => by rw [(stands6 o).2 (by omega)] at h; cases h
theorem opp_range {c : Int} (hc : 1 ≤ c) (hc' : c ≤ 8) : 1 ≤ opp c ∧ opp c ≤ 8 := by
  rcases (show c = 1 ∨ c = 2 ∨ c = 3 ∨ c = 4 ∨ c = 5 ∨ c = 6 ∨ c = 7 ∨ c = 8 by omega) with rfl | rfl | rfl | rfl | rfl | rfl | rfl | rfl <;> decide
theorem opp_low {c : Int} (hc : 1 ≤ c) (hc' : c ≤ 6) : ¬ opp c = 7 ∧ ¬ opp c = 8 := by
  rcases (show c = 1 ∨ c = 2 ∨ c = 3 ∨ c = 4 ∨ c = 5 ∨ c = 6 by omega) with rfl | rfl | rfl | rfl | rfl | rfl <;> decide
theorem leaf_opp {c : Int} {x v : V} (hc : 1 ≤ c) (hc' : c ≤ 8) (h : leafI c x v = 0) : leafI (opp c) x v = 1 := by
  by_cases h7 : c = 7
  · subst h7
    have hx : (x.1 == 0) = false := by
      cases e : (x.1 == 0) with
      | false => rfl
      | true => simp [leafI, e, b2i] at h
    rw [show opp 7 = 8 from rfl]
    have hx' : ¬ x.1 = 0 := by simpa using hx
    simp [leafI, b2i, hx']
  by_cases h8 : c = 8
  · subst h8
    have hx : x.1 = 0 := Classical.byContradiction fun e => by simp [leafI, b2i, e] at h
    rw [show opp 8 = 7 from rfl]
    simp [leafI, b2i, hx]
  · have hl : isV c x.1 x.2.1 x.2.2 v.1 v.2.1 v.2.2 = 0 := by simpa [leafI, h7, h8] using h
    obtain ⟨a1, a2, a3⟩ := isV_nought hl
    have ho := opp_low hc (by omega)
    unfold leafI
    rw [if_neg ho.1, if_neg ho.2]
    exact isV_of a1 a2 (stands_opp hc (by omega) a3)

/-- A condition of a column that is 1 of one of its values may hold of what is known of them. -/
theorem leaf_may {c : Int} {s : St} {x v : V} (hc : 1 ≤ c) (hc' : c ≤ 8) (hk : Link s x) (h : leafI c x v = 1) : mayCol c s v = true := by
  obtain ⟨l, hs, ha, hx⟩ := hk
  by_cases h7 : c = 7
  · subst h7
    have hx0 : x.1 = 0 := Classical.byContradiction fun e => by simp [leafI, b2i, e] at h
    have := hs.null hx hx0
    simp [mayCol, this]
  by_cases h8 : c = 8
  · subst h8
    have hx0 : ¬ x.1 = 0 := fun e => by simp [leafI, b2i, e] at h
    have := (hs.some ha hx hx0).1
    simp [mayCol, this]
  have hl : isV c x.1 x.2.1 x.2.2 v.1 v.2.1 v.2.2 = 1 := by simpa [leafI, h7, h8] using h
  obtain ⟨a1, a2, a3⟩ := isV_one hl
  obtain ⟨_, d1, d2, d3, d4⟩ := hs.some ha hx a1
  have m1 : ¬ s.2.2.1.1 = 0 := by rw [d1]; exact a1
  have m2 : s.2.2.1.1 = v.1 := d1.trans a2
  have x1 : ¬ s.2.2.2.1 = 0 := by rw [d2]; exact a1
  have x2 : s.2.2.2.1 = v.1 := d2.trans a2
  have sw1 := cmpW_swap s.2.2.1 v
  have sw2 := cmpW_swap s.2.2.2 v
  have sw3 := cmpW_swap x v
  have sw4 := cmpW_swap x s.2.2.2
  have sw5 := cmpW_swap s.2.2.1 x
  rcases (show c = 1 ∨ c = 2 ∨ c = 3 ∨ c = 4 ∨ c = 5 ∨ c = 6 by omega) with rfl | rfl | rfl | rfl | rfl | rfl
  · rw [stands1] at a3
    have e := cmpW_zero.1 a3
    subst e
    have b1 : isB 4 s.2.2.1 x = true := isB_of m1 m2 ((stands4 _).2 d3)
    have b2 : isB 6 s.2.2.2 x = true := isB_of x1 x2 ((stands6 _).2 (by omega))
    simp [mayCol, b1, b2]
  · rw [stands2] at a3
    have : ¬ cmpW s.2.2.1 v = 0 ∨ ¬ cmpW s.2.2.2 v = 0 := Classical.byContradiction fun e => by
      have e1 : cmpW s.2.2.1 v = 0 := Classical.byContradiction fun f => e (.inl f)
      have e2 : cmpW s.2.2.2 v = 0 := Classical.byContradiction fun f => e (.inr f)
      rw [cmpW_zero] at e1 e2
      rw [e1] at d3
      rw [e2] at d4
      exact a3 (cmpW_zero.2 (cmpW_anti d4 d3))
    rcases this with e | e
    · have b1 : isB 2 s.2.2.1 v = true := isB_of m1 m2 ((stands2 _).2 e)
      simp [mayCol, b1]
    · have b1 : isB 2 s.2.2.2 v = true := isB_of x1 x2 ((stands2 _).2 e)
      simp [mayCol, b1]
  · rw [stands3] at a3
    have : cmpW s.2.2.1 v < 0 := Classical.byContradiction fun e => by
      have : cmpW v x ≤ 0 := cmpW_trans (y := s.2.2.1) (by omega) d3
      omega
    have b1 : isB 3 s.2.2.1 v = true := isB_of m1 m2 ((stands3 _).2 this)
    simp [mayCol, b1]
  · rw [stands4] at a3
    have b1 : isB 4 s.2.2.1 v = true := isB_of m1 m2 ((stands4 _).2 (cmpW_trans d3 a3))
    simp [mayCol, b1]
  · rw [stands5] at a3
    have : 0 < cmpW s.2.2.2 v := Classical.byContradiction fun e => by
      have : cmpW x v ≤ 0 := cmpW_trans d4 (by omega)
      omega
    have b1 : isB 5 s.2.2.2 v = true := isB_of x1 x2 ((stands5 _).2 this)
    simp [mayCol, b1]
  · rw [stands6] at a3
    have : cmpW v s.2.2.2 ≤ 0 := cmpW_trans (y := x) (by omega) d4
    have b1 : isB 6 s.2.2.2 v = true := isB_of x1 x2 ((stands6 _).2 (by omega))
    simp [mayCol, b1]

theorem notI_one {n : Int} (h : notI n = 1) : n = 0 := by unfold notI at h; split at h <;> omega
theorem notI_nought {n : Int} (h : notI n = 0) : n = 1 := by unfold notI at h; split at h <;> omega
theorem andI_one {a b : Int} (ha : -1 ≤ a ∧ a ≤ 1) (hb : -1 ≤ b ∧ b ≤ 1) (h : andI a b = 1) : a = 1 ∧ b = 1 := by unfold andI at h; split at h <;> omega
theorem andI_nought {a b : Int} (h : andI a b = 0) : a = 0 ∨ b = 0 := by unfold andI at h; split at h <;> omega
theorem orJ_one {a b : Int} (ha : -1 ≤ a ∧ a ≤ 1) (hb : -1 ≤ b ∧ b ≤ 1) (h : orJ a b = 1) : a = 1 ∨ b = 1 := by unfold orJ at h; split at h <;> omega
theorem orJ_nought {a b : Int} (ha : -1 ≤ a ∧ a ≤ 1) (hb : -1 ≤ b ∧ b ≤ 1) (h : orJ a b = 0) : a = 0 ∧ b = 0 := by
  unfold orJ at h; split at h
  · omega
  · constructor <;> omega

theorem sound (gs : ByteArray → St) (gv : ByteArray → V) (hk : ∀ col, Link (gs col) (gv col)) : ∀ T : CT, okT T →
    (evT (fun s => (gv s).1) (fun s => (gv s).2.1) (fun s => (gv s).2.2) T = 1 → mayT gs false T = true) ∧ (evT (fun s => (gv s).1) (fun s => (gv s).2.1) (fun s => (gv s).2.2) T = 0 → mayT gs true T = true)
  | .nil, _ => ⟨fun _ => rfl, fun h => by simp [evT] at h⟩
  | .node a0 o0 ⟨c, col, k, n, t⟩ l r, h => by
    obtain ⟨hc, hl, hr⟩ := h
    have il := sound gs gv hk l hl
    have ir := sound gs gv hk r hr
    have rl := evT_range (fun s => (gv s).1) (fun s => (gv s).2.1) (fun s => (gv s).2.2) l
    have rr := evT_range (fun s => (gv s).1) (fun s => (gv s).2.1) (fun s => (gv s).2.2) r
    by_cases h9 : c = 9
    · rw [← m9f h9, ← m9t h9, ← e9 h9]
      constructor
      · intro e
        obtain ⟨e1, e2⟩ := andI_one rl rr e
        rw [il.1 e1, ir.1 e2]; rfl
      · intro e
        rcases andI_nought e with e1 | e1
        · rw [il.2 e1]; rfl
        · rw [ir.2 e1]; simp
    by_cases h10 : c = 10
    · rw [← m10f h10, ← m10t h10, ← e10 h10]
      constructor
      · intro e
        rcases orJ_one rl rr e with e1 | e1
        · rw [il.1 e1]; rfl
        · rw [ir.1 e1]; simp
      · intro e
        obtain ⟨e1, e2⟩ := orJ_nought rl rr e
        rw [il.2 e1, ir.2 e2]; rfl
    by_cases h11 : c = 11
    · rw [← m11f h11, ← m11t h11, ← e11 h11]
      exact ⟨fun e => il.2 (notI_one e), fun e => il.1 (notI_nought e)⟩
    · have he : evT (fun s => (gv s).1) (fun s => (gv s).2.1) (fun s => (gv s).2.2) (.node a0 o0 ⟨c, col, k, n, t⟩ l r) = leafI c (gv col) (k, n, t) := by
        by_cases h7 : c = 7
        · rw [← e7 h7]; simp [leafI, h7]
        by_cases h8 : c = 8
        · rw [← e8 h8]; simp [leafI, h8]
        · rw [← e0 ⟨h7, h8, h11, h9, h10⟩]; simp [leafI, h7, h8]
      rw [he, ← m0f ⟨h9, h10, h11⟩, ← m0t ⟨h9, h10, h11⟩]
      refine ⟨fun e => leaf_may (by omega) (by omega) (hk col) e, fun e => ?_⟩
      have ho := opp_range (c := c) (by omega) (by omega)
      exact leaf_may ho.1 ho.2 (hk col) (leaf_opp (by omega) (by omega) e)
end Go.Proofs.YtmghdphafepifaaDoor
