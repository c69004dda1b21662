/- Plain mathematics of package log: two lists of actions that touch no file of one name may be done in either order. -/
import Derived.Test.YtfppidnfomelpaaGreatDoorLM
namespace Go.Proofs.YtfppidnfomelpaaGreatDoor
open Go

/-- What is known of a file by its name. -/
def look (l : List Ent) (p : ByteArray) : Option (Int × List Int) := (l.find? fun e => decide (e.1 = p)).map (·.2)

theorem look_none {l : List Ent} {p : ByteArray} : look l p = none ↔ ∀ e ∈ l, e.1 ≠ p := by
  simp only [look, Option.map_eq_none_iff, List.find?_eq_none, decide_eq_true_eq, ne_eq]
theorem look_mem {l : List Ent} (h : (l.map (·.1)).Nodup) {e : Ent} (he : e ∈ l) : look l e.1 = some e.2 := by
  induction l with
  | nil => cases he
  | cons x l ih =>
    simp only [List.map_cons, List.nodup_cons] at h
    rcases List.mem_cons.1 he with rfl | he
    · simp [look]
    · have hne : x.1 ≠ e.1 := fun hh => h.1 (hh ▸ List.mem_map_of_mem he)
      have := ih h.2 he
      simp only [look, List.find?_cons, decide_eq_false hne] at this ⊢
      exact this
theorem look_some {l : List Ent} {p : ByteArray} {x : Int × List Int} (h : look l p = some x) : (p, x) ∈ l := by
  simp only [look, Option.map_eq_some_iff] at h
  obtain ⟨e, he, rfl⟩ := h
  have h1 := List.find?_some he
  simp at h1
  subst h1
  exact List.mem_of_find?_eq_some he
theorem look_app {l m : List Ent} {p : ByteArray} : look (l ++ m) p = (look l p).or (look m p) := by
  simp only [look, List.find?_append]
  cases l.find? fun e => decide (e.1 = p) <;> rfl
theorem where_look {l : List Ent} {p : ByteArray} (h : whereF l p < 0) : look l p = none := by
  rcases where_cases l p with ⟨_, hn⟩ | ⟨k, _, hf, _⟩
  · rw [look_none]
    intro e he
    obtain ⟨j, hj, rfl⟩ := List.getElem_of_mem he
    have := hn j hj
    rwa [getElem!_pos l j hj] at this
  · omega
theorem look_where {l : List Ent} {p : ByteArray} (h : look l p = none) : whereF l p < 0 := by
  rcases where_cases l p with ⟨h0, _⟩ | ⟨k, hk, hf, hp, _⟩
  · omega
  · exact (look_none.1 h _ (mem_ent hk) hp).elim
theorem where_at {l : List Ent} {p : ByteArray} (hn : (l.map (·.1)).Nodup) (h : 0 ≤ whereF l p) : ∃ k, k < l.length ∧ (whereF l p).toNat = k ∧ l[k]!.1 = p ∧ look l p = some l[k]!.2 := by
  rcases where_cases l p with ⟨h0, _⟩ | ⟨k, hk, hf, hp, _⟩
  · omega
  · refine ⟨k, hk, by omega, hp, ?_⟩
    have := look_mem hn (mem_ent hk)
    rwa [hp] at this
theorem at_where {l : List Ent} {p : ByteArray} {x : Int × List Int} (h : look l p = some x) : 0 ≤ whereF l p := by
  rcases where_cases l p with ⟨_, hn⟩ | ⟨k, hk, hf, hp, _⟩
  · have := look_some h
    obtain ⟨j, hj, e⟩ := List.getElem_of_mem this
    have h2 := hn j hj
    rw [getElem!_pos l j hj, e] at h2
    exact (h2 rfl).elim
  · omega

theorem nodup_at {l : List Ent} (hn : (l.map (·.1)).Nodup) {i j : Nat} (hi : i < l.length) (hj : j < l.length) (h : l[i].1 = l[j].1) : i = j := by
  have := (List.getElem_inj (xs := l.map (·.1)) (i := i) (j := j) (h₀ := by simpa using hi) (h₁ := by simpa using hj) hn).1 (by simpa using h)
  exact this
theorem look_erase {l : List Ent} (hn : (l.map (·.1)).Nodup) {k : Nat} (hk : k < l.length) (q : ByteArray) : look (l.eraseIdx k) q = if q = l[k]!.1 then none else look l q := by
  have hn2 : ((l.eraseIdx k).map (·.1)).Nodup := hn.sublist ((List.eraseIdx_sublist _ _).map _)
  split
  · rename_i e
    subst e
    rw [look_none]
    intro e he hh
    obtain ⟨i, hi, hne, rfl⟩ := List.mem_eraseIdx_iff_getElem.1 he
    rw [getElem!_pos l k hk] at hh
    exact hne (nodup_at hn hi hk hh)
  · rename_i hq
    cases hl : look l q with
    | none =>
      rw [look_none] at hl ⊢
      exact fun e he => hl e (List.mem_of_mem_eraseIdx he)
    | some x =>
      have hm := look_some hl
      have : (q, x) ∈ l.eraseIdx k := by
        rw [List.mem_eraseIdx_iff_getElem]
        obtain ⟨i, hi, e⟩ := List.getElem_of_mem hm
        refine ⟨i, hi, ?_, e⟩
        intro hik
        subst hik
        apply hq
        rw [getElem!_pos l i hi, e]
      exact look_mem hn2 this
theorem look_set {l : List Ent} (hn : (l.map (·.1)).Nodup) {k : Nat} (hk : k < l.length) {e : Ent} (he : e.1 = l[k]!.1) (q : ByteArray) : look (l.set k e) q = if q = l[k]!.1 then some e.2 else look l q := by
  have hn2 : ((l.set k e).map (·.1)).Nodup := by rw [set_names hk he]; exact hn
  split
  · rename_i hq
    have : e ∈ l.set k e := List.mem_set hk e
    have := look_mem hn2 this
    rw [hq, ← he]
    exact this
  · rename_i hq
    cases hl : look l q with
    | none =>
      rw [look_none] at hl ⊢
      intro x hx
      rcases List.mem_or_eq_of_mem_set hx with hx | rfl
      · exact hl x hx
      · exact fun hh => hq (by rw [← hh, he])
    | some x =>
      have hm := look_some hl
      obtain ⟨i, hi, ei⟩ := List.getElem_of_mem hm
      have hik : k ≠ i := by
        intro hik
        subst hik
        apply hq
        rw [getElem!_pos l k hk, ei]
      have : (q, x) ∈ l.set k e := by
        rw [List.mem_iff_getElem]
        refine ⟨i, by simpa using hi, ?_⟩
        rw [List.getElem_set_ne hik, ei]
      exact look_mem hn2 this

section
variable {nb : ByteArray → Bool} {cb : ByteArray → Bool} {fb : Int → Int → Int → ByteArray → Bool}

/-- What an action makes of one file. -/
def Step (nb : ByteArray → Bool) (a : Actn) (x y : Option (Int × List Int)) : Prop :=
  (a.1 = 1 ∧ nb a.2.1 = true ∧ 1 ≤ a.2.2.1 ∧ a.2.2.1 ≤ 60 ∧ x = none ∧ y = some (a.2.2.1, [])) ∨ (a.1 = 2 ∧ x ≠ none ∧ y = none) ∨
  (a.1 = 3 ∧ ∃ r m, x = some (r, m) ∧ risingB a.2.2.2.1 r = true ∧ anyB a.2.2.2.1 m = false ∧ y = some (r, sortR (m ++ a.2.2.2.1)))
def Count (a : Actn) (n m : Nat) : Prop := (a.1 = 1 ∧ m = n + 1) ∨ (a.1 = 2 ∧ m + 1 = n) ∨ (a.1 = 3 ∧ m = n)

theorem step_one {a : Actn} {x y z : Option (Int × List Int)} (h : Step nb a x y) (k : Step nb a x z) : y = z := by
  rcases h with ⟨h1, _, _, _, _, rfl⟩ | ⟨h1, _, rfl⟩ | ⟨h1, r, m, hx, _, _, rfl⟩ <;> rcases k with ⟨k1, _, _, _, _, rfl⟩ | ⟨k1, _, rfl⟩ | ⟨k1, r', m', hx', _, _, rfl⟩ <;> first | rfl | (exfalso; omega) | skip
  rw [hx] at hx'
  cases hx'
  rfl

theorem does_step {s t : Snap} {a : Actn} (g : Good cb fb s) (h : Does nb cb fb s a t) (h4 : a.1 ≠ 4) :
    t.cols = s.cols ∧ t.next = s.next ∧ (∀ q, q ≠ a.2.1 → look t.files q = look s.files q) ∧ Step nb a (look s.files a.2.1) (look t.files a.2.1) ∧ Count a s.files.length t.files.length := by
  rcases h with ⟨h0, ⟨h1, h2, h3, hw, _, _⟩, rfl⟩ | ⟨h0, hw, rfl⟩ | ⟨h0, ⟨hw, hr, ha⟩, rfl⟩ | ⟨h0, _⟩
  · refine ⟨rfl, rfl, ?_, .inl ⟨h0, h1, h2, h3, where_look hw, ?_⟩, .inl ⟨h0, by simp [addS]⟩⟩
    · intro q hq
      simp only [addS]
      rw [look_app]
      have : look [(a.2.1, a.2.2.1, ([] : List Int))] q = none := by rw [look_none]; intro e he; simp at he; subst he; exact fun e => hq e.symm
      rw [this]
      cases look s.files q <;> rfl
    · simp only [addS]
      rw [look_app, where_look hw]
      simp [look]
  · obtain ⟨k, hk, e0, hp, hl⟩ := where_at g.once hw
    unfold remS
    rw [e0]
    have hE := look_erase g.once hk
    refine ⟨rfl, rfl, ?_, .inr (.inl ⟨h0, by rw [hl]; simp, ?_⟩), .inr (.inl ⟨h0, ?_⟩)⟩
    · intro q hq
      rw [hE, if_neg (by rw [hp]; exact hq)]
    · rw [hE, if_pos (by rw [hp])]
    · have := List.length_eraseIdx_of_lt hk
      simp only
      omega
  · obtain ⟨k, hk, e0, hp, hl⟩ := where_at g.once hw
    rw [e0] at hr ha
    unfold mskS
    rw [e0]
    have hE := look_set g.once hk (e := maskE s.files[k]! a.2.2.2.1) rfl
    refine ⟨rfl, rfl, ?_, .inr (.inr ⟨h0, _, _, hl, hr, ha, ?_⟩), .inr (.inr ⟨h0, by simp⟩)⟩
    · intro q hq
      rw [hE, if_neg (by rw [hp]; exact hq)]
    · rw [hE, if_pos (by rw [hp])]
      rfl
  · exact (h4 h0).elim
theorem step_does {s : Snap} {a : Actn} {y : Option (Int × List Int)} (g : Good cb fb s) (h : Step nb a (look s.files a.2.1) y) (hc : a.1 = 1 → s.cols ≠ [] ∧ s.files.length < 40) : ∃ t, Does nb cb fb s a t := by
  rcases h with ⟨h0, h1, h2, h3, hx, _⟩ | ⟨h0, hx, _⟩ | ⟨h0, r, m, hx, hr, ha, _⟩
  · exact ⟨_, .inl ⟨h0, ⟨h1, h2, h3, look_where hx, (hc h0).1, (hc h0).2⟩, rfl⟩⟩
  · obtain ⟨x, hx'⟩ := Option.ne_none_iff_exists'.1 hx
    exact ⟨_, .inr (.inl ⟨h0, at_where hx', rfl⟩)⟩
  · have hw := at_where hx
    obtain ⟨k, hk, e0, hp, hl⟩ := where_at g.once hw
    rw [hl] at hx
    have hx' := Option.some.inj hx
    refine ⟨_, .inr (.inr (.inl ⟨h0, ⟨hw, ?_, ?_⟩, rfl⟩))⟩
    · rw [e0, hx']; exact hr
    · rw [e0, hx']; exact ha

theorem runs_len : ∀ {r : List Actn} {s t : Snap}, Runs nb cb fb s r t → Good cb fb s → (∀ a ∈ r, a.1 ≠ 4) → s.files.length ≤ t.files.length + r.length ∧ t.files.length ≤ s.files.length + r.length
  | [], _, _, h, _, _ => by simp only [Runs] at h; subst h; simp
  | a :: r, s, t, ⟨u, h1, h2⟩, g, h4 => by
    have h := runs_len h2 (does_good h1 g) (fun b hb => h4 b (List.mem_cons_of_mem _ hb))
    have := (does_step g h1 (h4 a (List.mem_cons_self ..))).2.2.2.2
    simp only [List.length_cons]
    rcases this with ⟨_, e⟩ | ⟨_, e⟩ | ⟨_, e⟩ <;> omega

theorem lock (n : Nat) (P : ByteArray → Prop) : ∀ (r : List Actn) (u v y : Snap) (k : Nat), Runs nb cb fb u r y → (∀ a ∈ r, a.1 ≠ 4) → (∀ a ∈ r, P a.2.1) → Good cb fb u → Good cb fb v → u.cols = v.cols →
    (∀ q, P q → look u.files q = look v.files q) → k + r.length ≤ 12 → u.files.length ≤ n + k → (v.files.length : Int) - u.files.length ≤ 12 → (n : Int) + (v.files.length - u.files.length) + y.files.length ≤ 40 →
    ∃ z, Runs nb cb fb v r z ∧ (∀ q, P q → look y.files q = look z.files q) ∧ (∀ q, ¬ P q → look z.files q = look v.files q) ∧ z.cols = v.cols ∧ z.next = v.next ∧ z.files.length + u.files.length = y.files.length + v.files.length
  | [], u, v, y, k, h, _, _, _, _, _, hl, _, _, _, _ => by
    simp only [Runs] at h
    subst h
    exact ⟨v, rfl, hl, fun _ _ => rfl, rfl, rfl, by omega⟩
  | a :: r, u, v, y, k, ⟨u1, h1, h2⟩, h4, hP, gu, gv, hc, hl, hk, hn, hd, hs => by
    have ha4 := h4 a (List.mem_cons_self ..)
    have hPa := hP a (List.mem_cons_self ..)
    have h4' : ∀ b ∈ r, b.1 ≠ 4 := fun b hb => h4 b (List.mem_cons_of_mem _ hb)
    obtain ⟨c1, c2, c3, c4, c5⟩ := does_step gu h1 ha4
    have hlen := runs_len h2 (does_good h1 gu) h4'
    simp only [List.length_cons] at hk
    rw [hl _ hPa] at c4
    obtain ⟨v1, k1⟩ : ∃ t, Does nb cb fb v a t := step_does gv c4 (fun e1 => by
      refine ⟨?_, ?_⟩
      · rcases h1 with ⟨_, ⟨_, _, _, _, hcol, _⟩, _⟩ | ⟨e, _⟩ | ⟨e, _⟩ | ⟨e, _⟩
        · rw [← hc]; exact hcol
        all_goals omega
      · rcases c5 with ⟨_, e⟩ | ⟨e', _⟩ | ⟨e', _⟩ <;> omega)
    obtain ⟨d1, d2, d3, d4, d5⟩ := does_step gv k1 ha4
    have hy := step_one c4 d4
    have hl1 : ∀ q, P q → look u1.files q = look v1.files q := fun q hq => by
      by_cases e : q = a.2.1
      · rw [e]; exact hy
      · rw [c3 q e, d3 q e]; exact hl q hq
    have hdiff : (v1.files.length : Int) - u1.files.length = v.files.length - u.files.length := by
      rcases c5 with ⟨x, e⟩ | ⟨x, e⟩ | ⟨x, e⟩ <;> rcases d5 with ⟨x', e'⟩ | ⟨x', e'⟩ | ⟨x', e'⟩ <;> omega
    obtain ⟨z, z1, z2, z3, z4, z5, z6⟩ := lock n P r u1 v1 y (k + 1) h2 h4' (fun b hb => hP b (List.mem_cons_of_mem _ hb)) (does_good h1 gu) (does_good k1 gv) (by rw [c1, d1, hc]) hl1 (by omega)
      (by rcases c5 with ⟨_, e⟩ | ⟨_, e⟩ | ⟨_, e⟩ <;> omega) (by omega) (by omega)
    refine ⟨z, ⟨v1, k1, z1⟩, z2, ?_, z4.trans d1, z5.trans d2, by omega⟩
    intro q hq
    rw [z3 q hq]
    exact d3 q (fun e => hq (e ▸ hPa))

theorem runs_else : ∀ {r : List Actn} {s t : Snap}, Runs nb cb fb s r t → Good cb fb s → (∀ a ∈ r, a.1 ≠ 4) → ∀ q, (∀ a ∈ r, a.2.1 ≠ q) → look t.files q = look s.files q
  | [], _, _, h, _, _, _, _ => by simp only [Runs] at h; subst h; rfl
  | a :: r, s, t, ⟨u, h1, h2⟩, g, h4, q, hq => by
    rw [runs_else h2 (does_good h1 g) (fun b hb => h4 b (List.mem_cons_of_mem _ hb)) q (fun b hb => hq b (List.mem_cons_of_mem _ hb))]
    exact (does_step g h1 (h4 a (List.mem_cons_self ..))).2.2.1 q (fun e => hq a (List.mem_cons_self ..) e.symm)
theorem runs_cols : ∀ {r : List Actn} {s t : Snap}, Runs nb cb fb s r t → Good cb fb s → (∀ a ∈ r, a.1 ≠ 4) → t.cols = s.cols ∧ t.next = s.next
  | [], _, _, h, _, _ => by simp only [Runs] at h; subst h; exact ⟨rfl, rfl⟩
  | a :: r, s, t, ⟨u, h1, h2⟩, g, h4 => by
    have h := runs_cols h2 (does_good h1 g) (fun b hb => h4 b (List.mem_cons_of_mem _ hb))
    have k := does_step g h1 (h4 a (List.mem_cons_self ..))
    exact ⟨h.1.trans k.1, h.2.trans k.2.1⟩

/-- Two tables are the same but for the order of their files. -/
structure Alike (x y : Snap) : Prop where
  ver : x.ver = y.ver
  cols : x.cols = y.cols
  next : x.next = y.next
  len : x.files.length = y.files.length
  files : ∀ q, look x.files q = look y.files q

theorem commutes {s x y : Snap} {a b : Com} (g : Good cb fb s) (ha : Applies nb cb fb s a x) (hb : Applies nb cb fb s b y) (a4 : ∀ c ∈ a.2.2, c.1 ≠ 4) (b4 : ∀ c ∈ b.2.2, c.1 ≠ 4) (hap : ∀ c ∈ a.2.2, ∀ d ∈ b.2.2, c.2.1 ≠ d.2.1)
    (la : a.2.2.length ≤ 12) (lb : b.2.2.length ≤ 12) (hs : x.files.length + y.files.length ≤ 40) : ∃ x' y', Applies nb cb fb x b x' ∧ Applies nb cb fb y a y' ∧ Alike x' y' := by
  have g1 : Good cb fb (bump s) := ⟨g.few, g.cols, g.once, g.masks, g.rows⟩
  have gx := applies_good ha g
  have gy := applies_good hb g
  have gx1 : Good cb fb (bump x) := ⟨gx.few, gx.cols, gx.once, gx.masks, gx.rows⟩
  have gy1 : Good cb fb (bump y) := ⟨gy.few, gy.cols, gy.once, gy.masks, gy.rows⟩
  have lx := runs_len ha.2 g1 a4
  have ly := runs_len hb.2 g1 b4
  obtain ⟨cx, nx⟩ := runs_cols ha.2 g1 a4
  obtain ⟨cy, ny⟩ := runs_cols hb.2 g1 b4
  have ex := runs_else ha.2 g1 a4
  have ey := runs_else hb.2 g1 b4
  have sb : (bump s).files = s.files := rfl
  have xb : (bump x).files = x.files := rfl
  have yb : (bump y).files = y.files := rfl
  rw [sb] at lx ly
  obtain ⟨x', X1, X2, X3, X4, X5, X6⟩ := lock s.files.length (fun q => ∃ d ∈ b.2.2, d.2.1 = q) b.2.2 (bump s) (bump x) y 0 hb.2 b4 (fun d hd => ⟨d, hd, rfl⟩) g1 gx1 cx.symm (fun q ⟨d, hd, e⟩ => by
    rw [xb]; exact (ex q (fun c hc e' => hap c hc d hd (e'.trans e.symm))).symm) (by omega) (by rw [sb]; omega) (by rw [sb, xb]; omega) (by rw [sb, xb]; omega)
  obtain ⟨y', Y1, Y2, Y3, Y4, Y5, Y6⟩ := lock s.files.length (fun q => ∃ d ∈ a.2.2, d.2.1 = q) a.2.2 (bump s) (bump y) x 0 ha.2 a4 (fun d hd => ⟨d, hd, rfl⟩) g1 gy1 cy.symm (fun q ⟨d, hd, e⟩ => by
    rw [yb]; exact (ey q (fun c hc e' => hap d hd c hc (e.trans e'.symm))).symm) (by omega) (by rw [sb]; omega) (by rw [sb, yb]; omega) (by rw [sb, yb]; omega)
  refine ⟨x', y', ⟨hb.1, X1⟩, ⟨ha.1, Y1⟩, ?_, ?_, ?_, ?_, ?_⟩
  · rw [runs_ver X1, runs_ver Y1]
    show x.ver + 1 = y.ver + 1
    rw [applies_ver ha, applies_ver hb]
  · rw [X4, Y4]; exact cx.trans cy.symm
  · rw [X5, Y5]; exact nx.trans ny.symm
  · rw [sb, xb] at X6; rw [sb, yb] at Y6; omega
  · intro q
    by_cases hq : ∃ d ∈ b.2.2, d.2.1 = q
    · have hq2 : ¬ ∃ d ∈ a.2.2, d.2.1 = q := fun ⟨c, hc, e⟩ => by obtain ⟨d, hd, e'⟩ := hq; exact hap c hc d hd (e.trans e'.symm)
      rw [← X2 q hq, Y3 q hq2]; rfl
    · by_cases hq2 : ∃ d ∈ a.2.2, d.2.1 = q
      · rw [X3 q hq, ← Y2 q hq2]; rfl
      · rw [X3 q hq, Y3 q hq2, xb, yb, ex q (fun c hc e => hq2 ⟨c, hc, e⟩), ey q (fun c hc e => hq ⟨c, hc, e⟩)]
end
end Go.Proofs.YtfppidnfomelpaaGreatDoor
