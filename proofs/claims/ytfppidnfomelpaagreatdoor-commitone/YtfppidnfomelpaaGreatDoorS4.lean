/- A commit and a log as they lie; what the walk of the law wants. -/
import Derived.Test.YtfppidnfomelpaaGreatDoorS3
import Derived.Test.YtfppidnfomelpaaGreatDoorC1
import Derived.Test.YtfppidnfomelpaaGreatDoorC2
import Derived.Test.YtfppidnfomelpaaGreatDoorC3
namespace Go.Proofs.YtfppidnfomelpaaGreatDoor
open Go.RowKit Go.Proofs Go.Lib Go.Joins Go.Maps

theorem named_names {s : Snap} : Named s ↔ ∀ p ∈ s.files.map (·.1), p.size ≤ 16 := by
  unfold Named
  constructor
  · intro h p hp
    obtain ⟨e, he, rfl⟩ := List.mem_map.1 hp
    exact h e he
  · intro h e he
    exact h _ (List.mem_map_of_mem he)
theorem does_named {s t : Snap} {a : Actn} (h : DoesL s a t) (g : Named s) : Named t := by
  rcases h with ⟨_, ⟨hn, _, _, _, _, _⟩, rfl⟩ | ⟨_, _, rfl⟩ | ⟨_, ⟨hw, _⟩, rfl⟩ | ⟨_, _, rfl⟩
  · intro e he
    simp only [addS, List.mem_append, List.mem_singleton] at he
    rcases he with he | rfl
    · exact g e he
    · exact name_small hn
  · intro e he
    exact g e (List.mem_of_mem_eraseIdx he)
  · intro e he
    simp only [mskS] at he
    rcases List.mem_or_eq_of_mem_set he with he | rfl
    · exact g e he
    · rcases where_cases s.files a.2.1 with h1 | ⟨k, hk, h1, _⟩
      · omega
      · rw [h1]; show (s.files[k]!).1.size ≤ 16; exact g _ (mem_ent hk)
  · exact g
theorem runs_named : ∀ {l : List Actn} {s t : Snap}, RunsL s l t → Named s → Named t
  | [], _, _, h, g => by simp only [RunsL, Runs] at h; subst h; exact g
  | a :: l, s, t, ⟨u, h1, h2⟩, g => runs_named (l := l) h2 (does_named h1 g)
theorem applies_named {s t : Snap} {c : Com} (h : AppliesL s c t) (g : Named s) : Named t := runs_named h.2 g
theorem applies_one {s t u : Snap} {c : Com} (h : AppliesL s c t) (k : AppliesL s c u) : t = u := runs_one h.2 k.2

theorem put4 (W : World) (b : Nat) (c0 c1 c2 c3 v0 v1 v2 v3 : Value) (T : TypeId) (h : W.heap[b]? = some (.cells #[c0, c1, c2, c3] T (0, 0))) :
    ((((W.setCell ⟨b, 0, none⟩ v0).setCell ⟨b, 1, none⟩ v1).setCell ⟨b, 2, none⟩ v2).setCell ⟨b, 3, none⟩ v3).heap[b]? = some (.cells #[v0, v1, v2, v3] T (0, 0)) ∧ W.grownBy ((((W.setCell ⟨b, 0, none⟩ v0).setCell ⟨b, 1, none⟩ v1).setCell ⟨b, 2, none⟩ v2).setCell ⟨b, 3, none⟩ v3) (some b) :=
  ⟨heap_setC _ b 3 _ T v3 (heap_setC _ b 2 _ T v2 (heap_setC _ b 1 _ T v1 (heap_setC _ b 0 _ T v0 h))), (((grown_setC W b 0 v0).trans (grown_setC _ b 1 v1)).trans (grown_setC _ b 2 v2)).trans (grown_setC _ b 3 v3)⟩
theorem SnapW.up {w W : World} {s : Snap} {v : Value} (h : SnapW w s v) (hb : Below w.heap.size w W) : SnapW W s v := by
  obtain ⟨a1, c1, a2, c2, L, e, hV⟩ := h
  exact ⟨a1, c1, a2, c2, L, e, hV.up hb⟩
theorem SnapW.put {w W : World} {s : Snap} {v : Value} {b : Nat} {cs : Array Value} (h : SnapW w s v) (hb : w.heap[b]? = some (.cells cs 47 (0, 0))) (hg : w.grownBy W (some b)) : SnapW W s v := by
  obtain ⟨a1, c1, a2, c2, L, e, hV⟩ := h
  refine ⟨a1, c1, a2, c2, L, e, ?_, hV.files, ?_, fun x hx => ?_⟩
  · exact own_keep hV.cols hg (fun k hk e => own_box hV.cols hb (by decide) (by rw [hk]; exact e.symm))
  · exact own_keep hV.row hg (fun k hk e => own_box hV.row hb (by decide) (by rw [hk]; exact e.symm))
  · exact own_keep (hV.masks x hx) hg (fun k hk e => own_box (hV.masks x hx) hb (by decide) (by rw [hk]; exact e.symm))
theorem snapW_zero (W : World) : SnapW W zeroS zeroSV := ⟨none, 0, none, 0, [], rfl, snapV_zero W⟩
theorem SnapW.len {W : World} {s : Snap} {x0 x2 : Int} {a1 a2 : Option Addr} {n1 c1 n2 c2 : Nat} (h : SnapW W s (.agg #[.int .i64 x0, .slice a1 n1 c1, .int .i64 x2, .slice a2 n2 c2])) : n2 = s.files.length := by
  obtain ⟨_, _, _, _, L, e, hV⟩ := h
  simp only [Value.agg.injEq, Array.mk.injEq, List.cons.injEq, Value.slice.injEq] at e
  rw [hV.files, List.length_map]
  exact e.2.2.2.1.2.1

/-- What Apply answers, in one form. -/
def ApOut (s : Snap) (c : Com) (x0 : Int) (a1 : Option Addr) (n1 c1 : Nat) (x2 : Int) (a2 : Option Addr) (n2 c2 : Nat) (er : Value) (w' : World) : Prop :=
  (er = .nilIface ∧ ∃ t, AppliesL s c t ∧ SnapW w' t (.agg #[.int .i64 x0, .slice a1 n1 c1, .int .i64 x2, .slice a2 n2 c2])) ∨ (∃ ty x, er = .iface ty x ∧ ∀ t, ¬ AppliesL s c t)
theorem apply_out (s : Snap) (sv' : Value) (tx : ByteArray) (rd : Bool) (acts : List Actn) (aa : Option Addr) (an ac : Nat) (w : World) (h : SnapW w s sv') (hg : Good colB fitB s) (hv0 : 0 ≤ s.ver) (hv1 : s.ver ≤ 1000)
    (ha : ActsAt w (.slice aa an ac) acts) (h12 : acts.length ≤ 1000) (htx : tx.size ≤ maxLen) (hw : NcB w) :
    Calls Tryz.prog 20 #[sv', .agg #[.string tx, .bool rd, .slice aa an ac]] w fun e w' => ∃ x0 a1 n1 c1 x2 a2 n2 c2 er, e = .returned (.tuple #[.agg #[.int .i64 x0, .slice a1 n1 c1, .int .i64 x2, .slice a2 n2 c2], er]) ∧ Below w.heap.size w w' ∧ ApOut s (tx, rd, acts) x0 a1 n1 c1 x2 a2 n2 c2 er w' := by
  refine (apply_any s sv' tx rd acts aa an ac w h hg hv0 hv1 ha h12 htx hw).mono ?_
  rintro e w' ⟨hb, ⟨t, v, h1, rfl, h2⟩ | ⟨ty, x, rfl, h2⟩⟩
  · obtain ⟨a1, c1, a2, c2, L, rfl, hV⟩ := h2
    exact ⟨_, _, _, _, _, _, _, _, _, rfl, hb, .inl ⟨rfl, t, h1, a1, c1, a2, c2, L, rfl, hV⟩⟩
  · exact ⟨_, _, _, _, _, _, _, _, _, rfl, hb, .inr ⟨ty, x, rfl, h2⟩⟩

/-- Commits l lie where v says. -/
def LogR (W : World) (v : Value) (l : List Com) : Prop := ((∃ a c, v = .slice a 0 c) ∧ l = []) ∨ ∃ g o c, v = .slice (some ⟨g, o, none⟩) l.length c ∧ l.length ≤ c ∧ g < W.heap.size ∧ ∀ j, j < l.length → ∃ aa an ac, W.cell? ⟨g, o + j * 3, none⟩ = some (.string l[j]!.1) ∧ W.cell? ⟨g, o + j * 3 + 1, none⟩ = some (.bool l[j]!.2.1) ∧ W.cell? ⟨g, o + j * 3 + 2, none⟩ = some (.slice aa an ac) ∧ ActsR W (.slice aa an ac) l[j]!.2.2 ∧ l[j]!.2.2.length ≤ maxLen ∧ l[j]!.1.size ≤ maxLen
theorem LogR.below {w W : World} {v : Value} {l : List Com} (h : LogR w v l) (hb : Below w.heap.size w W) : LogR W v l := by
  rcases h with h | ⟨g, o, c, h1, h2, h3, h4⟩
  · exact .inl h
  · refine .inr ⟨g, o, c, h1, h2, Nat.lt_of_lt_of_le h3 hb.size, fun j hj => ?_⟩
    obtain ⟨aa, an, ac, q0, q1, q2, h5, h6⟩ := h4 j hj
    exact ⟨aa, an, ac, (hb.cell (p := ⟨g, o + j * 3, none⟩) h3).trans q0, (hb.cell (p := ⟨g, o + j * 3 + 1, none⟩) h3).trans q1, (hb.cell (p := ⟨g, o + j * 3 + 2, none⟩) h3).trans q2, h5.below hb, h6⟩
theorem LogR.len {w : World} {a : Option Addr} {n c : Nat} {l : List Com} (h : LogR w (.slice a n c) l) : n = l.length := by
  rcases h with ⟨⟨_, _, e⟩, e0⟩ | ⟨g, o, c, e, _, _⟩
  · cases e; subst e0; rfl
  · cases e; rfl
theorem short_parts {c : Com} (h : shortB c = true) : c.1.size ≤ 60 ∧ c.2.2.length ≤ 12 ∧ c.2.2.all actSh = true := by
  simp only [shortB, Bool.and_eq_true, decide_eq_true_eq] at h
  exact h
abbrev set4 (W : World) (b : Nat) (v0 v1 v2 v3 : Value) : World := (((W.setCell ⟨b, 0, none⟩ v0).setCell ⟨b, 1, none⟩ v1).setCell ⟨b, 2, none⟩ v2).setCell ⟨b, 3, none⟩ v3
theorem below_set4 {n : Nat} {w W : World} (h : Below n w W) {b : Nat} (hb : n ≤ b) (v0 v1 v2 v3 : Value) : Below n w (set4 W b v0 v1 v2 v3) :=
  (((h.setCell (p := ⟨b, 0, none⟩) hb _).setCell (p := ⟨b, 1, none⟩) hb _).setCell (p := ⟨b, 2, none⟩) hb _).setCell (p := ⟨b, 3, none⟩) hb _
theorem next_good {s t : Snap} {c : Com} {k : Nat} (h : AppliesL s c t) (g : Good colB fitB s ∧ Named s ∧ 0 ≤ s.ver ∧ s.ver ≤ k) : Good colB fitB t ∧ Named t ∧ 0 ≤ t.ver ∧ t.ver ≤ (k + 1 : Nat) := by
  have hv := applies_ver h
  exact ⟨applies_good h g.1, applies_named h g.2.1, by omega, by omega⟩
theorem round_ok {w5 W : World} {bb : Nat} {t : Snap} {c0 c1 c2 c3 v0 v1 v2 v3 : Value} (hB : Below bb w5 W) (hx : W.heap[bb]? = some (.cells #[c0, c1, c2, c3] 47 (0, 0))) (hs : SnapW W t (.agg #[v0, v1, v2, v3])) :
    SnapW (set4 W bb v0 v1 v2 v3) t (.agg #[v0, v1, v2, v3]) ∧ (set4 W bb v0 v1 v2 v3).heap[bb]? = some (.cells #[v0, v1, v2, v3] 47 (0, 0)) ∧ Below bb w5 (set4 W bb v0 v1 v2 v3) := by
  obtain ⟨h1, h2⟩ := put4 W bb c0 c1 c2 c3 v0 v1 v2 v3 _ hx
  exact ⟨hs.put hx h2, h1, below_set4 hB (Nat.le_refl _) _ _ _ _⟩
end Go.Proofs.YtfppidnfomelpaaGreatDoor
