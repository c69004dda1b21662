/- How a commit, and a list of commits, that came in lie in memory. -/
import Derived.Test.YtfppidnfomelpaaGreatDoorS4
import Derived.Test.YtfppidnfomelpaaGreatDoorRD
import Derived.ProofKit
import Derived.OpenShut
import Derived.Lib.SmallJoins
import Derived.Deep.Slices
import Derived.Deep.Strs
namespace Go.Proofs.YtfppidnfomelpaaGreatDoor
open Go.ChangeShapes Go.WideShapes Go.ChangeAt Go.RowKit Go.Joins Go.Deep Go.Proofs

def ColI (c : Col) : Prop := I64 c.1 ∧ I64 c.2.2.1 ∧ I64 c.2.2.2.2.2.1
structure Ints (a : Actn) : Prop where
  rows : I64 a.2.2.1
  mask : ∀ x ∈ a.2.2.2.1, I64 x
  cols : ∀ x ∈ a.2.2.2.2.1, ColI x
  next : I64 a.2.2.2.2.2
theorem i64_wf {n : Int} (h : (Lit.int .i64 n).wf = true) : I64 n := by
  have e1 : IntKind.i64.min = -9223372036854775808 := by decide
  have e2 : IntKind.i64.max = 9223372036854775807 := by decide
  simp only [Lit.wf, Bool.and_eq_true, decide_eq_true_eq] at h
  rw [e1, e2] at h
  exact h
theorem size3 : Tryz.prog.cellsOf 3 = 1 := by kernel_rfl
theorem size2 : Tryz.prog.cellsOf 2 = 1 := by kernel_rfl
theorem size4 : Tryz.prog.cellsOf 4 = 1 := by kernel_rfl
theorem size9 : Tryz.prog.cellsOf 9 = 1 := by kernel_rfl
theorem sizeV : Tryz.prog.cellsOf 65 = 3 := by kernel_rfl
theorem sizeCol : Tryz.prog.cellsOf 67 = 7 := by kernel_rfl
theorem sizeAct : Tryz.prog.cellsOf 62 = 6 := by kernel_rfl
theorem sizeCom : Tryz.prog.cellsOf 24 = 3 := by kernel_rfl
theorem sizeSI : Tryz.prog.cellsOf 38 = 1 := by kernel_rfl
theorem sizeSC : Tryz.prog.cellsOf 44 = 1 := by kernel_rfl
theorem sizeSA : Tryz.prog.cellsOf 22 = 1 := by kernel_rfl
theorem list_cons {α : Type} {l : List α} {n : Nat} (h : l.length = n + 1) : ∃ a t, l = a :: t ∧ t.length = n := by
  cases l with
  | nil => simp at h
  | cons a t => exact ⟨a, t, rfl, by simpa using h⟩
theorem list_nil {α : Type} {l : List α} (h : l.length = 0) : l = [] := List.length_eq_zero_iff.1 h
section
variable {H : Type} {enc : TypeId × Value → H} {P : Program} {w : World} {base : Nat} {spare : Nat → Bool} {held : Bool} {t : TypeId} {fuel : Nat} {cs : List Value} {x : DataW H × List MemPlace}
theorem trod_struct5 {f0 f1 f2 f3 f4 : Field} (ht : P.underlying t = some (.struct #[f0, f1, f2, f3, f4])) (h : DataW.trod enc P w base spare held fuel t cs = some x) :
    ∃ (y0 y1 y2 y3 y4 : DataW H × List MemPlace) (n : Nat), cs.length = P.cellsOf t ∧ DataW.trod enc P w base spare held n f0.type ((cs.drop f0.offset).take (P.cellsOf f0.type)) = some y0 ∧ DataW.trod enc P w base spare held n f1.type ((cs.drop f1.offset).take (P.cellsOf f1.type)) = some y1 ∧ DataW.trod enc P w base spare held n f2.type ((cs.drop f2.offset).take (P.cellsOf f2.type)) = some y2 ∧ DataW.trod enc P w base spare held n f3.type ((cs.drop f3.offset).take (P.cellsOf f3.type)) = some y3 ∧ DataW.trod enc P w base spare held n f4.type ((cs.drop f4.offset).take (P.cellsOf f4.type)) = some y4 := by
  obtain ⟨xs, n, _, _, hl, hxl, hf⟩ := DataW.trod_struct ht h
  match xs, hxl with
  | [y0, y1, y2, y3, y4], _ => exact ⟨y0, y1, y2, y3, y4, n, hl, hf 0 f0 rfl, hf 1 f1 rfl, hf 2 f2 rfl, hf 3 f3 rfl, hf 4 f4 rfl⟩
theorem trod_struct6 {f0 f1 f2 f3 f4 f5 : Field} (ht : P.underlying t = some (.struct #[f0, f1, f2, f3, f4, f5])) (h : DataW.trod enc P w base spare held fuel t cs = some x) :
    ∃ (y0 y1 y2 y3 y4 y5 : DataW H × List MemPlace) (n : Nat), cs.length = P.cellsOf t ∧ DataW.trod enc P w base spare held n f0.type ((cs.drop f0.offset).take (P.cellsOf f0.type)) = some y0 ∧ DataW.trod enc P w base spare held n f1.type ((cs.drop f1.offset).take (P.cellsOf f1.type)) = some y1 ∧ DataW.trod enc P w base spare held n f2.type ((cs.drop f2.offset).take (P.cellsOf f2.type)) = some y2 ∧ DataW.trod enc P w base spare held n f3.type ((cs.drop f3.offset).take (P.cellsOf f3.type)) = some y3 ∧ DataW.trod enc P w base spare held n f4.type ((cs.drop f4.offset).take (P.cellsOf f4.type)) = some y4 ∧ DataW.trod enc P w base spare held n f5.type ((cs.drop f5.offset).take (P.cellsOf f5.type)) = some y5 := by
  obtain ⟨xs, n, _, _, hl, hxl, hf⟩ := DataW.trod_struct ht h
  match xs, hxl with
  | [y0, y1, y2, y3, y4, y5], _ => exact ⟨y0, y1, y2, y3, y4, y5, n, hl, hf 0 f0 rfl, hf 1 f1 rfl, hf 2 f2 rfl, hf 3 f3 rfl, hf 4 f4 rfl, hf 5 f5 rfl⟩
end
section
variable {H : Type} {enc : TypeId × Value → H} {W : World} {sp : Nat → Bool} {held : Bool} {n : Nat} {cs : List Value} {x : DataW H × List MemPlace}
set_option maxRecDepth 100000 in
theorem open_col (h : DataW.trod enc Tryz.prog W 0 sp held n 67 cs = some x) : ∃ c : Col, cs = encC c ∧ (c.2.1.size ≤ maxLen ∧ c.2.2.2.2.2.2.size ≤ maxLen) ∧ ColI c := by
  obtain ⟨y0, y1, y2, y3, y4, n1, hl, h0, h1, h2, h3, h4⟩ := trod_struct5 Tryz.underlying67 h
  rw [sizeCol] at hl
  obtain ⟨v0, cs1, rfl, hl1⟩ := list_cons (n := 6) hl
  obtain ⟨v1, cs2, rfl, hl2⟩ := list_cons (n := 5) hl1
  obtain ⟨v2, cs3, rfl, hl3⟩ := list_cons (n := 4) hl2
  obtain ⟨v3, cs4, rfl, hl4⟩ := list_cons (n := 3) hl3
  obtain ⟨v4, cs5, rfl, hl5⟩ := list_cons (n := 2) hl4
  obtain ⟨v5, cs6, rfl, hl6⟩ := list_cons (n := 1) hl5
  obtain ⟨v6, cs7, rfl, hl7⟩ := list_cons (n := 0) hl6
  obtain rfl := list_nil hl7
  simp only [size3, size9, size4, sizeV, List.drop_zero, List.drop_succ_cons, List.take_succ_cons, List.take_zero] at h0 h1 h2 h3 h4
  obtain ⟨a1, e0, _, i1⟩ := DataW.trod_int Tryz.underlying3 h0
  obtain ⟨a2, e1, _, m2⟩ := DataW.trod_string Tryz.underlying9 h1
  obtain ⟨a3, e2, _, i3⟩ := DataW.trod_int Tryz.underlying3 h2
  obtain ⟨a4, e3, _⟩ := DataW.trod_bool Tryz.underlying4 h3
  obtain ⟨z0, z1, z2, n2, _, _, g0, g1, g2⟩ := trod_struct3 Tryz.underlying65 h4
  simp only [size3, size9, size2, List.drop_zero, List.drop_succ_cons, List.take_succ_cons, List.take_zero] at g0 g1 g2
  obtain ⟨a5, e4, _, _⟩ := DataW.trod_int Tryz.underlying3 g0
  obtain ⟨a6, e5, _, i6⟩ := DataW.trod_int Tryz.underlying2 g1
  obtain ⟨a7, e6, _, m7⟩ := DataW.trod_string Tryz.underlying9 g2
  simp at e0 e1 e2 e3 e4 e5 e6
  subst e0 e1 e2 e3 e4 e5 e6
  exact ⟨(a1, a2, a3, a4, a5, a6, a7), rfl, ⟨m2, m7⟩, i64_wf i1, i64_wf i3, i64_wf i6⟩

/-- A slice whose elements all open lies as a list of them. -/
def Lies {α : Type} [Inhabited α] (k : Nat) (en : α → List Value) (W : World) (v : Value) (l : List α) : Prop :=
  ((∃ a c, v = .slice a 0 c) ∧ l = []) ∨ ∃ g o c, v = .slice (some ⟨g, o, none⟩) l.length c ∧ l.length ≤ c ∧ g < W.heap.size ∧ ∀ j, j < l.length → ∀ i u, (en l[j]!)[i]? = some u → W.cell? ⟨g, o + j * k + i, none⟩ = some u
theorem open_lies {α : Type} [Inhabited α] {fuel k : Nat} {T E : TypeId} {en : α → List Value} {P : α → Prop} (hk : 0 < k) (hlen : ∀ x, (en x).length = k) (hT : Tryz.prog.underlying T = some (.slice E)) (hE : Tryz.prog.cellsOf E = k)
    (hel : ∀ {n : Nat} {cs : List Value} {x : DataW H × List MemPlace}, DataW.trod enc Tryz.prog W 0 sp held n E cs = some x → ∃ q, cs = en q ∧ P q)
    (h : DataW.trod enc Tryz.prog W 0 sp held fuel T cs = some x) : ∃ v, cs = [v] ∧ ∃ l : List α, Lies k en W v l ∧ l.length ≤ maxLen ∧ ∀ q ∈ l, P q := by
  rcases open_slice hT h with ⟨hcs, _⟩ | ⟨a, len, cap, m, n, D, Pl, hcs, hb, hl, hm, hmm, hx, hel'⟩
  · exact ⟨_, hcs, [], .inl ⟨⟨_, _, rfl⟩, rfl⟩, Nat.zero_le _, fun x hx => by simp at hx⟩
  · refine ⟨_, hcs, ?_⟩
    rcases Nat.eq_zero_or_pos len with rfl | hpos
    · exact ⟨[], .inl ⟨⟨_, _, rfl⟩, rfl⟩, Nat.zero_le _, fun x hx => by simp at hx⟩
    · have hlm : len ≤ m := by rw [hmm]; split <;> omega
      have hall : ∀ i, i < len → ∃ q : α, W.cells? 0 (a.add (i * k)) k = some (en q) ∧ P q := fun i hi => by
        obtain ⟨cs', h1, h2⟩ := hel' i (by omega)
        obtain ⟨q, rfl, hq⟩ := hel h2
        rw [hE] at h1
        exact ⟨q, h1, hq⟩
      obtain ⟨Q, hQ⟩ := choose_lt hall
      obtain ⟨bl, ol, spot⟩ := a
      have hspot : spot = none := by
        have := (World.cells?_some (hQ 0 hpos).1).2.2 0 hk
        obtain ⟨u, t, hu⟩ := List.exists_cons_of_length_pos (l := en (Q 0)) (by rw [hlen]; exact hk)
        rw [hu] at this
        simpa [Addr.add] using World.cell?_spot this
      subst hspot
      have cell : ∀ j, j < len → ∀ i, i < k → W.cell? ⟨bl, ol + j * k + i, none⟩ = (en (Q j))[i]? := fun j hj i hi => by
        have := (World.cells?_some (hQ j hj).1).2.2 i hi
        rwa [add_plain, add_plain] at this
      have hll : ((List.range len).map Q).length = len := by simp
      have hat : ∀ j, j < len → ((List.range len).map Q)[j]! = Q j := fun j hj => by
        rw [getElem!_pos _ j (by rw [hll]; exact hj), List.getElem_map, List.getElem_range]
      refine ⟨(List.range len).map Q, .inr ⟨bl, ol, cap, by rw [hll], by rw [hll]; exact hl, ?_, fun j hj i u hu => ?_⟩, by rw [hll]; omega, fun x hx => ?_⟩
      · obtain ⟨u, t, hu⟩ := List.exists_cons_of_length_pos (l := en (Q 0)) (by rw [hlen]; exact hk)
        exact block_lt_of_cell ((cell 0 hpos 0 hk).trans (by rw [hu]; rfl))
      · rw [hll] at hj
        rw [hat j hj] at hu
        have hi : i < k := by
          rcases Nat.lt_or_ge i k with h' | h'
          · exact h'
          · rw [List.getElem?_eq_none (by rw [hlen]; exact h')] at hu; cases hu
        rw [cell j hj i hi, hu]
      · simp only [List.mem_map, List.mem_range] at hx
        obtain ⟨j, hj, rfl⟩ := hx
        exact (hQ j hj).2
theorem lies_int {v : Value} {l : List Int} (h : Lies 1 (fun x : Int => [Value.int .i64 x]) W v l) : LiI W v l := by
  rcases h with h | ⟨g, o, c, e, hc, hg, hcell⟩
  · exact .inl h
  · exact .inr ⟨g, o, c, e, hg, hc, fun j hj => by have := hcell j hj 0 _ rfl; simpa using this⟩
theorem lies_col {v : Value} {l : List Col} (h : Lies 7 encC W v l) : LiC W v l := by
  rcases h with h | ⟨g, o, c, e, hc, hg, hcell⟩
  · exact .inl h
  · exact .inr ⟨g, o, c, e, hc, hg, hcell⟩
abbrev ActQ := Actn × Sv × Sv
def encQ (q : ActQ) : List Value := [.int .i64 q.1.1, .string q.1.2.1, .int .i64 q.1.2.2.1, sv q.2.1, sv q.2.2, .int .i64 q.1.2.2.2.2.2]
def PQ (W : World) (q : ActQ) : Prop := ActR W q.1 q.2.1.1 q.2.1.2.1 q.2.1.2.2 q.2.2.1 q.2.2.2.1 q.2.2.2.2 ∧ Ints q.1
theorem Lies.value {α : Type} [Inhabited α] {k : Nat} {en : α → List Value} {v : Value} {l : List α} (h : Lies k en W v l) : ∃ s : Sv, v = sv s := by
  rcases h with ⟨⟨a, c, e⟩, _⟩ | ⟨g, o, c, e, _⟩
  · exact ⟨(a, 0, c), e⟩
  · exact ⟨(some ⟨g, o, none⟩, l.length, c), e⟩
set_option maxRecDepth 100000 in
theorem open_act (h : DataW.trod enc Tryz.prog W 0 sp held n 62 cs = some x) : ∃ q : ActQ, cs = encQ q ∧ PQ W q := by
  obtain ⟨y0, y1, y2, y3, y4, y5, n1, hl, h0, h1, h2, h3, h4, h5⟩ := trod_struct6 Tryz.underlying62 h
  rw [sizeAct] at hl
  obtain ⟨v0, cs1, rfl, hl1⟩ := list_cons (n := 5) hl
  obtain ⟨v1, cs2, rfl, hl2⟩ := list_cons (n := 4) hl1
  obtain ⟨v2, cs3, rfl, hl3⟩ := list_cons (n := 3) hl2
  obtain ⟨v3, cs4, rfl, hl4⟩ := list_cons (n := 2) hl3
  obtain ⟨v4, cs5, rfl, hl5⟩ := list_cons (n := 1) hl4
  obtain ⟨v5, cs6, rfl, hl6⟩ := list_cons (n := 0) hl5
  obtain rfl := list_nil hl6
  simp only [size3, size9, sizeSI, sizeSC, List.drop_zero, List.drop_succ_cons, List.take_succ_cons, List.take_zero] at h0 h1 h2 h3 h4 h5
  obtain ⟨a1, e0, _, _⟩ := DataW.trod_int Tryz.underlying3 h0
  obtain ⟨a2, e1, _, m2⟩ := DataW.trod_string Tryz.underlying9 h1
  obtain ⟨a3, e2, _, i3⟩ := DataW.trod_int Tryz.underlying3 h2
  obtain ⟨u3, e3, l3, hl3', hn3, hp3⟩ := open_lies (k := 1) (en := fun x : Int => [Value.int .i64 x]) (P := I64) (by decide) (fun _ => rfl) Tryz.underlying38 size3 (fun h => by
    obtain ⟨a, e, _, i⟩ := DataW.trod_int Tryz.underlying3 h
    exact ⟨a, e, i64_wf i⟩) h3
  obtain ⟨u4, e4, l4, hl4', hn4, hp4⟩ := open_lies (k := 7) (en := encC) (P := fun c : Col => (c.2.1.size ≤ maxLen ∧ c.2.2.2.2.2.2.size ≤ maxLen) ∧ ColI c) (by decide) (fun _ => rfl) Tryz.underlying44 sizeCol (fun h => open_col h) h4
  obtain ⟨a6, e5, _, i6⟩ := DataW.trod_int Tryz.underlying3 h5
  simp at e0 e1 e2 e3 e4 e5
  obtain ⟨s3, es3⟩ := hl3'.value
  obtain ⟨s4, es4⟩ := hl4'.value
  subst e0 e1 e2 e5
  refine ⟨((a1, a2, a3, l3, l4, a6), s3, s4), ?_, ⟨?_, ?_, m2, hn3, hn4, fun x hx => (hp4 x hx).1⟩, ⟨i64_wf i3, hp3, fun x hx => (hp4 x hx).2, i64_wf i6⟩⟩
  · rw [e3, e4, es3, es4]; rfl
  · have := lies_int hl3'; rw [es3] at this; exact this
  · have := lies_col hl4'; rw [es4] at this; exact this
theorem lies_acts {v : Value} {l : List ActQ} (h : Lies 6 encQ W v l) (hp : ∀ q ∈ l, PQ W q) : ActsR W v (l.map (·.1)) := by
  rcases h with ⟨h1, h2⟩ | ⟨g, o, c, e, hc, hg, hcell⟩
  · exact .inl ⟨h1, by rw [h2]; rfl⟩
  · refine .inr ⟨g, o, c, by rw [List.length_map]; exact e, by rw [List.length_map]; exact hc, hg, fun j hj => ?_⟩
    rw [List.length_map] at hj
    have hq := hp l[j]! (by rw [getElem!_pos l j hj]; exact List.getElem_mem hj)
    have he : (l.map (·.1))[j]! = l[j]!.1 := by
      rw [getElem!_pos _ j (by rw [List.length_map]; exact hj), List.getElem_map, getElem!_pos l j hj]
    rw [he]
    exact ⟨_, _, _, _, _, _, hq.1, hcell j hj 0 _ rfl, hcell j hj 1 _ rfl, hcell j hj 2 _ rfl, hcell j hj 3 _ rfl, hcell j hj 4 _ rfl, hcell j hj 5 _ rfl⟩
abbrev ComQ := Com × Sv
def encK (q : ComQ) : List Value := [.string q.1.1, .bool q.1.2.1, sv q.2]
def PK (W : World) (q : ComQ) : Prop := ActsR W (sv q.2) q.1.2.2 ∧ q.1.2.2.length ≤ maxLen ∧ q.1.1.size ≤ maxLen ∧ ∀ a ∈ q.1.2.2, Ints a
set_option maxRecDepth 100000 in
theorem open_com (h : DataW.trod enc Tryz.prog W 0 sp held n 24 cs = some x) : ∃ q : ComQ, cs = encK q ∧ PK W q := by
  obtain ⟨y0, y1, y2, n1, _, hl, h0, h1, h2⟩ := trod_struct3 Tryz.underlying24 h
  rw [sizeCom] at hl
  obtain ⟨v0, cs1, rfl, hl1⟩ := list_cons (n := 2) hl
  obtain ⟨v1, cs2, rfl, hl2⟩ := list_cons (n := 1) hl1
  obtain ⟨v2, cs3, rfl, hl3⟩ := list_cons (n := 0) hl2
  obtain rfl := list_nil hl3
  simp only [size4, size9, sizeSA, List.drop_zero, List.drop_succ_cons, List.take_succ_cons, List.take_zero] at h0 h1 h2
  obtain ⟨a1, e0, _, m1⟩ := DataW.trod_string Tryz.underlying9 h0
  obtain ⟨a2, e1, _⟩ := DataW.trod_bool Tryz.underlying4 h1
  obtain ⟨u2, e2, l2, hl2', hn2, hp2⟩ := open_lies (k := 6) (en := encQ) (P := PQ W) (by decide) (fun _ => rfl) Tryz.underlying22 sizeAct (fun h => open_act h) h2
  simp at e0 e1 e2
  obtain ⟨s2, es2⟩ := hl2'.value
  subst e0 e1
  refine ⟨((a1, a2, l2.map (·.1)), s2), ?_, ?_, by rw [List.length_map]; exact hn2, m1, fun a ha => by obtain ⟨q, hq, rfl⟩ := List.mem_map.1 ha; exact (hp2 q hq).2⟩
  · rw [e2, es2]; rfl
  · have := lies_acts hl2' hp2; rw [es2] at this; exact this
theorem lies_log {v : Value} {l : List ComQ} (h : Lies 3 encK W v l) (hp : ∀ q ∈ l, PK W q) : LogR W v (l.map (·.1)) := by
  rcases h with ⟨h1, h2⟩ | ⟨g, o, c, e, hc, hg, hcell⟩
  · exact .inl ⟨h1, by rw [h2]; rfl⟩
  · refine .inr ⟨g, o, c, by rw [List.length_map]; exact e, by rw [List.length_map]; exact hc, hg, fun j hj => ?_⟩
    rw [List.length_map] at hj
    have hq := hp l[j]! (by rw [getElem!_pos l j hj]; exact List.getElem_mem hj)
    have he : (l.map (·.1))[j]! = l[j]!.1 := by
      rw [getElem!_pos _ j (by rw [List.length_map]; exact hj), List.getElem_map, getElem!_pos l j hj]
    rw [he]
    exact ⟨_, _, _, hcell j hj 0 _ rfl, hcell j hj 1 _ rfl, hcell j hj 2 _ rfl, hq.1, hq.2.1, hq.2.2.1⟩
end
set_option maxRecDepth 100000 in
theorem open_commit {H : Type} {enc : TypeId × Value → H} {W : World} {b0 : Nat} {v : Value} {d : DataW H} {p : List MemPlace} (hv : Value.okWide Tryz.prog W .any b0 24 v) (h : DataW.Trod enc Tryz.prog W 0 (fun _ => true) true 24 v d p) :
    ∃ t r a n c, v = .agg #[.string t, .bool r, .slice a n c] ∧ ∃ l : List Actn, ActsR W (.slice a n c) l ∧ l.length ≤ maxLen ∧ t.size ≤ maxLen ∧ ∀ x ∈ l, Ints x := by
  obtain ⟨cs, rfl, _⟩ := okWide_struct Tryz.underlying24 hv
  obtain ⟨fuel, hf⟩ := h
  obtain ⟨q, e, hq⟩ := open_com hf
  have e' : cs.toList = encK q := e
  have e2 : cs = #[.string q.1.1, .bool q.1.2.1, .slice q.2.1 q.2.2.1 q.2.2.2] := by
    apply Array.toList_inj.1
    rw [e']; rfl
  exact ⟨_, _, _, _, _, by rw [e2], q.1.2.2, hq⟩
end Go.Proofs.YtfppidnfomelpaaGreatDoor
