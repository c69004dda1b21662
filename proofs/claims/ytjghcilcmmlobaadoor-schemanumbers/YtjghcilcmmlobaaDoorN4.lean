/- How a list of changes that came in lies in memory; and what millpondkeep.SchemaNumbers does at a list that is empty or too long. -/
import Derived.Test.YtjghcilcmmlobaaDoorN2
import Derived.ProofKit
import Derived.OpenShut
import Derived.Lib.SmallJoins
import Derived.Deep.Slices
import Derived.Deep.Strs
namespace Go.Proofs.YtjghcilcmmlobaaDoor
open Go.ChangeShapes Go.WideShapes Go.ChangeAt Go.RowKit Go.Joins Go.Deep Go.Proofs Go.Maps

theorem cells3 : Tryd.prog.cellsOf 3 = 1 := by kernel_rfl
theorem cells2 : Tryd.prog.cellsOf 2 = 1 := by kernel_rfl
theorem cells4 : Tryd.prog.cellsOf 4 = 1 := by kernel_rfl
theorem cells9 : Tryd.prog.cellsOf 9 = 1 := by kernel_rfl
theorem cellsV : Tryd.prog.cellsOf 23 = 3 := by kernel_rfl
theorem cellsCol : Tryd.prog.cellsOf 54 = 7 := by kernel_rfl
theorem cellsChg : Tryd.prog.cellsOf 58 = 10 := by kernel_rfl

theorem list_cons {α : Type} {l : List α} {n : Nat} (h : l.length = n + 1) : ∃ a t, l = a :: t ∧ t.length = n := by
  cases l with
  | nil => simp at h
  | cons a t => exact ⟨a, t, rfl, by simpa using h⟩
theorem list_nil {α : Type} {l : List α} (h : l.length = 0) : l = [] := List.length_eq_zero_iff.1 h
theorem trod_struct5 {H : Type} {enc : TypeId × Value → H} {P : Program} {w : World} {base : Nat} {spare : Nat → Bool} {held : Bool} {t : TypeId} {f0 f1 f2 f3 f4 : Field} {fuel : Nat} {cs : List Value} {x : DataW H × List MemPlace} (ht : P.underlying t = some (.struct #[f0, f1, f2, f3, f4])) (h : DataW.trod enc P w base spare held fuel t cs = some x) :
    ∃ (y0 y1 y2 y3 y4 : DataW H × List MemPlace) (n : Nat), cs.length = P.cellsOf t ∧ DataW.trod enc P w base spare held n f0.type ((cs.drop f0.offset).take (P.cellsOf f0.type)) = some y0 ∧ DataW.trod enc P w base spare held n f1.type ((cs.drop f1.offset).take (P.cellsOf f1.type)) = some y1 ∧ DataW.trod enc P w base spare held n f2.type ((cs.drop f2.offset).take (P.cellsOf f2.type)) = some y2 ∧ DataW.trod enc P w base spare held n f3.type ((cs.drop f3.offset).take (P.cellsOf f3.type)) = some y3 ∧ DataW.trod enc P w base spare held n f4.type ((cs.drop f4.offset).take (P.cellsOf f4.type)) = some y4 := by
  obtain ⟨xs, n, _, _, hl, hxl, hf⟩ := DataW.trod_struct ht h
  match xs, hxl with
  | [y0, y1, y2, y3, y4], _ => exact ⟨y0, y1, y2, y3, y4, n, hl, hf 0 f0 rfl, hf 1 f1 rfl, hf 2 f2 rfl, hf 3 f3 rfl, hf 4 f4 rfl⟩

set_option maxRecDepth 100000 in
theorem open_col {H : Type} {enc : TypeId × Value → H} {W : World} {base : Nat} {sp : Nat → Bool} {held : Bool} {n : Nat} {cs : List Value} {x : DataW H × List MemPlace} (h : DataW.trod enc Tryd.prog W base sp held n 54 cs = some x) :
    ∃ (x1 : Int) (x2 : ByteArray) (x3 : Int) (x4 : Bool) (x5 x6 : Int) (x7 : ByteArray), cs = [.int .i64 x1, .string x2, .int .i64 x3, .bool x4, .int .i64 x5, .int .i64 x6, .string x7] := by
  obtain ⟨y0, y1, y2, y3, y4, n1, hl, h0, h1, h2, h3, h4⟩ := trod_struct5 Tryd.underlying54 h
  rw [cellsCol] at hl
  obtain ⟨v0, cs1, rfl, hl1⟩ := list_cons (n := 6) hl
  obtain ⟨v1, cs2, rfl, hl2⟩ := list_cons (n := 5) hl1
  obtain ⟨v2, cs3, rfl, hl3⟩ := list_cons (n := 4) hl2
  obtain ⟨v3, cs4, rfl, hl4⟩ := list_cons (n := 3) hl3
  obtain ⟨v4, cs5, rfl, hl5⟩ := list_cons (n := 2) hl4
  obtain ⟨v5, cs6, rfl, hl6⟩ := list_cons (n := 1) hl5
  obtain ⟨v6, cs7, rfl, hl7⟩ := list_cons (n := 0) hl6
  obtain rfl := list_nil hl7
  simp only [cells3, cells9, cells4, cellsV, List.drop_zero, List.drop_succ_cons, List.take_succ_cons, List.take_zero] at h0 h1 h2 h3 h4
  obtain ⟨a1, e0, _, _⟩ := DataW.trod_int Tryd.underlying3 h0
  obtain ⟨a2, e1, _, _⟩ := DataW.trod_string Tryd.underlying9 h1
  obtain ⟨a3, e2, _, _⟩ := DataW.trod_int Tryd.underlying3 h2
  obtain ⟨a4, e3, _⟩ := DataW.trod_bool Tryd.underlying4 h3
  obtain ⟨z0, z1, z2, n2, _, _, g0, g1, g2⟩ := trod_struct3 Tryd.underlying23 h4
  simp only [cells3, cells9, cells2, List.drop_zero, List.drop_succ_cons, List.take_succ_cons, List.take_zero] at g0 g1 g2
  obtain ⟨a5, e4, _, _⟩ := DataW.trod_int Tryd.underlying3 g0
  obtain ⟨a6, e5, _, _⟩ := DataW.trod_int Tryd.underlying2 g1
  obtain ⟨a7, e6, _, _⟩ := DataW.trod_string Tryd.underlying9 g2
  simp at e0 e1 e2 e3 e4 e5 e6
  subst e0 e1 e2 e3 e4 e5 e6
  exact ⟨a1, a2, a3, a4, a5, a6, a7, rfl⟩

set_option maxRecDepth 100000 in
theorem open_chg {H : Type} {enc : TypeId × Value → H} {W : World} {base : Nat} {sp : Nat → Bool} {held : Bool} {n : Nat} {cs : List Value} {x : DataW H × List MemPlace} (h : DataW.trod enc Tryd.prog W base sp held n 58 cs = some x) :
    ∃ c : Chg, cs = encX c := by
  obtain ⟨y0, y1, y2, y3, n1, _, hl, h0, h1, h2, h3⟩ := trod_struct4 Tryd.underlying58 h
  rw [cellsChg] at hl
  obtain ⟨v0, cs1, rfl, hl1⟩ := list_cons (n := 9) hl
  obtain ⟨v1, cs2, rfl, hl2⟩ := list_cons (n := 8) hl1
  obtain ⟨v2, cs3, rfl, hl3⟩ := list_cons (n := 7) hl2
  obtain ⟨v3, cs4, rfl, hl4⟩ := list_cons (n := 6) hl3
  obtain ⟨v4, cs5, rfl, hl5⟩ := list_cons (n := 5) hl4
  obtain ⟨v5, cs6, rfl, hl6⟩ := list_cons (n := 4) hl5
  obtain ⟨v6, cs7, rfl, hl7⟩ := list_cons (n := 3) hl6
  obtain ⟨v7, cs8, rfl, hl8⟩ := list_cons (n := 2) hl7
  obtain ⟨v8, cs9, rfl, hl9⟩ := list_cons (n := 1) hl8
  obtain ⟨v9, cs10, rfl, hl10⟩ := list_cons (n := 0) hl9
  obtain rfl := list_nil hl10
  simp only [cells3, cells9, cellsCol, List.drop_zero, List.drop_succ_cons, List.take_succ_cons, List.take_zero] at h0 h1 h2 h3
  obtain ⟨a0, e0, _, _⟩ := DataW.trod_int Tryd.underlying3 h0
  obtain ⟨a1, a2, a3, a4, a5, a6, a7, e1⟩ := open_col h1
  obtain ⟨a8, e2, _, _⟩ := DataW.trod_string Tryd.underlying9 h2
  obtain ⟨a9, e3, _, _⟩ := DataW.trod_string Tryd.underlying9 h3
  simp at e0 e1 e2 e3
  obtain ⟨rfl, rfl, rfl, rfl, rfl, rfl, rfl⟩ := e1
  subst e0 e2 e3
  exact ⟨(a0, a1, a2, a3, a4, a5, a6, a7, a8, a9), rfl⟩

set_option maxRecDepth 100000 in
theorem open_changes {H : Type} {enc : TypeId × Value → H} {W : World} {b0 : Nat} {v : Value} {d : DataW H} {p : List MemPlace} (hv : Value.okWide Tryd.prog W .any b0 52 v) (h : DataW.Trod enc Tryd.prog W 0 (fun _ => true) true 52 v d p) :
    (∃ ao cap, v = .slice ao 0 cap) ∨ ∃ (bl ol L cap : Nat) (X : Nat → Chg), v = .slice (some ⟨bl, ol, none⟩) L cap ∧ bl < W.heap.size ∧ (∀ j, j < L → ∀ i u, (encX (X j))[i]? = some u → W.cell? ⟨bl, ol + j * 10 + i, none⟩ = some u) := by
  obtain ⟨a0, len, cap, rfl⟩ := okWide_slice Tryd.underlying52 hv
  obtain ⟨fuel, hf⟩ := h
  rcases open_slice Tryd.underlying52 hf with ⟨hcs, _⟩ | ⟨a, len', cap', m, n, D, Pl, hcs, hb, hl, hm, hmm, hx, hel⟩
  · simp [Value.cells] at hcs
    obtain ⟨rfl, rfl, rfl⟩ := hcs
    exact .inl ⟨_, _, rfl⟩
  · simp [Value.cells] at hcs
    obtain ⟨rfl, rfl, rfl⟩ := hcs
    rcases Nat.eq_zero_or_pos len with rfl | hpos
    · exact .inl ⟨_, _, rfl⟩
    · right
      have hlm : len ≤ m := by rw [hmm]; split <;> omega
      have hall : ∀ i, i < len → ∃ q : Chg, W.cells? 0 (a.add (i * 10)) 10 = some (encX q) := fun i hi => by
        obtain ⟨cs', h1, h2⟩ := hel i (by omega)
        obtain ⟨q, rfl⟩ := open_chg h2
        rw [cellsChg] at h1
        exact ⟨q, h1⟩
      obtain ⟨P, hP⟩ := choose_lt hall
      obtain ⟨bl, ol, spot⟩ := a
      have hspot : spot = none := by
        have := (World.cells?_some (hP 0 hpos)).2.2 0 (by omega)
        simpa [Addr.add] using World.cell?_spot this
      subst hspot
      have cell : ∀ j, j < len → ∀ i, i < 10 → W.cell? ⟨bl, ol + j * 10 + i, none⟩ = (encX (P j))[i]? := fun j hj i hi => by
        have := (World.cells?_some (hP j hj)).2.2 i hi
        rwa [add_plain, add_plain] at this
      refine ⟨bl, ol, len, cap, P, rfl, block_lt_of_cell ((cell 0 hpos 0 (by omega)).trans rfl), fun j hj i u hu => ?_⟩
      have hi : i < 10 := by
        rcases Nat.lt_or_ge i 10 with h' | h'
        · exact h'
        · rw [List.getElem?_eq_none (by exact h')] at hu; cases hu
      rw [cell j hj i hi, hu]
end Go.Proofs.YtjghcilcmmlobaaDoor
