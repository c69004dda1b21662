/- What millpondkeep.cond does at a list of no parts, and how a list of parts that came in lies in memory. -/
import Derived.Test.YtmghdphafepifaaDoorL3
import Derived.ProofKit
import Derived.OpenShut
import Derived.Lib.SmallJoins
import Derived.Deep.Slices
import Derived.Deep.Strs
namespace Go.Proofs.YtmghdphafepifaaDoor
open Go.ChangeShapes Go.WideShapes Go.ChangeAt Go.RowKit Go.Joins Go.Deep Go.Proofs

set_option maxHeartbeats 4000000 in
set_option maxRecDepth 100000 in
theorem cond_zero (ao : Option Addr) (cap : Nat) (w : World) :
    Calls Tryd.prog 12 #[.slice ao 0 cap] w fun e w' => ∃ v T, e = .returned v ∧ InC w' T v ∧ depthT T ≤ 14 ∧ Below w.heap.size w w' := by
  go_enter Tryd.func12, Tryd.ntmps12
  go_wp2
  go_loopw [3, 4] (fun o i wr => o = .slice none 0 0 ∧ i = .int .i64 0 ∧ wr = w) (fun _ _ _ => 0)
  case atStart => exact ⟨rfl, rfl, rfl⟩
  case round =>
    obtain ⟨rfl, rfl, rfl⟩ := hrel
    go_wp2
    go_ret
    exact ⟨_, .nil, rfl, rfl, by simp [depthT], Below.refl _ _⟩

theorem cells54 : Tryd.prog.cellsOf 62 = 5 := by kernel_rfl
theorem cells3 : Tryd.prog.cellsOf 3 = 1 := by kernel_rfl
theorem cells2 : Tryd.prog.cellsOf 2 = 1 := by kernel_rfl
theorem cells9 : Tryd.prog.cellsOf 9 = 1 := by kernel_rfl
theorem cellsV : Tryd.prog.cellsOf 23 = 3 := by kernel_rfl

theorem open_part {H : Type} {enc : TypeId × Value → H} {W : World} {base : Nat} {sp : Nat → Bool} {held : Bool} {n : Nat} {cs : List Value} {x : DataW H × List MemPlace} (h : DataW.trod enc Tryd.prog W base sp held n 62 cs = some x) :
    ∃ (c k m : Int) (l t : ByteArray), cs = [.int .i64 c, .string l, .int .i64 k, .int .i64 m, .string t] ∧ t.size ≤ maxLen := by
  obtain ⟨y0, y1, y2, n1, _, hl, h0, h1, h2⟩ := trod_struct3 Tryd.underlying62 h
  rw [cells54] at hl
  match cs, hl with
  | [v0, v1, v2, v3, v4], _ =>
    simp only [cells3, cells9, cellsV, List.drop_zero, List.drop_succ_cons, List.take_succ_cons, List.take_zero] at h0 h1 h2
    obtain ⟨c, e0, _, _⟩ := DataW.trod_int Tryd.underlying3 h0
    obtain ⟨l, e1, _, _⟩ := DataW.trod_string Tryd.underlying9 h1
    obtain ⟨z0, z1, z2, n2, _, _, g0, g1, g2⟩ := trod_struct3 Tryd.underlying23 h2
    simp only [cells3, cells9, cells2, List.drop_zero, List.drop_succ_cons, List.take_succ_cons, List.take_zero] at g0 g1 g2
    obtain ⟨k, e2, _, _⟩ := DataW.trod_int Tryd.underlying3 g0
    obtain ⟨m, e3, _, _⟩ := DataW.trod_int Tryd.underlying2 g1
    obtain ⟨t, e4, _, ht⟩ := DataW.trod_string Tryd.underlying9 g2
    simp at e0 e1 e2 e3 e4
    subst e0 e1 e2 e3 e4
    exact ⟨c, k, m, l, t, rfl, ht⟩

/-- Five things of a part. -/
structure Pt where
  c : Int
  k : Int
  m : Int
  l : ByteArray
  t : ByteArray

theorem open_parts {H : Type} {enc : TypeId × Value → H} {W : World} {b0 : Nat} {v : Value} {d : DataW H} {p : List MemPlace} (hv : Value.okWide Tryd.prog W .any b0 31 v) (h : DataW.Trod enc Tryd.prog W 0 (fun _ => true) true 31 v d p) :
    (∃ ao cap, v = .slice ao 0 cap) ∨ ∃ (bl ol L cap : Nat) (P : Nat → Pt), v = .slice (some ⟨bl, ol, none⟩) L cap ∧ L ≤ cap ∧ cap ≤ maxLen ∧ (∀ j, (P j).t.size ≤ maxLen) ∧ bl < W.heap.size ∧
      (∀ j, j < L → W.cell? ⟨bl, ol + j * 5, none⟩ = some (.int .i64 (P j).c)) ∧ (∀ j, j < L → W.cell? ⟨bl, ol + j * 5 + 1, none⟩ = some (.string (P j).l)) ∧ (∀ j, j < L → W.cell? ⟨bl, ol + j * 5 + 2, none⟩ = some (.int .i64 (P j).k)) ∧
      (∀ j, j < L → W.cell? ⟨bl, ol + j * 5 + 3, none⟩ = some (.int .i64 (P j).m)) ∧ (∀ j, j < L → W.cell? ⟨bl, ol + j * 5 + 4, none⟩ = some (.string (P j).t)) := by
  obtain ⟨a0, len, cap, rfl⟩ := okWide_slice Tryd.underlying31 hv
  obtain ⟨fuel, hf⟩ := h
  rcases open_slice Tryd.underlying31 hf with ⟨hcs, _⟩ | ⟨a, len', cap', m, n, D, Pl, hcs, hb, hl, hm, hmm, hx, hel⟩
  · simp [Value.cells] at hcs
    obtain ⟨rfl, rfl, rfl⟩ := hcs
    exact .inl ⟨_, _, rfl⟩
  · simp [Value.cells] at hcs
    obtain ⟨rfl, rfl, rfl⟩ := hcs
    rcases Nat.eq_zero_or_pos len with rfl | hpos
    · exact .inl ⟨_, _, rfl⟩
    · right
      have hlm : len ≤ m := by rw [hmm]; split <;> omega
      have hall : ∀ i, i < len → ∃ q : Pt, W.cells? 0 (a.add (i * 5)) 5 = some [.int .i64 q.c, .string q.l, .int .i64 q.k, .int .i64 q.m, .string q.t] ∧ q.t.size ≤ maxLen := fun i hi => by
        obtain ⟨cs', h1, h2⟩ := hel i (by omega)
        obtain ⟨c, k, m', l, t, rfl, ht⟩ := open_part h2
        rw [cells54] at h1
        exact ⟨⟨c, k, m', l, t⟩, h1, ht⟩
      haveI : Inhabited Pt := ⟨⟨0, 0, 0, ⟨#[]⟩, ⟨#[]⟩⟩⟩
      obtain ⟨P, hP⟩ := choose_lt hall
      obtain ⟨bl, ol, spot⟩ := a
      have hspot : spot = none := by
        have := (World.cells?_some (hP 0 hpos).1).2.2 0 (by omega)
        simpa [Addr.add] using World.cell?_spot this
      subst hspot
      have cell : ∀ j, j < len → ∀ i, i < 5 → W.cell? ⟨bl, ol + j * 5 + i, none⟩ = [Value.int .i64 (P j).c, .string (P j).l, .int .i64 (P j).k, .int .i64 (P j).m, .string (P j).t][i]? := fun j hj i hi => by
        have := (World.cells?_some (hP j hj).1).2.2 i hi
        rwa [add_plain, add_plain] at this
      refine ⟨bl, ol, len, cap, fun j => if j < len then P j else ⟨0, 0, 0, ⟨#[]⟩, ⟨#[]⟩⟩, rfl, hl, hm, ?_, block_lt_of_cell ((cell 0 hpos 0 (by omega)).trans rfl), ?_, ?_, ?_, ?_, ?_⟩
      · intro j
        by_cases hj : j < len
        · simp only [if_pos hj]; exact (hP j hj).2
        · simp only [if_neg hj]; decide
      · intro j hj; simp only [if_pos hj]; exact cell j hj 0 (by omega)
      · intro j hj; simp only [if_pos hj]; exact cell j hj 1 (by omega)
      · intro j hj; simp only [if_pos hj]; exact cell j hj 2 (by omega)
      · intro j hj; simp only [if_pos hj]; exact cell j hj 3 (by omega)
      · intro j hj; simp only [if_pos hj]; exact cell j hj 4 (by omega)
end Go.Proofs.YtmghdphafepifaaDoor
