/- millpondlaw.BucketPlays at no deeds, or at too many. How deeds that came in lie in memory. -/
import Derived.Test.YtinpapenpinhdaaDoorP4
import Derived.ProofKit
import Derived.OpenShut
import Derived.Lib.SmallJoins
import Derived.Deep.Slices
import Derived.Deep.Strs
namespace Go.Proofs.YtinpapenpinhdaaDoor
open Go.ChangeShapes Go.WideShapes Go.ChangeAt Go.RowKit Go.Joins Go.Deep Go.Proofs Go.Maps

set_option maxRecDepth 100000 in
theorem plays_long (a : Option Addr) (L cap : Nat) (w : World) (h : 60 < L) : Calls Tryd.prog 3 #[.slice a L cap] w fun e w' => e = .returned (.bool true) ∧ Below w.heap.size w w' := by
  go_enter Tryd.func3, Tryd.ntmps3
  go_wp2
  go_ret
  exact ⟨rfl, Below.refl _ _⟩
set_option maxRecDepth 100000 in
theorem plays_zero (ao : Option Addr) (cap : Nat) (w : World) : Calls Tryd.prog 3 #[.slice ao 0 cap] w fun e w' => e = .returned (.bool true) ∧ Below w.heap.size w w' := by
  have HNB : Hid (∀ o, Calls Tryd.prog 5 #[] (w.alloc o) fun e w' => ∃ rb, e = .returned (.pointer (some ⟨rb, 0, none⟩)) ∧ Hid (Below w.heap.size w w')) := by
    intro o
    refine (newB_any _).mono ?_
    rintro e w' ⟨rb, rm, rfl, _, _, _, _, hb⟩
    exact ⟨rb, rfl, ((Below.refl _ w).alloc (Nat.le_refl _) o).trans (hb.mono (by simp))⟩
  go_enter Tryd.func3, Tryd.ntmps3
  go_wp2_with (first
    | (go_at_call 5; refine (HNB.out _).mono ?_; rintro e w1 ⟨rb, rfl, hr1⟩))
  refine wp_loop_rounds 1 ?_
  rw [rounds_succ]
  go_wp2
  go_ret
  exact ⟨rfl, hr1.out⟩

theorem cells3 : Tryd.prog.cellsOf 3 = 1 := by kernel_rfl
theorem cells9 : Tryd.prog.cellsOf 9 = 1 := by kernel_rfl
theorem cells24 : Tryd.prog.cellsOf 24 = 1 := by kernel_rfl
theorem cellsDeed : Tryd.prog.cellsOf 30 = 4 := by kernel_rfl

set_option maxRecDepth 100000 in
theorem open_fx {H : Type} {enc : TypeId × Value → H} {W : World} {sp : Nat → Bool} {held : Bool} {fuel : Nat} {cs : List Value} {x : DataW H × List MemPlace} (h : DataW.trod enc Tryd.prog W 0 sp held fuel 24 cs = some x) :
    ∃ v, cs = [v] ∧ ∃ fs : List Int, Fx W v fs := by
  rcases open_slice Tryd.underlying24 h with ⟨hcs, _⟩ | ⟨a, len, cap, m, n, D, Pl, hcs, hb, hl, hm, hmm, hx, hel⟩
  · exact ⟨_, hcs, [], ⟨_, _, rfl, Nat.zero_le _, fun h => absurd rfl h⟩, .inl rfl⟩
  · refine ⟨_, hcs, ?_⟩
    rcases Nat.eq_zero_or_pos len with rfl | hpos
    · exact ⟨[], ⟨_, _, rfl, Nat.zero_le _, fun h => absurd rfl h⟩, .inr ⟨_, _, _, rfl⟩⟩
    · have hlm : len ≤ m := by rw [hmm]; split <;> omega
      have hall : ∀ i, i < len → ∃ q : Int, W.cells? 0 (a.add (i * 1)) 1 = some [.int .i64 q] := fun i hi => by
        obtain ⟨cs', h1, h2⟩ := hel i (by omega)
        obtain ⟨q, rfl, _⟩ := DataW.trod_int Tryd.underlying3 h2
        rw [cells3] at h1
        exact ⟨q, h1⟩
      obtain ⟨Q, hQ⟩ := choose_lt hall
      obtain ⟨bl, ol, spot⟩ := a
      have hspot : spot = none := by
        have := (World.cells?_some (hQ 0 hpos)).2.2 0 (by omega)
        simpa [Addr.add] using World.cell?_spot this
      subst hspot
      have cell : ∀ j, j < len → W.cell? ⟨bl, ol + j, none⟩ = some (.int .i64 (Q j)) := fun j hj => by
        have := (World.cells?_some (hQ j hj)).2.2 0 (by omega)
        rw [add_plain, add_plain] at this
        simpa using this
      have hll : ((List.range len).map Q).length = len := by simp
      refine ⟨(List.range len).map Q, ⟨some ⟨bl, ol, none⟩, cap, by rw [hll], by rw [hll]; exact hl, fun _ => ⟨bl, ol, rfl, fun j y hj => ?_⟩⟩, .inr ⟨_, _, _, rfl⟩⟩
      have hj2 : j < len := by
        rcases Nat.lt_or_ge j len with h' | h'
        · exact h'
        · rw [List.getElem?_eq_none (by rw [hll]; exact h')] at hj; cases hj
      have hy : y = Q j := by
        rw [List.getElem?_map, List.getElem?_range hj2] at hj
        exact (Option.some.inj hj).symm
      subst hy
      exact cell j hj2

set_option maxRecDepth 100000 in
theorem open_deed {H : Type} {enc : TypeId × Value → H} {W : World} {sp : Nat → Bool} {held : Bool} {n : Nat} {cs : List Value} {x : DataW H × List MemPlace} (h : DataW.trod enc Tryd.prog W 0 sp held n 30 cs = some x) :
    ∃ c : De × List Int, cs = encD c.1 ∧ Fx W c.1.2.2.2 c.2 := by
  obtain ⟨y0, y1, y2, y3, n1, _, hl, h0, h1, h2, h3⟩ := trod_struct4 Tryd.underlying30 h
  rw [cellsDeed] at hl
  match cs, hl with
  | [v0, v1, v2, v3], _ =>
    simp only [cells3, cells9, cells24, List.drop_zero, List.drop_succ_cons, List.take_succ_cons, List.take_zero] at h0 h1 h2 h3
    obtain ⟨k, e0, _, _⟩ := DataW.trod_int Tryd.underlying3 h0
    obtain ⟨m, e1, _, _⟩ := DataW.trod_string Tryd.underlying9 h1
    obtain ⟨t, e2, _, _⟩ := DataW.trod_string Tryd.underlying9 h2
    obtain ⟨v, e3, fs, hF⟩ := open_fx h3
    simp at e0 e1 e2 e3
    subst e0 e1 e2 e3
    exact ⟨((k, m, t, v3), fs), rfl, hF⟩

set_option maxRecDepth 100000 in
theorem open_deeds {H : Type} {enc : TypeId × Value → H} {W : World} {b0 : Nat} {v : Value} {d : DataW H} {p : List MemPlace} (hv : Value.okWide Tryd.prog W .any b0 22 v) (h : DataW.Trod enc Tryd.prog W 0 (fun _ => true) true 22 v d p) :
    (∃ ao cap, v = .slice ao 0 cap) ∨ ∃ (bl ol L cap : Nat) (X : Nat → De) (F : Nat → List Int), v = .slice (some ⟨bl, ol, none⟩) L cap ∧ bl < W.heap.size ∧ (∀ j, j < L → ∀ i u, (encD (X j))[i]? = some u → W.cell? ⟨bl, ol + j * 4 + i, none⟩ = some u) ∧ ∀ j, j < L → Fx W (X j).2.2.2 (F j) := by
  obtain ⟨a0, len, cap, rfl⟩ := okWide_slice Tryd.underlying22 hv
  obtain ⟨fuel, hf⟩ := h
  rcases open_slice Tryd.underlying22 hf with ⟨hcs, _⟩ | ⟨a, len', cap', m, n, D, Pl, hcs, hb, hl, hm, hmm, hx, hel⟩
  · simp [Value.cells] at hcs
    obtain ⟨rfl, rfl, rfl⟩ := hcs
    exact .inl ⟨_, _, rfl⟩
  · simp [Value.cells] at hcs
    obtain ⟨rfl, rfl, rfl⟩ := hcs
    rcases Nat.eq_zero_or_pos len with rfl | hpos
    · exact .inl ⟨_, _, rfl⟩
    · right
      have hlm : len ≤ m := by rw [hmm]; split <;> omega
      have hall : ∀ i, i < len → ∃ q : De × List Int, W.cells? 0 (a.add (i * 4)) 4 = some (encD q.1) ∧ Fx W q.1.2.2.2 q.2 := fun i hi => by
        obtain ⟨cs', h1, h2⟩ := hel i (by omega)
        obtain ⟨q, rfl, hq⟩ := open_deed h2
        rw [cellsDeed] at h1
        exact ⟨q, h1, hq⟩
      have hi0 : Inhabited (De × List Int) := ⟨((0, ByteArray.empty, ByteArray.empty, .bool false), [])⟩
      obtain ⟨P, hP⟩ := choose_lt hall
      obtain ⟨bl, ol, spot⟩ := a
      have hspot : spot = none := by
        have := (World.cells?_some (hP 0 hpos).1).2.2 0 (by omega)
        simpa [Addr.add] using World.cell?_spot this
      subst hspot
      have cell : ∀ j, j < len → ∀ i, i < 4 → W.cell? ⟨bl, ol + j * 4 + i, none⟩ = (encD (P j).1)[i]? := fun j hj i hi => by
        have := (World.cells?_some (hP j hj).1).2.2 i hi
        rwa [add_plain, add_plain] at this
      refine ⟨bl, ol, len, cap, fun j => (P j).1, fun j => (P j).2, rfl, block_lt_of_cell ((cell 0 hpos 0 (by omega)).trans rfl), fun j hj i u hu => ?_, fun j hj => (hP j hj).2⟩
      have hi : i < 4 := by
        rcases Nat.lt_or_ge i 4 with h' | h'
        · exact h'
        · rw [List.getElem?_eq_none (by exact h')] at hu; cases hu
      rw [cell j hj i hi, hu]
end Go.Proofs.YtinpapenpinhdaaDoor
