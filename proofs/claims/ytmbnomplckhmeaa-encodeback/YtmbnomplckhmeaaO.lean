/- How values that came in lie in memory: one, and a list of them. -/
import Derived.Test.YtmbnomplckhmeaaWf
import Derived.ProofKit
import Derived.OpenShut
import Derived.Lib.SmallJoins
import Derived.Deep.Slices
import Derived.Deep.Strs
namespace Go.Proofs.Ytmbnomplckhmeaa
open Go.ChangeShapes Go.WideShapes Go.ChangeAt Go.RowKit Go.Joins Go.Deep Go.Proofs

theorem cells3 : Try.prog.cellsOf 3 = 1 := by kernel_rfl
theorem cells2 : Try.prog.cellsOf 2 = 1 := by kernel_rfl
theorem cells9 : Try.prog.cellsOf 9 = 1 := by kernel_rfl
theorem cells32 : Try.prog.cellsOf 32 = 3 := by kernel_rfl
theorem bounds {n : Int} (h : (Lit.int .i64 n).wf = true) : -9223372036854775808 ≤ n ∧ n ≤ 9223372036854775807 := by
  have e1 : IntKind.i64.min = -9223372036854775808 := rfl
  have e2 : IntKind.i64.max = 9223372036854775807 := rfl
  simp [Lit.wf, e1, e2] at h
  omega

theorem open_one {H : Type} {enc : TypeId × Value → H} {W : World} {base : Nat} {sp : Nat → Bool} {held : Bool} {n : Nat} {cs : List Value} {x : DataW H × List MemPlace} (h : DataW.trod enc Try.prog W base sp held n 32 cs = some x) :
    ∃ v : V, cs = [.int .i64 v.1, .int .i64 v.2.1, .string v.2.2] ∧ -9223372036854775808 ≤ v.2.1 ∧ v.2.1 ≤ 9223372036854775807 ∧ v.2.2.size ≤ maxLen := by
  obtain ⟨y0, y1, y2, n1, _, hl, h0, h1, h2⟩ := trod_struct3 Try.underlying32 h
  rw [cells32] at hl
  match cs, hl with
  | [v0, v1, v2], _ =>
    simp only [cells3, cells9, cells2, List.drop_zero, List.drop_succ_cons, List.take_succ_cons, List.take_zero] at h0 h1 h2
    obtain ⟨k, e0, _, _⟩ := DataW.trod_int Try.underlying3 h0
    obtain ⟨m, e1, _, wm⟩ := DataW.trod_int Try.underlying2 h1
    obtain ⟨t, e2, _, ht⟩ := DataW.trod_string Try.underlying9 h2
    simp at e0 e1 e2
    subst e0 e1 e2
    exact ⟨(k, m, t), rfl, (bounds wm).1, (bounds wm).2, ht⟩

theorem open_list {H : Type} {enc : TypeId × Value → H} {W : World} {b0 : Nat} {v : Value} {d : DataW H} {p : List MemPlace} (hv : Value.okWide Try.prog W .any b0 22 v) (h : DataW.Trod enc Try.prog W 0 (fun _ => true) true 22 v d p) :
    ∃ l : List V, Sl W v l ∧ Okl l := by
  obtain ⟨a0, len, cap, rfl⟩ := okWide_slice Try.underlying22 hv
  obtain ⟨fuel, hf⟩ := h
  rcases open_slice Try.underlying22 hf with ⟨hcs, _⟩ | ⟨a, len', cap', m, n, D, Pl, hcs, hb, hl, hm, hmm, hx, hel⟩
  · simp [Value.cells] at hcs
    obtain ⟨rfl, rfl, rfl⟩ := hcs
    exact ⟨[], ⟨_, _, rfl, Nat.zero_le _, fun h => absurd rfl h⟩, fun x hx => by simp at hx⟩
  · simp [Value.cells] at hcs
    obtain ⟨rfl, rfl, rfl⟩ := hcs
    rcases Nat.eq_zero_or_pos len with rfl | hpos
    · exact ⟨[], ⟨_, _, rfl, Nat.zero_le _, fun h => absurd rfl h⟩, fun x hx => by simp at hx⟩
    · have hlm : len ≤ m := by rw [hmm]; split <;> omega
      have hall : ∀ i, i < len → ∃ q : V, W.cells? 0 (a.add (i * 3)) 3 = some [.int .i64 q.1, .int .i64 q.2.1, .string q.2.2] ∧ (-9223372036854775808 ≤ q.2.1 ∧ q.2.1 ≤ 9223372036854775807 ∧ q.2.2.size ≤ maxLen) := fun i hi => by
        obtain ⟨cs', h1, h2⟩ := hel i (by omega)
        obtain ⟨q, rfl, ht⟩ := open_one h2
        rw [cells32] at h1
        exact ⟨q, h1, ht⟩
      obtain ⟨P, hP⟩ := choose_lt hall
      obtain ⟨bl, ol, spot⟩ := a
      have hspot : spot = none := by
        have := (World.cells?_some (hP 0 hpos).1).2.2 0 (by omega)
        simpa [Addr.add] using World.cell?_spot this
      subst hspot
      have cell : ∀ j, j < len → ∀ i, i < 3 → W.cell? ⟨bl, ol + j * 3 + i, none⟩ = [Value.int .i64 (P j).1, .int .i64 (P j).2.1, .string (P j).2.2][i]? := fun j hj i hi => by
        have := (World.cells?_some (hP j hj).1).2.2 i hi
        rwa [add_plain, add_plain] at this
      have hlen : ((List.range len).map P).length = len := by simp
      refine ⟨(List.range len).map P, ⟨some ⟨bl, ol, none⟩, cap, by rw [hlen], by rw [hlen]; exact hl, fun _ => ⟨bl, ol, rfl, block_lt_of_cell ((cell 0 hpos 0 (by omega)).trans rfl), fun j x hj => ?_⟩⟩, fun x hx => ?_⟩
      · have hj2 : j < len := by
          rcases Nat.lt_or_ge j len with h' | h'
          · exact h'
          · rw [List.getElem?_eq_none (by simpa using h')] at hj; cases hj
        have hx : x = P j := by
          rw [List.getElem?_map, List.getElem?_range hj2] at hj
          exact (Option.some.inj hj).symm
        subst hx
        exact ⟨cell j hj2 0 (by omega), cell j hj2 1 (by omega), cell j hj2 2 (by omega)⟩
      · simp only [List.mem_map, List.mem_range] at hx
        obtain ⟨j, hj, rfl⟩ := hx
        exact (hP j hj).2
end Go.Proofs.Ytmbnomplckhmeaa
