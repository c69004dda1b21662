/- millpondkeep.BucketOnce at no puts, or at too many. How puts and numbers that came in lie in memory. -/
import Derived.Test.YtinpapenpinhdaaDoorW6
import Derived.ProofKit
import Derived.OpenShut
import Derived.Lib.SmallJoins
import Derived.Deep.Slices
import Derived.Deep.Strs
namespace Go.Proofs.YtinpapenpinhdaaDoor
open Go.ChangeShapes Go.WideShapes Go.ChangeAt Go.RowKit Go.Joins Go.Deep Go.Proofs Go.Maps

set_option maxRecDepth 100000 in
theorem once_long (a b : Option Addr) (L cap n c : Nat) (w : World) (h : 50 < L ∨ 30 < n) : Calls Tryd.prog 4 #[.slice a L cap, .slice b n c] w fun e w' => e = .returned (.bool true) ∧ Below w.heap.size w w' := by
  by_cases h1 : 50 < L
  · go_enter Tryd.func4, Tryd.ntmps4
    go_wp2
    go_ret
    exact ⟨rfl, Below.refl _ _⟩
  · have h2 : 30 < n := by omega
    clear h
    go_enter Tryd.func4, Tryd.ntmps4
    go_wp2
    go_ret
    exact ⟨rfl, Below.refl _ _⟩

set_option maxRecDepth 100000 in
theorem once_zero (ao : Option Addr) (cap : Nat) (fs : List Int) (fv : Value) (w : World) (h30 : fs.length ≤ 30) (hF : Fs w fv fs) (hg : EtB w) :
    Calls Tryd.prog 4 #[.slice ao 0 cap, fv] w fun e w' => e = .returned (.bool true) ∧ Below w.heap.size w w' := by
  have HT : Hid (Calls Tryd.prog 15 #[] w fun e w' => e = .returned (.bool true) ∧ Below w.heap.size w w') := thrown_any w hg
  have hmm := @run_makeMap Tryd.prog
  have HF : Hid (∀ w1, Below w.heap.size w w1 → Calls Tryd.prog 14 #[.pointer (some ⟨w1.heap.size, 0, none⟩), fv] (w1.alloc (.cells #[.map none, .slice none 0 0] 26)) fun e w' => e = .returned (.tuple #[]) ∧ Hid (Below w.heap.size w (w'.alloc (.map #[] 0)))) := by
    intro w1 hb
    have hb1 : Below w.heap.size w (w1.alloc (.cells #[.map none, .slice none 0 0] 26)) := hb.alloc hb.size _
    refine (faults_any w1.heap.size 0 (.map []) [] fs _ _ _ _ (bu_new w1) (hF.keep fun p v _ hc => (hb1.cell (World.block_lt_of_cell? w p hc)).trans hc) (by omega)).mono ?_
    rintro e w' ⟨rfl, fv', hu', ho⟩
    have := ho.below hb1 hb1.size (fun i e => by rw [e]; exact hb.size)
    exact ⟨rfl, this.alloc this.size _⟩
  obtain ⟨a, fc, rfl, _, _⟩ := hF
  clear hg
  go_enter Tryd.func4, Tryd.ntmps4
  go_wp2_with (first
    | (go_at_call 15; refine HT.out.mono ?_; rintro e w1 ⟨rfl, hb1⟩)
    | (go_at_call 14; refine (HF.out _ hb1).mono ?_; rintro e w2 ⟨rfl, hr2⟩))
  refine wp_loop_rounds 1 ?_
  rw [rounds_succ]
  go_wp2
  go_ret
  exact ⟨rfl, hr2.out⟩

theorem cells3 : Tryd.prog.cellsOf 3 = 1 := by kernel_rfl
theorem cells4 : Tryd.prog.cellsOf 4 = 1 := by kernel_rfl
theorem cells9 : Tryd.prog.cellsOf 9 = 1 := by kernel_rfl
theorem cellsPut : Tryd.prog.cellsOf 52 = 3 := by kernel_rfl

set_option maxRecDepth 100000 in
theorem open_put {H : Type} {enc : TypeId × Value → H} {W : World} {base : Nat} {sp : Nat → Bool} {held : Bool} {n : Nat} {cs : List Value} {x : DataW H × List MemPlace} (h : DataW.trod enc Tryd.prog W base sp held n 52 cs = some x) :
    ∃ c : Pt, cs = encP c := by
  obtain ⟨y0, y1, y2, n1, _, hl, h0, h1, h2⟩ := trod_struct3 Tryd.underlying52 h
  rw [cellsPut] at hl
  match cs, hl with
  | [v0, v1, v2], _ =>
    simp only [cells4, cells9, List.drop_zero, List.drop_succ_cons, List.take_succ_cons, List.take_zero] at h0 h1 h2
    obtain ⟨k, e0, _, _⟩ := DataW.trod_string Tryd.underlying9 h0
    obtain ⟨m, e1, _, _⟩ := DataW.trod_string Tryd.underlying9 h1
    obtain ⟨t, e2, _⟩ := DataW.trod_bool Tryd.underlying4 h2
    simp at e0 e1 e2
    subst e0 e1 e2
    exact ⟨(k, m, t), rfl⟩

set_option maxRecDepth 100000 in
theorem open_puts {H : Type} {enc : TypeId × Value → H} {W : World} {b0 : Nat} {v : Value} {d : DataW H} {p : List MemPlace} (hv : Value.okWide Tryd.prog W .any b0 49 v) (h : DataW.Trod enc Tryd.prog W 0 (fun _ => true) true 49 v d p) :
    (∃ ao cap, v = .slice ao 0 cap) ∨ ∃ (bl ol L cap : Nat) (X : Nat → Pt), v = .slice (some ⟨bl, ol, none⟩) L cap ∧ bl < W.heap.size ∧ (∀ j, j < L → ∀ i u, (encP (X j))[i]? = some u → W.cell? ⟨bl, ol + j * 3 + i, none⟩ = some u) := by
  obtain ⟨a0, len, cap, rfl⟩ := okWide_slice Tryd.underlying49 hv
  obtain ⟨fuel, hf⟩ := h
  rcases open_slice Tryd.underlying49 hf with ⟨hcs, _⟩ | ⟨a, len', cap', m, n, D, Pl, hcs, hb, hl, hm, hmm, hx, hel⟩
  · simp [Value.cells] at hcs
    obtain ⟨rfl, rfl, rfl⟩ := hcs
    exact .inl ⟨_, _, rfl⟩
  · simp [Value.cells] at hcs
    obtain ⟨rfl, rfl, rfl⟩ := hcs
    rcases Nat.eq_zero_or_pos len with rfl | hpos
    · exact .inl ⟨_, _, rfl⟩
    · right
      have hlm : len ≤ m := by rw [hmm]; split <;> omega
      have hall : ∀ i, i < len → ∃ q : Pt, W.cells? 0 (a.add (i * 3)) 3 = some (encP q) := fun i hi => by
        obtain ⟨cs', h1, h2⟩ := hel i (by omega)
        obtain ⟨q, rfl⟩ := open_put h2
        rw [cellsPut] at h1
        exact ⟨q, h1⟩
      obtain ⟨P, hP⟩ := choose_lt hall
      obtain ⟨bl, ol, spot⟩ := a
      have hspot : spot = none := by
        have := (World.cells?_some (hP 0 hpos)).2.2 0 (by omega)
        simpa [Addr.add] using World.cell?_spot this
      subst hspot
      have cell : ∀ j, j < len → ∀ i, i < 3 → W.cell? ⟨bl, ol + j * 3 + i, none⟩ = (encP (P j))[i]? := fun j hj i hi => by
        have := (World.cells?_some (hP j hj)).2.2 i hi
        rwa [add_plain, add_plain] at this
      refine ⟨bl, ol, len, cap, P, rfl, block_lt_of_cell ((cell 0 hpos 0 (by omega)).trans rfl), fun j hj i u hu => ?_⟩
      have hi : i < 3 := by
        rcases Nat.lt_or_ge i 3 with h' | h'
        · exact h'
        · rw [List.getElem?_eq_none (by exact h')] at hu; cases hu
      rw [cell j hj i hi, hu]

set_option maxRecDepth 100000 in
theorem open_ints3 {H : Type} {enc : TypeId × Value → H} {W : World} {sp : Nat → Bool} {held : Bool} {fuel : Nat} {cs : List Value} {x : DataW H × List MemPlace} (h : DataW.trod enc Tryd.prog W 0 sp held fuel 24 cs = some x) :
    ∃ v, cs = [v] ∧ ∃ fs : List Int, Fs W v fs := by
  rcases open_slice Tryd.underlying24 h with ⟨hcs, _⟩ | ⟨a, len, cap, m, n, D, Pl, hcs, hb, hl, hm, hmm, hx, hel⟩
  · exact ⟨_, hcs, [], _, _, rfl, Nat.zero_le _, fun h => absurd rfl h⟩
  · refine ⟨_, hcs, ?_⟩
    rcases Nat.eq_zero_or_pos len with rfl | hpos
    · exact ⟨[], _, _, rfl, Nat.zero_le _, fun h => absurd rfl h⟩
    · have hlm : len ≤ m := by rw [hmm]; split <;> omega
      have hall : ∀ i, i < len → ∃ q : Int, W.cells? 0 (a.add (i * 1)) 1 = some [.int .i64 q] := fun i hi => by
        obtain ⟨cs', h1, h2⟩ := hel i (by omega)
        obtain ⟨q, rfl, _⟩ := DataW.trod_int Tryd.underlying3 h2
        rw [cells3] at h1
        exact ⟨q, h1⟩
      obtain ⟨Q, hQ⟩ := choose_lt hall
      obtain ⟨bl, ol, spot⟩ := a
      have hspot : spot = none := by
        have := (World.cells?_some (hQ 0 hpos)).2.2 0 (by omega)
        simpa [Addr.add] using World.cell?_spot this
      subst hspot
      have cell : ∀ j, j < len → W.cell? ⟨bl, ol + j, none⟩ = some (.int .i64 (Q j)) := fun j hj => by
        have := (World.cells?_some (hQ j hj)).2.2 0 (by omega)
        rw [add_plain, add_plain] at this
        simpa using this
      have hll : ((List.range len).map Q).length = len := by simp
      refine ⟨(List.range len).map Q, some ⟨bl, ol, none⟩, cap, by rw [hll], by rw [hll]; exact hl, fun _ => ⟨bl, ol, rfl, fun j y hj => ?_⟩⟩
      have hj2 : j < len := by
        rcases Nat.lt_or_ge j len with h' | h'
        · exact h'
        · rw [List.getElem?_eq_none (by rw [hll]; exact h')] at hj; cases hj
      have hy : y = Q j := by
        rw [List.getElem?_map, List.getElem?_range hj2] at hj
        exact (Option.some.inj hj).symm
      subst hy
      exact cell j hj2
end Go.Proofs.YtinpapenpinhdaaDoor
