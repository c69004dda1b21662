/- How lists of values and of parts that came in lie in memory; and what millpondkeep.StatsSound does, said of every call. -/
import Derived.Test.YtmghdphafepifaaDoorD2
import Derived.Test.YtmghdphafepifaaDoorL4
import Derived.Test.YtmghdphafepifaaDoorL7
namespace Go.Proofs.YtmghdphafepifaaDoor
open Go.ChangeShapes Go.WideShapes Go.ChangeAt Go.RowKit Go.Joins Go.Deep Go.Proofs

theorem open_one {H : Type} {enc : TypeId × Value → H} {W : World} {base : Nat} {sp : Nat → Bool} {held : Bool} {n : Nat} {cs : List Value} {x : DataW H × List MemPlace} (h : DataW.trod enc Tryd.prog W base sp held n 23 cs = some x) :
    ∃ v : V, cs = [.int .i64 v.1, .int .i64 v.2.1, .string v.2.2] ∧ v.2.2.size ≤ maxLen := by
  obtain ⟨y0, y1, y2, n1, _, hl, h0, h1, h2⟩ := trod_struct3 Tryd.underlying23 h
  rw [cellsV] at hl
  match cs, hl with
  | [v0, v1, v2], _ =>
    simp only [cells3, cells9, cells2, List.drop_zero, List.drop_succ_cons, List.take_succ_cons, List.take_zero] at h0 h1 h2
    obtain ⟨k, e0, _, _⟩ := DataW.trod_int Tryd.underlying3 h0
    obtain ⟨m, e1, _, _⟩ := DataW.trod_int Tryd.underlying2 h1
    obtain ⟨t, e2, _, ht⟩ := DataW.trod_string Tryd.underlying9 h2
    simp at e0 e1 e2
    subst e0 e1 e2
    exact ⟨(k, m, t), rfl, ht⟩

theorem open_list {H : Type} {enc : TypeId × Value → H} {W : World} {b0 : Nat} {v : Value} {d : DataW H} {p : List MemPlace} (hv : Value.okWide Tryd.prog W .any b0 42 v) (h : DataW.Trod enc Tryd.prog W 0 (fun _ => true) true 42 v d p) :
    ∃ l : List V, Sl W v l ∧ ∀ x ∈ l, x.2.2.size ≤ maxLen := by
  obtain ⟨a0, len, cap, rfl⟩ := okWide_slice Tryd.underlying42 hv
  obtain ⟨fuel, hf⟩ := h
  rcases open_slice Tryd.underlying42 hf with ⟨hcs, _⟩ | ⟨a, len', cap', m, n, D, Pl, hcs, hb, hl, hm, hmm, hx, hel⟩
  · simp [Value.cells] at hcs
    obtain ⟨rfl, rfl, rfl⟩ := hcs
    exact ⟨[], ⟨_, _, rfl, Nat.zero_le _, fun h => absurd rfl h⟩, fun x hx => by simp at hx⟩
  · simp [Value.cells] at hcs
    obtain ⟨rfl, rfl, rfl⟩ := hcs
    rcases Nat.eq_zero_or_pos len with rfl | hpos
    · exact ⟨[], ⟨_, _, rfl, Nat.zero_le _, fun h => absurd rfl h⟩, fun x hx => by simp at hx⟩
    · have hlm : len ≤ m := by rw [hmm]; split <;> omega
      have hall : ∀ i, i < len → ∃ q : V, W.cells? 0 (a.add (i * 3)) 3 = some [.int .i64 q.1, .int .i64 q.2.1, .string q.2.2] ∧ q.2.2.size ≤ maxLen := fun i hi => by
        obtain ⟨cs', h1, h2⟩ := hel i (by omega)
        obtain ⟨q, rfl, ht⟩ := open_one h2
        rw [cellsV] at h1
        exact ⟨q, h1, ht⟩
      obtain ⟨P, hP⟩ := choose_lt hall
      obtain ⟨bl, ol, spot⟩ := a
      have hspot : spot = none := by
        have := (World.cells?_some (hP 0 hpos).1).2.2 0 (by omega)
        simpa [Addr.add] using World.cell?_spot this
      subst hspot
      have cell : ∀ j, j < len → ∀ i, i < 3 → W.cell? ⟨bl, ol + j * 3 + i, none⟩ = [Value.int .i64 (P j).1, .int .i64 (P j).2.1, .string (P j).2.2][i]? := fun j hj i hi => by
        have := (World.cells?_some (hP j hj).1).2.2 i hi
        rwa [add_plain, add_plain] at this
      have hlen : ((List.range len).map P).length = len := by simp
      refine ⟨(List.range len).map P, ⟨some ⟨bl, ol, none⟩, cap, by rw [hlen], by rw [hlen]; exact hl, fun _ => ⟨bl, ol, rfl, block_lt_of_cell ((cell 0 hpos 0 (by omega)).trans rfl), fun j x hj => ?_⟩⟩, fun x hx => ?_⟩
      · have hj2 : j < len := by
          rcases Nat.lt_or_ge j len with h' | h'
          · exact h'
          · rw [List.getElem?_eq_none (by simpa using h')] at hj; cases hj
        have hx : x = P j := by
          rw [List.getElem?_map, List.getElem?_range hj2] at hj
          exact (Option.some.inj hj).symm
        subst hx
        exact ⟨cell j hj2 0 (by omega), cell j hj2 1 (by omega), cell j hj2 2 (by omega)⟩
      · simp only [List.mem_map, List.mem_range] at hx
        obtain ⟨j, hj, rfl⟩ := hx
        exact (hP j hj).2

/-- A list of parts that came in: what cond makes of it, in every later world. -/
theorem cond_came {H : Type} {enc : TypeId × Value → H} {W : World} {b0 : Nat} {v : Value} {d : DataW H} {p : List MemPlace} (hv : Value.okWide Tryd.prog W .any b0 31 v) (h : DataW.Trod enc Tryd.prog W 0 (fun _ => true) true 31 v d p) :
    ∀ W', Below W.heap.size W W' → Calls Tryd.prog 12 #[v] W' fun e w' => ∃ v T, e = .returned v ∧ InC w' T v ∧ depthT T ≤ 14 ∧ Below W'.heap.size W' w' := by
  intro W' hb
  rcases open_parts hv h with ⟨ao, cap, rfl⟩ | ⟨bl, ol, L, cap, P, rfl, hL, hcap, hT, hbl, q0, q1, q2, q3, q4⟩
  · exact cond_zero ao cap W'
  · have hbl' : bl < W'.heap.size := Nat.lt_of_lt_of_le hbl hb.size
    exact cond_some bl ol L cap (fun j => (P j).c) (fun j => (P j).k) (fun j => (P j).m) (fun j => (P j).l) (fun j => (P j).t) W' hL hcap hT hbl'
      (fun j hj => (hb.cell (p := ⟨bl, ol + j * 5, none⟩) hbl).trans (q0 j hj)) (fun j hj => (hb.cell (p := ⟨bl, ol + j * 5 + 1, none⟩) hbl).trans (q1 j hj)) (fun j hj => (hb.cell (p := ⟨bl, ol + j * 5 + 2, none⟩) hbl).trans (q2 j hj))
      (fun j hj => (hb.cell (p := ⟨bl, ol + j * 5 + 3, none⟩) hbl).trans (q3 j hj)) (fun j hj => (hb.cell (p := ⟨bl, ol + j * 5 + 4, none⟩) hbl).trans (q4 j hj))


theorem statsSound_any (va vb lv : Value) (a b : List V) (at_ : Int) (w : World) (hsa : Sl w va a) (hsb : Sl w vb b)
    (hta : ∀ x ∈ a, x.2.2.size ≤ maxLen) (htb : ∀ x ∈ b, x.2.2.size ≤ maxLen) (ho : OppB w)
    (hcl : ∀ W, Below w.heap.size w W → Calls Tryd.prog 12 #[lv] W fun e w' => ∃ v T, e = .returned v ∧ InC w' T v ∧ depthT T ≤ 14 ∧ Below W.heap.size W w') :
    Calls Tryd.prog 5 #[va, vb, lv, .int .i64 at_] w fun e w' => e = .returned (.bool true) ∧ Below w.heap.size w w' := by
  obtain ⟨a1, c1, rfl, h1, hl1⟩ := hsa
  obtain ⟨a2, c2, rfl, h2, hl2⟩ := hsb
  by_cases hlen : (40 : Int) < (a.length : Int) ∨ (40 : Int) < (b.length : Int)
  · exact ss_long a1 a2 a.length b.length c1 c2 lv at_ w hlen
  have g1 : a.length ≤ 40 := by omega
  have g2 : b.length ≤ 40 := by omega
  cases hf : (okL a && okL b && aloneB a 0 && aloneB b 0) with
  | false => exact ss_wrong a1 a2 c1 c2 a b lv at_ w g1 g2 ⟨a1, c1, rfl, h1, hl1⟩ ⟨a2, c2, rfl, h2, hl2⟩ hta htb ho hf
  | true =>
    simp only [Bool.and_eq_true] at hf
    exact ss_right a1 a2 c1 c2 a b lv at_ w g1 g2 ⟨a1, c1, rfl, h1, hl1⟩ ⟨a2, c2, rfl, h2, hl2⟩ hta htb ho hcl ⟨hf.1.1.1, hf.1.1.2, hf.1.2, hf.2⟩
end Go.Proofs.YtmghdphafepifaaDoor
