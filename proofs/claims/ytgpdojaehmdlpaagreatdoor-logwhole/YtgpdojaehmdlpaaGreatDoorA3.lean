/- How a table lies in memory; what log.where and slices.Delete at a table's files do, said of every call. -/
import Derived.Test.YtgpdojaehmdlpaaGreatDoorA2
import Derived.Deep.RegionLaw
import Derived.Deep.LoopGhost
import Derived.Lib.SliceRun
import Derived.Shelf.RegionOpenPlain
namespace Go.Proofs.YtgpdojaehmdlpaaGreatDoor
open Go.RowKit Go.Proofs Go.Lib Go.Joins

/-- A slice: where, how long, how much room. -/
abbrev Sv := Option Addr × Nat × Nat
abbrev sv (x : Sv) : Value := .slice x.1 x.2.1 x.2.2
/-- A file, and where its mask lies. -/
abbrev EntV := Ent × Sv
def encX (x : EntV) : List Value := [.string x.1.1, .int .i64 x.1.2.1, sv x.2]
def cellsX (l : List EntV) : List Value := l.flatMap encX
theorem encX_len (c : EntV) : (encX c).length = 3 := rfl
theorem cellsX_len : ∀ l : List EntV, (cellsX l).length = l.length * 3
  | [] => rfl
  | c :: l => by simp only [cellsX, List.flatMap_cons, List.length_append, encX_len, List.length_cons]; have := cellsX_len l; simp only [cellsX] at this; omega
theorem cellsX_append (a b : List EntV) : cellsX (a ++ b) = cellsX a ++ cellsX b := by simp [cellsX]
theorem cellsX_at : ∀ (l : List EntV) (j i : Nat), j < l.length → i < 3 → (cellsX l)[j * 3 + i]? = (encX l[j]!)[i]?
  | [], j, i, h, _ => absurd h (Nat.not_lt_zero _)
  | c :: l, 0, i, _, hi => by
    simp only [cellsX, List.flatMap_cons]
    rw [List.getElem?_append_left (by rw [encX_len]; omega)]
    simp
  | c :: l, j + 1, i, h, hi => by
    have ih := cellsX_at l j i (by simpa using h) hi
    simp only [cellsX, List.flatMap_cons] at ih ⊢
    rw [List.getElem?_append_right (by rw [encX_len]; omega), encX_len, show (j + 1) * 3 + i - 3 = j * 3 + i by omega, ih]
    simp
theorem cellsX_one (l : List EntV) : ∀ u ∈ cellsX l, u.oneCell' = true := by
  intro u hu
  simp only [cellsX, List.mem_flatMap] at hu
  obtain ⟨c, hm, hc⟩ := hu
  simp only [encX, List.mem_cons, List.not_mem_nil, or_false] at hc
  rcases hc with rfl | rfl | rfl <;> rfl
theorem cellsX_set (v : Sv) : ∀ (l : List EntV) (k : Nat), k < l.length → (cellsX l).set (k * 3 + 2) (sv v) = cellsX (l.set k (l[k]!.1, v))
  | [], k, h => absurd h (Nat.not_lt_zero _)
  | c :: l, 0, _ => by simp [cellsX, encX]
  | c :: l, k + 1, h => by
    have ih := cellsX_set v l k (by simpa using h)
    simp only [cellsX, List.flatMap_cons, List.set_cons_succ] at ih ⊢
    rw [List.set_append_right _ _ (by rw [encX_len]; omega), encX_len, show (k + 1) * 3 + 2 - 3 = k * 3 + 2 by omega, ih]
    simp

theorem idxBy_map (q : Ent → Bool) : ∀ (l : List EntV) (i : Nat) (d : EntV) (d' : Ent), Lib.idxByFrom (fun _ y => q y.1) d l i = Lib.idxByFrom (fun _ y => q y) d' (l.map (·.1)) i
  | [], _, _, _ => rfl
  | x :: l, i, d, d' => by
    simp only [List.map_cons, Lib.idxByFrom]
    rw [idxBy_map q l (i + 1) d d']
theorem whereF_map (l : List EntV) (nm : ByteArray) : Lib.idxBy (fun _ y => y.1.1.toList == nm.toList) l default = whereF (l.map (·.1)) nm := idxBy_map (fun y => y.1.toList == nm.toList) l 0 _ _

theorem own_forms {w : World} {base : Nat} {e : TypeId} {size : Nat} {v : Value} {n : Nat} {xs : List Value} (h : w.ownsRow base e size v n xs) : (v = .slice none 0 0 ∧ n = 0) ∨ ∃ g c, v = .slice (some ⟨g, 0, none⟩) n c ∧ base ≤ g ∧ g < w.heap.size ∧ n ≤ c ∧ c ≤ maxLen := by
  rcases h.2 with ⟨h1, h2⟩ | ⟨g, c, cur, hv, hb, hg, h1, h2, _⟩
  · exact .inl ⟨h1, h2⟩
  · refine .inr ⟨g, c, hv, hb, ?_, h1, h2⟩
    rcases Nat.lt_or_ge g w.heap.size with hlt | hge
    · exact hlt
    · rw [Array.getElem?_eq_none hge] at hg; cases hg
theorem own_cut {w : World} {base : Nat} {e : TypeId} {size g n c m : Nat} {xs : List Value} (h : w.ownsRow base e size (.slice (some ⟨g, 0, none⟩) n c) n xs) (hm : m ≤ n) : w.ownsRow base e size (.slice (some ⟨g, 0, none⟩) m c) m (xs.take (m * size)) := by
  obtain ⟨h0, h1⟩ := h
  have hle : m * size ≤ n * size := Nat.mul_le_mul_right _ hm
  refine ⟨by rw [List.length_take, h0]; omega, .inr ?_⟩
  rcases h1 with ⟨h1, _⟩ | ⟨g', c', cur, hv, hb, hg, h2, h3, h4, h5⟩
  · cases h1
  · cases hv
    refine ⟨g, c, cur, rfl, hb, hg, by omega, h3, h4, ?_⟩
    rw [← h5, List.take_take, Nat.min_eq_left hle]

theorem owns_over {B e z n g cap : Nat} : ∀ (vs : List Value) (o : Nat) (w : World) (xs : List Value), w.ownsRow B e z (.slice (some ⟨g, 0, none⟩) n cap) n xs → o + vs.length ≤ xs.length →
    ∃ xs', (w.setCells g o vs).ownsRow B e z (.slice (some ⟨g, 0, none⟩) n cap) n xs' ∧ xs'.take (o + vs.length) = xs.take o ++ vs ∧ w.grownBy (w.setCells g o vs) (some g)
  | [], o, w, xs, h, _ => ⟨xs, h, by simp, rfl, rfl, rfl, Nat.le_refl _, fun _ _ _ => rfl⟩
  | u :: vs, o, w, xs, h, hl => by
    simp only [List.length_cons] at hl
    obtain ⟨h1, h2⟩ := h.stored o u
    obtain ⟨xs', g1, g2, g3⟩ := owns_over vs (o + 1) _ _ h1 (by simp; omega)
    refine ⟨xs', g1, ?_, g3.os.trans h2.os, g3.tape.trans h2.tape, g3.output.trans h2.output, Nat.le_trans h2.size g3.size, fun k hk hne => ?_⟩
    · rw [show o + (u :: vs).length = o + 1 + vs.length by simp; omega, g2]
      rw [List.take_add_one, List.take_set_of_le (Nat.le_refl _), List.getElem?_set_self (by omega)]
      simp
    · exact (g3.block k (Nat.lt_of_lt_of_le hk h2.size) hne).trans (h2.block k hk hne)

theorem zeroE (w : World) : (zeroValue 53).run Tryz.prog w = .ok (.agg #[.string ⟨#[]⟩, .int .i64 0, .slice none 0 0]) w := Tryz.zeroValue53 w
def zeroEn : Value := .agg #[.string ⟨#[]⟩, .int .i64 0, .slice none 0 0]
theorem infoE : (Tryz.prog.info? 53).map (fun i => (i.zero, i.size, i.bytes)) = some (some zeroEn, 3, 48) := by kernel_rfl

theorem clearE {B n g cap : Nat} {xs : List Value} (w : World) (h : w.ownsRow B 53 3 (.slice (some ⟨g, 0, none⟩) n cap) n xs) (i c : Nat) (hi : i + 1 = n) :
    ∃ W, (∀ ty, (Builtin.clear_ #[39] ty #[.slice (some ⟨g, i * 3, none⟩) 1 c]).run Tryz.prog w = .ok (.tuple #[]) W) ∧ ∃ xs', W.ownsRow B 53 3 (.slice (some ⟨g, 0, none⟩) n cap) n xs' ∧ xs'.take (i * 3) = xs.take (i * 3) ∧ w.grownBy W (some g) := by
  have hxl := h.1
  let vs : List Value := [.string ⟨#[]⟩, .int .i64 0, .slice none 0 0]
  have hv1 : ∀ u ∈ vs, u.oneCell' = true := by
    intro u hu
    simp only [vs, List.mem_cons, List.not_mem_nil, or_false] at hu
    rcases hu with rfl | rfl | rfl <;> rfl
  have hst := run_storeCells_cells (P := Tryz.prog) g (i * 3) vs 0 w (fun j hj => by
    have : j < 3 := hj
    rw [Nat.add_zero, h.cellAt (i * 3 + j) (by omega), List.getElem?_eq_getElem (by omega)]; rfl) (fun j _ => by rw [Nat.add_zero]; exact h.frozenAt _) hv1
  simp only [Nat.add_zero] at hst
  have h3 : vs.length = 3 := rfl
  obtain ⟨xs', g1, g2, g3⟩ := owns_over vs (i * 3) w xs h (by omega)
  refine ⟨w.setCells g (i * 3) vs, fun ty => ?_, xs', g1, ?_, g3⟩
  · have hz := zeroE
    simp [Builtin.clear_, run_underlying Tryz.underlying39, hz, Value.cells, Builtin.zeroCells]
    have e3 : List.map (fun i => ([Value.string ⟨#[]⟩, Value.int IntKind.i64 0, Value.slice none 0 0][i % 3]?).getD default) (List.range 3) = vs := by rfl
    rw [e3, hst]
    rfl
  · have := congrArg (List.take (i * 3)) g2
    rw [List.take_take, Nat.min_eq_left (by omega), List.take_append_of_le_length (by simp; omega), List.take_take, Nat.min_self] at this
    exact this

theorem cellsX_erase {l : List EntV} {i : Nat} (hi : i < l.length) : cellsX (l.eraseIdx i) = (cellsX l).take (i * 3) ++ (cellsX l).drop ((i + 1) * 3) := by
  rw [List.eraseIdx_eq_take_drop_succ, cellsX_append]
  have e : cellsX l = cellsX (l.take i) ++ (cellsX (l.take (i + 1) |>.drop i) ++ cellsX (l.drop (i + 1))) := by
    rw [← cellsX_append, ← cellsX_append]
    congr 1
    rw [← List.append_assoc]
    have : l.take i ++ (l.take (i + 1)).drop i = l.take (i + 1) := by
      have := List.take_append_drop i (l.take (i + 1))
      rwa [List.take_take, Nat.min_eq_left (by omega)] at this
    rw [this, List.take_append_drop]
  have l1 : (cellsX (l.take i)).length = i * 3 := by rw [cellsX_len]; simp; omega
  have l2 : (cellsX (l.take (i + 1) |>.drop i)).length = 3 := by rw [cellsX_len]; simp; omega
  generalize cellsX (l.take i) = a at *
  generalize cellsX (l.take (i + 1) |>.drop i) = b at *
  generalize cellsX (l.drop (i + 1)) = c at *
  have t1 : (cellsX l).take (i * 3) = a := by rw [e, ← l1]; exact List.take_left'  rfl
  have t2 : (cellsX l).drop ((i + 1) * 3) = c := by rw [e, ← List.append_assoc]; exact List.drop_left' (by simp; omega)
  rw [t1, t2]

set_option maxHeartbeats 4000000 in
set_option maxRecDepth 1000000 in
theorem delete_any (B g cap i : Nat) (l : List EntV) (w : World) (h : w.ownsRow B 53 3 (.slice (some ⟨g, 0, none⟩) l.length cap) l.length (cellsX l)) (hi : i < l.length) :
    Calls Tryz.prog 101 #[.slice (some ⟨g, 0, none⟩) l.length cap, .int .i64 i, .int .i64 (i + 1 : Nat)] w fun e w' => e = .returned (.slice (some ⟨g, 0, none⟩) (l.length - 1) cap) ∧ w'.ownsRow B 53 3 (.slice (some ⟨g, 0, none⟩) (l.length - 1) cap) (l.length - 1) (cellsX (l.eraseIdx i)) ∧ w.grownBy w' (some g) := by
  obtain ⟨i0, hi0, hz0, hz1, hz2⟩ := info_parts infoE
  have hcc : l.length ≤ cap ∧ cap ≤ maxLen := by
    rcases own_forms h with ⟨e, _⟩ | ⟨g', c', e, _, _, h2, h3⟩
    · cases e
    · cases e; exact ⟨h2, h3⟩
  obtain ⟨hcap, hm⟩ := hcc
  unfold maxLen at hm
  obtain ⟨n, hn⟩ : ∃ n, l.length = n := ⟨_, rfl⟩
  obtain ⟨j, hj⟩ : ∃ j, j = i + 1 := ⟨_, rfl⟩
  rw [← hj]
  obtain ⟨news, hnews⟩ : ∃ news, news = (cellsX l).drop (j * 3) := ⟨_, rfl⟩
  have hxl : (cellsX l).length = l.length * 3 := cellsX_len l
  have hlen : news.length = (n - j) * 3 := by rw [hnews, List.length_drop, hxl, hn]; omega
  have hD : w.drew.ownsRow B 53 3 (.slice (some ⟨g, 0, none⟩) l.length cap) l.length (cellsX l) := h
  obtain ⟨A, hA, hsrc⟩ : ∃ A : Addr, (if cap = j then some (⟨g, 0, none⟩ : Addr) else some ⟨g, j * 3, none⟩) = some A ∧ Hid (∀ t u, news[t]? = some u → w.drew.cell? (A.add t) = some u) := by
    by_cases hc : cap = j
    · refine ⟨⟨g, 0, none⟩, by simp [hc], fun t u hu => ?_⟩
      have h0 : news.length = 0 := by rw [hlen]; omega
      rw [List.length_eq_zero_iff.1 h0] at hu
      simp at hu
    · refine ⟨⟨g, j * 3, none⟩, by simp [hc], fun t u hu => ?_⟩
      have ht : t < (n - j) * 3 := by
        have := (List.getElem?_eq_some_iff.1 hu).1
        rwa [hlen] at this
      rw [hnews, List.getElem?_drop] at hu
      rw [Addr.add_lit, hD.cellAt (j * 3 + t) (by omega)]
      exact hu
  have s1 : Hid (news.length = (n - j) * 3) := hlen
  have s2 : Hid (∀ u ∈ news, u.oneCell' = true) := by
    intro u hu
    rw [hnews] at hu
    exact cellsX_one l u (List.mem_of_mem_drop hu)
  have s3 : Hid (∀ t, t < news.length → (w.drew.cell? ⟨g, 0 + i * 3 + t, none⟩).isSome = true ∧ w.drew.frozen? ⟨g, 0 + i * 3 + t, none⟩ = false) := by
    intro t ht
    rw [hlen] at ht
    rw [Nat.zero_add]
    refine ⟨?_, hD.frozenAt _⟩
    rw [hD.cellAt (i * 3 + t) (by omega), List.getElem?_eq_getElem (by omega)]
    rfl
  obtain ⟨W1, hW1⟩ : ∃ W1, W1 = w.drew.setCells g (0 + i * 3) news := ⟨_, rfl⟩
  obtain ⟨xs', o1, o2, o3⟩ := owns_over news (0 + i * 3) w.drew _ hD (by rw [hxl]; omega)
  rw [← hW1] at o1 o3
  obtain ⟨W2, hcl, xs2, p1, p2, p3⟩ := clearE W1 o1 (n - 1) (cap - (n - 1)) (by omega)
  have FIN : Hid (W2.ownsRow B 53 3 (.slice (some ⟨g, 0, none⟩) (l.length - 1) cap) (l.length - 1) (cellsX (l.eraseIdx i)) ∧ w.grownBy W2 (some g)) := by
    refine ⟨?_, ?_⟩
    · have := own_cut p1 (m := l.length - 1) (by omega)
      have e : xs2.take ((l.length - 1) * 3) = cellsX (l.eraseIdx i) := by
        rw [hn, p2, cellsX_erase hi]
        have e2 : (n - 1) * 3 = 0 + i * 3 + news.length := by rw [hlen]; omega
        rw [e2, o2, hnews, hj, Nat.zero_add]
      rw [e] at this
      exact this
    · exact ⟨p3.os.trans o3.os, p3.tape.trans o3.tape, p3.output.trans o3.output, Nat.le_trans o3.size p3.size, fun k hk hne => (p3.block k (Nat.lt_of_lt_of_le hk o3.size) hne).trans (o3.block k hk hne)⟩
  have hW : Hid (W1 = w.drew.setCells g (0 + i * 3) news) := hW1
  have HL : Hid (l.length = n) := hn
  rw [hn]
  have hij : ¬ i = j := by omega
  have hic : i ≤ cap := by omega
  have hjc : j ≤ cap := by omega
  have hjn : j ≤ n := by omega
  have hin : i ≤ n := by omega
  have hnc : n ≤ cap := by omega
  have e1 : i + (n - j) = n - 1 := by omega
  have e2 : n - (n - 1) = 1 := by omega
  have HJ := mkH hj
  clear hW1 h hD hxl hlen hnews o1 o2 o3 p1 p2 p3 hn hcap hi hj hz0 hz2
  go_enter Tryz.func101, Tryz.ntmps101
  go_wp2_with fail
  go_region_law (refine step_append_room rfl (.tmp 22) (.tmp 25) 39 rfl 53 i0 3 Tryz.underlying39 hi0 hz1 g 0 i cap (by simp [Act.eval, Act.put]) A (n - j) (cap - j) news (by simp [Act.eval, Act.put]) s1.out hsrc.out s2.out (by omega) s3.out ?_; rw [← hW.out])
  all_goals
    go_wp2
    go_ret
    have := FIN.out
    rw [HL.out] at this
    exact ⟨rfl, this⟩
end Go.Proofs.YtgpdojaehmdlpaaGreatDoor
