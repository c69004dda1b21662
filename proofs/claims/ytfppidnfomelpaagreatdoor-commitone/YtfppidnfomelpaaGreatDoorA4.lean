/- How a table lies in memory; what log.where, log.rightFile, log.add and log.remove do, said of every call. -/
import Derived.Test.YtfppidnfomelpaaGreatDoorA2
import Derived.Deep.RegionLaw
import Derived.Deep.LoopGhost
import Derived.Lib.SliceRun
import Derived.Shelf.RegionOpenPlain
import Derived.Deep.AppendLies
namespace Go.Proofs.YtfppidnfomelpaaGreatDoor
open Go.RowKit Go.Proofs Go.Lib Go.Joins

/-- A slice: where, how long, how much room. -/
abbrev Sv := Option Addr × Nat × Nat
abbrev sv (x : Sv) : Value := .slice x.1 x.2.1 x.2.2
/-- A file, and where its mask lies. -/
abbrev EntV := Ent × Sv
def encX (x : EntV) : List Value := [.string x.1.1, .int .i64 x.1.2.1, sv x.2]
def cellsX (l : List EntV) : List Value := l.flatMap encX
theorem encX_len (c : EntV) : (encX c).length = 3 := rfl
theorem cellsX_len : ∀ l : List EntV, (cellsX l).length = l.length * 3
  | [] => rfl
  | c :: l => by simp only [cellsX, List.flatMap_cons, List.length_append, encX_len, List.length_cons]; have := cellsX_len l; simp only [cellsX] at this; omega
theorem cellsX_append (a b : List EntV) : cellsX (a ++ b) = cellsX a ++ cellsX b := by simp [cellsX]
theorem cellsX_at : ∀ (l : List EntV) (j i : Nat), j < l.length → i < 3 → (cellsX l)[j * 3 + i]? = (encX l[j]!)[i]?
  | [], j, i, h, _ => absurd h (Nat.not_lt_zero _)
  | c :: l, 0, i, _, hi => by
    simp only [cellsX, List.flatMap_cons]
    rw [List.getElem?_append_left (by rw [encX_len]; omega)]
    simp
  | c :: l, j + 1, i, h, hi => by
    have ih := cellsX_at l j i (by simpa using h) hi
    simp only [cellsX, List.flatMap_cons] at ih ⊢
    rw [List.getElem?_append_right (by rw [encX_len]; omega), encX_len, show (j + 1) * 3 + i - 3 = j * 3 + i by omega, ih]
    simp
theorem cellsX_one (l : List EntV) : ∀ u ∈ cellsX l, u.oneCell' = true := by
  intro u hu
  simp only [cellsX, List.mem_flatMap] at hu
  obtain ⟨c, hm, hc⟩ := hu
  simp only [encX, List.mem_cons, List.not_mem_nil, or_false] at hc
  rcases hc with rfl | rfl | rfl <;> rfl
theorem cellsX_set (v : Sv) : ∀ (l : List EntV) (k : Nat), k < l.length → (cellsX l).set (k * 3 + 2) (sv v) = cellsX (l.set k (l[k]!.1, v))
  | [], k, h => absurd h (Nat.not_lt_zero _)
  | c :: l, 0, _ => by simp [cellsX, encX]
  | c :: l, k + 1, h => by
    have ih := cellsX_set v l k (by simpa using h)
    simp only [cellsX, List.flatMap_cons, List.set_cons_succ] at ih ⊢
    rw [List.set_append_right _ _ (by rw [encX_len]; omega), encX_len, show (k + 1) * 3 + 2 - 3 = k * 3 + 2 by omega, ih]
    simp

theorem idxBy_map (q : Ent → Bool) : ∀ (l : List EntV) (i : Nat) (d : EntV) (d' : Ent), Lib.idxByFrom (fun _ y => q y.1) d l i = Lib.idxByFrom (fun _ y => q y) d' (l.map (·.1)) i
  | [], _, _, _ => rfl
  | x :: l, i, d, d' => by
    simp only [List.map_cons, Lib.idxByFrom]
    rw [idxBy_map q l (i + 1) d d']
theorem whereF_map (l : List EntV) (nm : ByteArray) : Lib.idxBy (fun _ y => y.1.1.toList == nm.toList) l default = whereF (l.map (·.1)) nm := idxBy_map (fun y => y.1.toList == nm.toList) l 0 _ _

theorem own_forms {w : World} {base : Nat} {e : TypeId} {size : Nat} {v : Value} {n : Nat} {xs : List Value} (h : w.ownsRow base e size v n xs) : (v = .slice none 0 0 ∧ n = 0) ∨ ∃ g c, v = .slice (some ⟨g, 0, none⟩) n c ∧ base ≤ g ∧ g < w.heap.size ∧ n ≤ c ∧ c ≤ maxLen := by
  rcases h.2 with ⟨h1, h2⟩ | ⟨g, c, cur, hv, hb, hg, h1, h2, _⟩
  · exact .inl ⟨h1, h2⟩
  · refine .inr ⟨g, c, hv, hb, ?_, h1, h2⟩
    rcases Nat.lt_or_ge g w.heap.size with hlt | hge
    · exact hlt
    · rw [Array.getElem?_eq_none hge] at hg; cases hg
theorem own_cut {w : World} {base : Nat} {e : TypeId} {size g n c m : Nat} {xs : List Value} (h : w.ownsRow base e size (.slice (some ⟨g, 0, none⟩) n c) n xs) (hm : m ≤ n) : w.ownsRow base e size (.slice (some ⟨g, 0, none⟩) m c) m (xs.take (m * size)) := by
  obtain ⟨h0, h1⟩ := h
  have hle : m * size ≤ n * size := Nat.mul_le_mul_right _ hm
  refine ⟨by rw [List.length_take, h0]; omega, .inr ?_⟩
  rcases h1 with ⟨h1, _⟩ | ⟨g', c', cur, hv, hb, hg, h2, h3, h4, h5⟩
  · cases h1
  · cases hv
    refine ⟨g, c, cur, rfl, hb, hg, by omega, h3, h4, ?_⟩
    rw [← h5, List.take_take, Nat.min_eq_left hle]

theorem owns_over {B e z n g cap : Nat} : ∀ (vs : List Value) (o : Nat) (w : World) (xs : List Value), w.ownsRow B e z (.slice (some ⟨g, 0, none⟩) n cap) n xs → o + vs.length ≤ xs.length →
    ∃ xs', (w.setCells g o vs).ownsRow B e z (.slice (some ⟨g, 0, none⟩) n cap) n xs' ∧ xs'.take (o + vs.length) = xs.take o ++ vs ∧ w.grownBy (w.setCells g o vs) (some g)
  | [], o, w, xs, h, _ => ⟨xs, h, by simp, rfl, rfl, rfl, Nat.le_refl _, fun _ _ _ => rfl⟩
  | u :: vs, o, w, xs, h, hl => by
    simp only [List.length_cons] at hl
    obtain ⟨h1, h2⟩ := h.stored o u
    obtain ⟨xs', g1, g2, g3⟩ := owns_over vs (o + 1) _ _ h1 (by simp; omega)
    refine ⟨xs', g1, ?_, g3.os.trans h2.os, g3.tape.trans h2.tape, g3.output.trans h2.output, Nat.le_trans h2.size g3.size, fun k hk hne => ?_⟩
    · rw [show o + (u :: vs).length = o + 1 + vs.length by simp; omega, g2]
      rw [List.take_add_one, List.take_set_of_le (Nat.le_refl _), List.getElem?_set_self (by omega)]
      simp
    · exact (g3.block k (Nat.lt_of_lt_of_le hk h2.size) hne).trans (h2.block k hk hne)

theorem zeroE (w : World) : (zeroValue 70).run Tryz.prog w = .ok (.agg #[.string ⟨#[]⟩, .int .i64 0, .slice none 0 0]) w := Tryz.zeroValue70 w
def zeroEn : Value := .agg #[.string ⟨#[]⟩, .int .i64 0, .slice none 0 0]
theorem infoE : (Tryz.prog.info? 70).map (fun i => (i.zero, i.size, i.bytes)) = some (some zeroEn, 3, 48) := by kernel_rfl

theorem clearE {B n g cap : Nat} {xs : List Value} (w : World) (h : w.ownsRow B 70 3 (.slice (some ⟨g, 0, none⟩) n cap) n xs) (i c : Nat) (hi : i + 1 = n) :
    ∃ W, (∀ ty, (Builtin.clear_ #[45] ty #[.slice (some ⟨g, i * 3, none⟩) 1 c]).run Tryz.prog w = .ok (.tuple #[]) W) ∧ ∃ xs', W.ownsRow B 70 3 (.slice (some ⟨g, 0, none⟩) n cap) n xs' ∧ xs'.take (i * 3) = xs.take (i * 3) ∧ w.grownBy W (some g) := by
  have hxl := h.1
  let vs : List Value := [.string ⟨#[]⟩, .int .i64 0, .slice none 0 0]
  have hv1 : ∀ u ∈ vs, u.oneCell' = true := by
    intro u hu
    simp only [vs, List.mem_cons, List.not_mem_nil, or_false] at hu
    rcases hu with rfl | rfl | rfl <;> rfl
  have hst := run_storeCells_cells (P := Tryz.prog) g (i * 3) vs 0 w (fun j hj => by
    have : j < 3 := hj
    rw [Nat.add_zero, h.cellAt (i * 3 + j) (by omega), List.getElem?_eq_getElem (by omega)]; rfl) (fun j _ => by rw [Nat.add_zero]; exact h.frozenAt _) hv1
  simp only [Nat.add_zero] at hst
  have h3 : vs.length = 3 := rfl
  obtain ⟨xs', g1, g2, g3⟩ := owns_over vs (i * 3) w xs h (by omega)
  refine ⟨w.setCells g (i * 3) vs, fun ty => ?_, xs', g1, ?_, g3⟩
  · have hz := zeroE
    simp [Builtin.clear_, run_underlying Tryz.underlying45, hz, Value.cells, Builtin.zeroCells]
    have e3 : List.map (fun i => ([Value.string ⟨#[]⟩, Value.int IntKind.i64 0, Value.slice none 0 0][i % 3]?).getD default) (List.range 3) = vs := by rfl
    rw [e3, hst]
    rfl
  · have := congrArg (List.take (i * 3)) g2
    rw [List.take_take, Nat.min_eq_left (by omega), List.take_append_of_le_length (by simp; omega), List.take_take, Nat.min_self] at this
    exact this

theorem cellsX_erase {l : List EntV} {i : Nat} (hi : i < l.length) : cellsX (l.eraseIdx i) = (cellsX l).take (i * 3) ++ (cellsX l).drop ((i + 1) * 3) := by
  rw [List.eraseIdx_eq_take_drop_succ, cellsX_append]
  have e : cellsX l = cellsX (l.take i) ++ (cellsX (l.take (i + 1) |>.drop i) ++ cellsX (l.drop (i + 1))) := by
    rw [← cellsX_append, ← cellsX_append]
    congr 1
    rw [← List.append_assoc]
    have : l.take i ++ (l.take (i + 1)).drop i = l.take (i + 1) := by
      have := List.take_append_drop i (l.take (i + 1))
      rwa [List.take_take, Nat.min_eq_left (by omega)] at this
    rw [this, List.take_append_drop]
  have l1 : (cellsX (l.take i)).length = i * 3 := by rw [cellsX_len]; simp; omega
  have l2 : (cellsX (l.take (i + 1) |>.drop i)).length = 3 := by rw [cellsX_len]; simp; omega
  generalize cellsX (l.take i) = a at *
  generalize cellsX (l.take (i + 1) |>.drop i) = b at *
  generalize cellsX (l.drop (i + 1)) = c at *
  have t1 : (cellsX l).take (i * 3) = a := by rw [e, ← l1]; exact List.take_left'  rfl
  have t2 : (cellsX l).drop ((i + 1) * 3) = c := by rw [e, ← List.append_assoc]; exact List.drop_left' (by simp; omega)
  rw [t1, t2]

set_option maxHeartbeats 4000000 in
set_option maxRecDepth 1000000 in
theorem delete_any (B g cap i : Nat) (l : List EntV) (w : World) (h : w.ownsRow B 70 3 (.slice (some ⟨g, 0, none⟩) l.length cap) l.length (cellsX l)) (hi : i < l.length) :
    Calls Tryz.prog 104 #[.slice (some ⟨g, 0, none⟩) l.length cap, .int .i64 i, .int .i64 (i + 1 : Nat)] w fun e w' => e = .returned (.slice (some ⟨g, 0, none⟩) (l.length - 1) cap) ∧ w'.ownsRow B 70 3 (.slice (some ⟨g, 0, none⟩) (l.length - 1) cap) (l.length - 1) (cellsX (l.eraseIdx i)) ∧ w.grownBy w' (some g) := by
  obtain ⟨i0, hi0, hz0, hz1, hz2⟩ := info_parts infoE
  have hcc : l.length ≤ cap ∧ cap ≤ maxLen := by
    rcases own_forms h with ⟨e, _⟩ | ⟨g', c', e, _, _, h2, h3⟩
    · cases e
    · cases e; exact ⟨h2, h3⟩
  obtain ⟨hcap, hm⟩ := hcc
  unfold maxLen at hm
  obtain ⟨n, hn⟩ : ∃ n, l.length = n := ⟨_, rfl⟩
  obtain ⟨j, hj⟩ : ∃ j, j = i + 1 := ⟨_, rfl⟩
  rw [← hj]
  obtain ⟨news, hnews⟩ : ∃ news, news = (cellsX l).drop (j * 3) := ⟨_, rfl⟩
  have hxl : (cellsX l).length = l.length * 3 := cellsX_len l
  have hlen : news.length = (n - j) * 3 := by rw [hnews, List.length_drop, hxl, hn]; omega
  have hD : w.drew.ownsRow B 70 3 (.slice (some ⟨g, 0, none⟩) l.length cap) l.length (cellsX l) := h
  obtain ⟨A, hA, hsrc⟩ : ∃ A : Addr, (if cap = j then some (⟨g, 0, none⟩ : Addr) else some ⟨g, j * 3, none⟩) = some A ∧ Hid (∀ t u, news[t]? = some u → w.drew.cell? (A.add t) = some u) := by
    by_cases hc : cap = j
    · refine ⟨⟨g, 0, none⟩, by simp [hc], fun t u hu => ?_⟩
      have h0 : news.length = 0 := by rw [hlen]; omega
      rw [List.length_eq_zero_iff.1 h0] at hu
      simp at hu
    · refine ⟨⟨g, j * 3, none⟩, by simp [hc], fun t u hu => ?_⟩
      have ht : t < (n - j) * 3 := by
        have := (List.getElem?_eq_some_iff.1 hu).1
        rwa [hlen] at this
      rw [hnews, List.getElem?_drop] at hu
      rw [Addr.add_lit, hD.cellAt (j * 3 + t) (by omega)]
      exact hu
  have s1 : Hid (news.length = (n - j) * 3) := hlen
  have s2 : Hid (∀ u ∈ news, u.oneCell' = true) := by
    intro u hu
    rw [hnews] at hu
    exact cellsX_one l u (List.mem_of_mem_drop hu)
  have s3 : Hid (∀ t, t < news.length → (w.drew.cell? ⟨g, 0 + i * 3 + t, none⟩).isSome = true ∧ w.drew.frozen? ⟨g, 0 + i * 3 + t, none⟩ = false) := by
    intro t ht
    rw [hlen] at ht
    rw [Nat.zero_add]
    refine ⟨?_, hD.frozenAt _⟩
    rw [hD.cellAt (i * 3 + t) (by omega), List.getElem?_eq_getElem (by omega)]
    rfl
  obtain ⟨W1, hW1⟩ : ∃ W1, W1 = w.drew.setCells g (0 + i * 3) news := ⟨_, rfl⟩
  obtain ⟨xs', o1, o2, o3⟩ := owns_over news (0 + i * 3) w.drew _ hD (by rw [hxl]; omega)
  rw [← hW1] at o1 o3
  obtain ⟨W2, hcl, xs2, p1, p2, p3⟩ := clearE W1 o1 (n - 1) (cap - (n - 1)) (by omega)
  have FIN : Hid (W2.ownsRow B 70 3 (.slice (some ⟨g, 0, none⟩) (l.length - 1) cap) (l.length - 1) (cellsX (l.eraseIdx i)) ∧ w.grownBy W2 (some g)) := by
    refine ⟨?_, ?_⟩
    · have := own_cut p1 (m := l.length - 1) (by omega)
      have e : xs2.take ((l.length - 1) * 3) = cellsX (l.eraseIdx i) := by
        rw [hn, p2, cellsX_erase hi]
        have e2 : (n - 1) * 3 = 0 + i * 3 + news.length := by rw [hlen]; omega
        rw [e2, o2, hnews, hj, Nat.zero_add]
      rw [e] at this
      exact this
    · exact ⟨p3.os.trans o3.os, p3.tape.trans o3.tape, p3.output.trans o3.output, Nat.le_trans o3.size p3.size, fun k hk hne => (p3.block k (Nat.lt_of_lt_of_le hk o3.size) hne).trans (o3.block k hk hne)⟩
  have hW : Hid (W1 = w.drew.setCells g (0 + i * 3) news) := hW1
  have HL : Hid (l.length = n) := hn
  rw [hn]
  have hij : ¬ i = j := by omega
  have hic : i ≤ cap := by omega
  have hjc : j ≤ cap := by omega
  have hjn : j ≤ n := by omega
  have hin : i ≤ n := by omega
  have hnc : n ≤ cap := by omega
  have e1 : i + (n - j) = n - 1 := by omega
  have e2 : n - (n - 1) = 1 := by omega
  have HJ := mkH hj
  clear hW1 h hD hxl hlen hnews o1 o2 o3 p1 p2 p3 hn hcap hi hj hz0 hz2
  go_enter Tryz.func104, Tryz.ntmps104
  go_wp2_with fail
  go_region_law (refine step_append_room rfl (.tmp 22) (.tmp 25) 45 rfl 70 i0 3 Tryz.underlying45 hi0 hz1 g 0 i cap (by simp [Act.eval, Act.put]) A (n - j) (cap - j) news (by simp [Act.eval, Act.put]) s1.out hsrc.out s2.out (by omega) s3.out ?_; rw [← hW.out])
  all_goals
    go_wp2
    go_ret
    have := FIN.out
    rw [HL.out] at this
    exact ⟨rfl, this⟩
end Go.Proofs.YtfppidnfomelpaaGreatDoor

namespace Go.Proofs.YtfppidnfomelpaaGreatDoor
open Go.RowKit Go.Proofs Go.Lib Go.Joins

section
variable {w W : World} {base base' : Nat} {e e' : TypeId} {z z' : Nat} {v v' : Value} {n n' : Nat} {xs xs' : List Value}
theorem blk_lt {w : World} {g : Nat} {o : Obj} (h : w.heap[g]? = some o) : g < w.heap.size := by
  rcases Nat.lt_or_ge g w.heap.size with hlt | hge
  · exact hlt
  · rw [Array.getElem?_eq_none hge] at h; cases h
theorem own_up (h : w.ownsRow base e z v n xs) (hb : Below w.heap.size w W) : W.ownsRow base e z v n xs := by
  refine ⟨h.1, ?_⟩
  rcases h.2 with h | ⟨g, c, cur, hv, hb', hg, hr⟩
  · exact .inl h
  · exact .inr ⟨g, c, cur, hv, hb', (hb.block g (blk_lt hg)).trans hg, hr⟩
theorem own_keep {row : Option Nat} (h : w.ownsRow base e z v n xs) (hg : w.grownBy W row) (hne : ∀ k, v.ownBlock = some k → row ≠ some k) : W.ownsRow base e z v n xs := by
  refine ⟨h.1, ?_⟩
  rcases h.2 with h | ⟨g, c, cur, hv, hb', hh, hr⟩
  · exact .inl h
  · exact .inr ⟨g, c, cur, hv, hb', (hg.block g (blk_lt hh) (fun x => hne g (by rw [hv]; rfl) x.symm)).trans hh, hr⟩
theorem own_base (h : w.ownsRow base e z v n xs) (hb : base' ≤ base) : w.ownsRow base' e z v n xs := by
  refine ⟨h.1, ?_⟩
  rcases h.2 with h | ⟨g, c, cur, hv, hb', hr⟩
  · exact .inl h
  · exact .inr ⟨g, c, cur, hv, by omega, hr⟩
theorem own_at (h : w.ownsRow base e z v n xs) {k : Nat} (hk : v.ownBlock = some k) : ∃ cur, w.heap[k]? = some (.cells cur e (0, 0)) := by
  rcases h.2 with ⟨h, _⟩ | ⟨g, c, cur, hv, _, hg, _⟩
  · rw [h] at hk; cases hk
  · rw [hv] at hk; cases hk; exact ⟨cur, hg⟩
theorem own_ne (h : w.ownsRow base e z v n xs) (h' : w.ownsRow base' e' z' v' n' xs') (hne : e ≠ e') : ∀ k, v.ownBlock = some k → v'.ownBlock ≠ some k := by
  intro k hk hk'
  obtain ⟨c1, h1⟩ := own_at h hk
  obtain ⟨c2, h2⟩ := own_at h' hk'
  rw [h1] at h2
  injection h2 with h2
  injection h2 with _ h2
  exact hne h2
theorem own_box (h : w.ownsRow base e z v n xs) {b : Nat} {cur : Array Value} {t : TypeId} (hb : w.heap[b]? = some (.cells cur t (0, 0))) (hne : e ≠ t) : v.ownBlock ≠ some b := by
  intro hk
  obtain ⟨c1, h1⟩ := own_at h hk
  rw [hb] at h1
  injection h1 with h1
  injection h1 with _ h1
  exact hne h1.symm
theorem own_slice (h : w.ownsRow base e z v n xs) : ∃ a c, v = .slice a n c ∧ n ≤ c := by
  rcases own_forms h with ⟨h1, h2⟩ | ⟨g, c, h1, _, _, h2, _⟩
  · subst h2; exact ⟨none, 0, h1, Nat.le_refl _⟩
  · exact ⟨_, c, h1, h2⟩
theorem own_one (h : w.ownsRow base e z v n xs) : v.oneCell' = true := by
  obtain ⟨a, c, h1, _⟩ := own_slice h
  rw [h1]; rfl
theorem grown_setC (w : World) (b i : Nat) (u : Value) : w.grownBy (w.setCell ⟨b, i, none⟩ u) (some b) :=
  ⟨rfl, rfl, rfl, by simp [World.setCell], fun k _ hk => Below.heap_setCell _ _ _ _ (fun e => hk (by rw [e]))⟩
theorem heap_setC (w : World) (b i : Nat) (cs : Array Value) (t : TypeId) (u : Value) (h : w.heap[b]? = some (.cells cs t (0, 0))) : (w.setCell ⟨b, i, none⟩ u).heap[b]? = some (.cells (cs.setIfInBounds i u) t (0, 0)) := by
  simp only [World.setCell]
  rw [Array.getElem?_modify]
  simp [h]
end

/-- A table lies in block b, its files and masks in memory from base on. -/
structure SnapI (base b : Nat) (W : World) (s : Snap) (cv fv : Value) (L : List EntV) : Prop where
  box : W.heap[b]? = some (.cells #[.int .i64 s.ver, cv, .int .i64 s.next, fv] 47 (0, 0))
  low : base ≤ b
  cols : W.ownsRow base 67 7 cv s.cols.length (cellsC s.cols)
  files : s.files = L.map (·.1)
  row : W.ownsRow base 70 3 fv L.length (cellsX L)
  masks : ∀ x ∈ L, W.ownsRow base 3 1 (sv x.2) x.1.2.2.length (x.1.2.2.map (.int .i64))
  apart : L.Pairwise (fun x y => ∀ k, (sv x.2).ownBlock = some k → (sv y.2).ownBlock ≠ some k)
def SnapAt (base b : Nat) (W : World) (s : Snap) : Prop := ∃ cv fv L, SnapI base b W s cv fv L
theorem SnapI.up {base b : Nat} {w W : World} {s : Snap} {cv fv : Value} {L : List EntV} (h : SnapI base b w s cv fv L) (hb : Below w.heap.size w W) : SnapI base b W s cv fv L :=
  ⟨(hb.block b (blk_lt h.box)).trans h.box, h.low, own_up h.cols hb, h.files, own_up h.row hb, fun x hx => own_up (h.masks x hx) hb, h.apart⟩
theorem SnapI.cells {base b : Nat} {w : World} {s : Snap} {cv fv : Value} {L : List EntV} (h : SnapI base b w s cv fv L) :
    w.cell? ⟨b, 0, none⟩ = some (.int .i64 s.ver) ∧ w.cell? ⟨b, 1, none⟩ = some cv ∧ w.cell? ⟨b, 2, none⟩ = some (.int .i64 s.next) ∧ w.cell? ⟨b, 3, none⟩ = some fv ∧ ∀ i, w.frozen? ⟨b, i, none⟩ = false := by
  have := h.box
  refine ⟨?_, ?_, ?_, ?_, fun i => ?_⟩ <;> simp [World.cell?, World.frozen?, this]
theorem SnapI.len {base b : Nat} {w : World} {s : Snap} {cv fv : Value} {L : List EntV} (h : SnapI base b w s cv fv L) : s.files.length = L.length := by rw [h.files]; simp
/-- Another list of files. -/
theorem SnapI.put {base b : Nat} {w W : World} {s : Snap} {cv fv fv' : Value} {L : List EntV} (h : SnapI base b w s cv fv L) (t : Snap) (L' : List EntV) (hg : w.grownBy W fv.ownBlock) (hr : W.ownsRow base 70 3 fv' L'.length (cellsX L')) (hv : t.ver = s.ver) (hc : t.cols = s.cols) (hn : t.next = s.next) (hf : t.files = L'.map (·.1))
    (hm : ∀ x ∈ L', W.ownsRow base 3 1 (sv x.2) x.1.2.2.length (x.1.2.2.map (.int .i64))) (ha : L'.Pairwise (fun x y => ∀ k, (sv x.2).ownBlock = some k → (sv y.2).ownBlock ≠ some k)) : SnapI base b (W.setCell ⟨b, 3, none⟩ fv') t cv fv' L' := by
  have hb : W.heap[b]? = some (.cells #[.int .i64 s.ver, cv, .int .i64 s.next, fv] 47 (0, 0)) := (hg.block b (blk_lt h.box) (fun e => own_box h.row h.box (by decide) e.symm)).trans h.box
  have hs := grown_setC W b 3 fv'
  refine ⟨?_, h.low, ?_, hf, ?_, ?_, ha⟩
  · rw [heap_setC W b 3 _ _ fv' hb, hv, hn]; rfl
  · rw [hc]
    have h1 := own_keep h.cols hg (fun k hk e => own_ne h.cols h.row (by decide) k hk e)
    exact own_keep h1 hs (fun k hk e => own_box h1 hb (by decide) (by rw [hk]; exact e.symm))
  · exact own_keep hr hs (fun k hk e => own_box hr hb (by decide) (by rw [hk]; exact e.symm))
  · exact fun x hx => own_keep (hm x hx) hs (fun k hk e => own_box (hm x hx) hb (by decide) (by rw [hk]; exact e.symm))

/-! where -/
theorem where1_any (nm : ByteArray) (B : Nat) (w : World) (hB : B < w.heap.size) (hcell : w.cell? ⟨B, 0, none⟩ = some (.string nm)) :
    PredBelow Tryz.prog 130 #[.pointer (some ⟨B, 0, none⟩)] (fun x : EntV => .agg (encX x).toArray) (fun x => x.1.1.toList == nm.toList) w := fun W x hb => by
  have hc : W.cell? ⟨B, 0, none⟩ = some (.string nm) := (hb.cell (p := ⟨B, 0, none⟩) hB).trans hcell
  have hBW : B < W.heap.size := Nat.lt_of_lt_of_le hB hb.size
  have hne : B ≠ W.heap.size := by omega
  obtain ⟨⟨c1, c2, c3⟩, a, n, c⟩ := x
  show Calls Tryz.prog 130 #[.agg #[.string c1, .int .i64 c2, .slice a n c], .pointer (some ⟨B, 0, none⟩)] W _
  go_enter Tryz.func130, Tryz.ntmps130
  go_wp2
  all_goals (go_ret; exact ⟨rfl, hb.alloc hb.size _⟩)

set_option maxHeartbeats 1000000 in
theorem idxE_nil (c : Nat) (fv : Value) (w : World) : Calls Tryz.prog 129 #[.slice none 0 c, fv] w fun e w' => e = .returned (.int .i64 (-1)) ∧ w' = w := by
  go_enter Tryz.func129, Tryz.ntmps129
  go_wp2
  go_loopg [5, 8] 0 (fun _ _ s8 wr => s8 = .int .i64 0 ∧ wr = w)
  case atStart => exact ⟨rfl, rfl⟩
  case round =>
    obtain ⟨rfl, rfl⟩ := hrel
    go_wp2
    go_ret
    exact ⟨rfl, rfl⟩

theorem rowX {w : World} {base g n cap : Nat} {l : List EntV} (h : w.ownsRow base 70 3 (.slice (some ⟨g, 0, none⟩) n cap) n (cellsX l)) (hn : n = l.length) : ∀ j, j < l.length → ∀ i v, (encX l[j]!)[i]? = some v → w.cell? ⟨g, 0 + j * 3 + i, none⟩ = some v := by
  intro j hj i v hi
  have hi3 : i < 3 := by
    rcases Nat.lt_or_ge i 3 with h' | h'
    · exact h'
    · rw [List.getElem?_eq_none (by rw [encX_len]; exact h')] at hi; cases hi
  have := h.cellAt (j * 3 + i) (by subst hn; omega)
  rw [cellsX_at l j i hj hi3, hi] at this
  rw [Nat.zero_add]
  exact this

set_option maxHeartbeats 1000000 in
theorem where_any (base b : Nat) (s : Snap) (cv fv : Value) (L : List EntV) (nm : ByteArray) (w : World) (h : SnapI base b w s cv fv L) :
    Calls Tryz.prog 103 #[.pointer (some ⟨b, 0, none⟩), .string nm] w fun e w' => e = .returned (.int .i64 (whereF s.files nm)) ∧ Below w.heap.size w w' := by
  have eg : ∀ args w, (callFunc 130 args).run Tryz.prog w = .ok (.enter 130 args) w := enters_of Tryz.func130 (by kernel_rfl) rfl
  have hb0 : Below w.heap.size w (w.alloc (.cells #[.string nm] 9)) := (Below.refl _ _).alloc (Nat.le_refl _) _
  have HC : Hid (Calls Tryz.prog 129 #[fv, .func (.func 130) #[] #[.pointer (some ⟨w.heap.size, 0, none⟩)]] (w.alloc (.cells #[.string nm] 9)) fun e w' => e = .returned (.int .i64 (whereF s.files nm)) ∧ Below w.heap.size w w') := by
    have h1 := own_up h.row hb0
    rcases own_forms h.row with ⟨e, e0⟩ | ⟨g, c, e, _, hg, hc1, hc2⟩
    · have hL : L = [] := List.length_eq_zero_iff.1 e0
      rw [e, h.files, hL]
      exact (idxE_nil 0 _ _).mono fun e w' ⟨he, hw⟩ => ⟨he, by rw [hw]; exact hb0⟩
    · rw [e] at h1 ⊢
      unfold maxLen at hc2
      have := AnyQ.slices_IndexFunc Tryz.layIdxE 3 Tryz.isAgg70 Tryz.sizeOf70 encX encX_len (fun x => x.1.1.toList == nm.toList) 130 #[.pointer (some ⟨w.heap.size, 0, none⟩)] eg g 0 L.length c L (w.alloc (.cells #[.string nm] 9))
        (where1_any nm w.heap.size _ (by simp) (by simp)) (Nat.le_refl _) (by omega) (by simp; omega) (rowX h1 rfl)
      rw [List.take_length, whereF_map, ← h.files] at this
      exact this.mono fun e w' ⟨he, hw⟩ => ⟨he, hb0.trans (hw.mono (by simp))⟩
  obtain ⟨_, _, _, hc3, _⟩ := h.cells
  obtain ⟨fa, fc, e, _⟩ := own_slice h.row
  subst e
  have hbl := blk_lt h.box
  have hne : b ≠ w.heap.size := by omega
  clear h
  generalize whereF s.files nm = r at HC ⊢
  go_enter Tryz.func103, Tryz.ntmps103
  go_wp2_with (go_at_call 129; refine HC.out.mono ?_; rintro e w1 ⟨rfl, hb1⟩)
  go_ret
  exact ⟨rfl, hb1⟩

def rfB (p : ByteArray) (r : Int) : Bool := nameB p && (decide (1 ≤ r) && decide (r ≤ 60))
set_option maxHeartbeats 2000000 in
theorem rightFile_any (k : Int) (p : ByteArray) (r : Int) (ma : Option Addr) (mn mc : Nat) (ca : Option Addr) (cn cc : Nat) (nx : Int) (w : World) (hp : p.size ≤ maxLen) :
    Calls Tryz.prog 52 #[.agg #[.int .i64 k, .string p, .int .i64 r, .slice ma mn mc, .slice ca cn cc, .int .i64 nx]] w fun e w' => e = .returned (.bool (rfB p r)) ∧ Below w.heap.size w w' := by
  have HN := mkH (fun W => name_any p W hp)
  have HR : Hid (rfB p r = (nameB p && (decide (1 ≤ r) && decide (r ≤ 60)))) := rfl
  generalize rfB p r = q at HR ⊢
  have h3 : (1 ≤ r ∧ r ≤ 60) ∨ (r < 1 ∧ r ≤ 60) ∨ (1 ≤ r ∧ 60 < r) := by omega
  cases hnb : nameB p <;> rcases h3 with ⟨h1, h2⟩ | ⟨h1, h2⟩ | ⟨h1, h2⟩
  all_goals
    rw [hnb] at HN HR
    have hb0 : Below w.heap.size w (w.alloc (.cells #[.int .i64 k, .string p, .int .i64 r, .slice ma mn mc, .slice ca cn cc, .int .i64 nx] 62)) := (Below.refl _ _).alloc (Nat.le_refl _) _
    have HB0 := mkH hb0
    clear hb0
    go_enter Tryz.func52, Tryz.ntmps52
    go_wp2_with (go_at_call 22; refine (HN.out _).mono ?_; rintro e w1 ⟨rfl, hb1⟩; have k2 : w1.cell? ⟨w.heap.size, 2, none⟩ = some (.int .i64 r) := (hb1.cell (p := ⟨w.heap.size, 2, none⟩) (by simp)).trans (by simp))
    all_goals
      go_ret
      exact ⟨ret_bool (by rw [HR.out]; simp; try omega), HB0.out.trans (hb1.mono (by simp))⟩
end Go.Proofs.YtfppidnfomelpaaGreatDoor
