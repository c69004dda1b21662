/- What millpondkeep.StatsSound does where it looks at the rows: it returns true and changes nothing that was there. -/
import Derived.Test.YtmghdphafepifaaDoorD1
import Derived.Deep.DeepCutAuto
import Derived.Deep.CutRange
namespace Go.Proofs.YtmghdphafepifaaDoor
open Go.RowKit Go.Proofs
open Go.Sort (grow)

theorem KAt.offn {w : World} {g r i : Nat} {s : St} {v : Value} (h : KAt w r s) (hn : ¬ r = g) : KAt (w.setCell ⟨g, i, none⟩ v) r s := by
  unfold KAt at h ⊢
  rw [← h]
  exact Below.heap_setCell w ⟨g, i, none⟩ v r hn
theorem KAt.offn8 {w : World} {g r : Nat} {s : St} {v0 v1 v2 v3 v4 v5 v6 v7 : Value} (h : KAt w r s) (hn : ¬ r = g) :
    KAt (((((((((w.setCell ⟨g, 0, none⟩ v0).setCell ⟨g, 1, none⟩ v1).setCell ⟨g, 2, none⟩ v2).setCell ⟨g, 3, none⟩ v3).setCell ⟨g, 4, none⟩ v4).setCell ⟨g, 5, none⟩ v5).setCell ⟨g, 6, none⟩ v6).setCell ⟨g, 7, none⟩ v7)) r s :=
  (((((((h.offn hn).offn hn).offn hn).offn hn).offn hn).offn hn).offn hn).offn hn
theorem kA1 (w : World) {c m k n : Int} {t : ByteArray} {k' n' : Int} {t' : ByteArray} (Y : Obj) : KAt ((w.alloc (.cells #[.int .i64 c, .int .i64 m, .int .i64 k, .int .i64 n, .string t, .int .i64 k', .int .i64 n', .string t'] 45)).alloc Y) w.heap.size (c, m, (k, n, t), (k', n', t')) :=
  (Below.heap_alloc _ _ _ (by simp)).trans (heap_alloc_new _ _)
theorem kA2 (w : World) {c m k n : Int} {t : ByteArray} {k' n' : Int} {t' : ByteArray} (X : Obj) : KAt ((w.alloc X).alloc (.cells #[.int .i64 c, .int .i64 m, .int .i64 k, .int .i64 n, .string t, .int .i64 k', .int .i64 n', .string t'] 45)) (w.heap.size + 1) (c, m, (k, n, t), (k', n', t')) := heap_new1 w X _
theorem kB1 {w : World} {g : Nat} {c m k n : Int} {t : ByteArray} {k' n' : Int} {t' : ByteArray} (h : KAt w g zeroS) (Z : Obj) : KAt ((((((((((w.setCell ⟨g, 0, none⟩ (.int .i64 c)).setCell ⟨g, 1, none⟩ (.int .i64 m)).setCell ⟨g, 2, none⟩ (.int .i64 k)).setCell ⟨g, 3, none⟩ (.int .i64 n)).setCell ⟨g, 4, none⟩ (.string t)).setCell ⟨g, 5, none⟩ (.int .i64 k')).setCell ⟨g, 6, none⟩ (.int .i64 n')).setCell ⟨g, 7, none⟩ (.string t'))).alloc Z) g (c, m, (k, n, t), (k', n', t')) :=
  (h.put' rfl).up ((Below.refl _ _).alloc (Nat.le_refl _) _)
theorem kB2 (w : World) {g : Nat} {v0 v1 v2 v3 v4 v5 v6 v7 : Value} {c m k n : Int} {t : ByteArray} {k' n' : Int} {t' : ByteArray} : KAt ((((((((((w.setCell ⟨g, 0, none⟩ v0).setCell ⟨g, 1, none⟩ v1).setCell ⟨g, 2, none⟩ v2).setCell ⟨g, 3, none⟩ v3).setCell ⟨g, 4, none⟩ v4).setCell ⟨g, 5, none⟩ v5).setCell ⟨g, 6, none⟩ v6).setCell ⟨g, 7, none⟩ v7)).alloc (.cells #[.int .i64 c, .int .i64 m, .int .i64 k, .int .i64 n, .string t, .int .i64 k', .int .i64 n', .string t'] 45)) w.heap.size (c, m, (k, n, t), (k', n', t')) := by
  have h := heap_alloc_new (((((((((w.setCell ⟨g, 0, none⟩ v0).setCell ⟨g, 1, none⟩ v1).setCell ⟨g, 2, none⟩ v2).setCell ⟨g, 3, none⟩ v3).setCell ⟨g, 4, none⟩ v4).setCell ⟨g, 5, none⟩ v5).setCell ⟨g, 6, none⟩ v6).setCell ⟨g, 7, none⟩ v7)) (.cells #[.int .i64 c, .int .i64 m, .int .i64 k, .int .i64 n, .string t, .int .i64 k', .int .i64 n', .string t'] 45)
  simp only [World.size_setCell] at h
  exact h
theorem kC1 {w : World} {g g' : Nat} {v0 v1 v2 v3 v4 v5 v6 v7 : Value} {c m k n : Int} {t : ByteArray} {k' n' : Int} {t' : ByteArray} (h : KAt w g zeroS) (hn : ¬ g = g') : KAt ((((((((((((((((((w.setCell ⟨g, 0, none⟩ (.int .i64 c)).setCell ⟨g, 1, none⟩ (.int .i64 m)).setCell ⟨g, 2, none⟩ (.int .i64 k)).setCell ⟨g, 3, none⟩ (.int .i64 n)).setCell ⟨g, 4, none⟩ (.string t)).setCell ⟨g, 5, none⟩ (.int .i64 k')).setCell ⟨g, 6, none⟩ (.int .i64 n')).setCell ⟨g, 7, none⟩ (.string t'))).setCell ⟨g', 0, none⟩ v0).setCell ⟨g', 1, none⟩ v1).setCell ⟨g', 2, none⟩ v2).setCell ⟨g', 3, none⟩ v3).setCell ⟨g', 4, none⟩ v4).setCell ⟨g', 5, none⟩ v5).setCell ⟨g', 6, none⟩ v6).setCell ⟨g', 7, none⟩ v7)) g (c, m, (k, n, t), (k', n', t')) := (h.put' rfl).offn8 hn
theorem kC2 {w : World} {g g' : Nat} {v0 v1 v2 v3 v4 v5 v6 v7 : Value} {c m k n : Int} {t : ByteArray} {k' n' : Int} {t' : ByteArray} (h : KAt w g' zeroS) (hn : ¬ g' = g) : KAt ((((((((((((((((((w.setCell ⟨g, 0, none⟩ v0).setCell ⟨g, 1, none⟩ v1).setCell ⟨g, 2, none⟩ v2).setCell ⟨g, 3, none⟩ v3).setCell ⟨g, 4, none⟩ v4).setCell ⟨g, 5, none⟩ v5).setCell ⟨g, 6, none⟩ v6).setCell ⟨g, 7, none⟩ v7)).setCell ⟨g', 0, none⟩ (.int .i64 c)).setCell ⟨g', 1, none⟩ (.int .i64 m)).setCell ⟨g', 2, none⟩ (.int .i64 k)).setCell ⟨g', 3, none⟩ (.int .i64 n)).setCell ⟨g', 4, none⟩ (.string t)).setCell ⟨g', 5, none⟩ (.int .i64 k')).setCell ⟨g', 6, none⟩ (.int .i64 n')).setCell ⟨g', 7, none⟩ (.string t'))) g' (c, m, (k, n, t), (k', n', t')) := (h.offn8 hn).put' rfl
theorem kZ1 (w : World) (Y : Obj) : KAt ((w.alloc (.cells (cellsS zeroS) 45)).alloc Y) w.heap.size zeroS := (Below.heap_alloc _ _ _ (by simp)).trans (heap_alloc_new _ _)

theorem Sl.at {w : World} {a1 : Option Addr} {n c : Nat} {l : List V} (h : Sl w (.slice a1 n c) l) {k : Nat} {x : V} (hx : l[k]? = some x) :
    ∃ b o, a1 = some ⟨b, o, none⟩ ∧ b < w.heap.size ∧ w.cell? ⟨b, o + k * 3, none⟩ = some (.int .i64 x.1) ∧ w.cell? ⟨b, o + k * 3 + 1, none⟩ = some (.int .i64 x.2.1) ∧ w.cell? ⟨b, o + k * 3 + 2, none⟩ = some (.string x.2.2) := by
  obtain ⟨a', c', e, _, hl⟩ := h
  injection e with e1 _ _
  subst e1
  obtain ⟨b, o, e, hb, hc⟩ := hl (by intro e; rw [e] at hx; simp at hx)
  exact ⟨b, o, e, hb, hc k x hx⟩
theorem Sl.take {w : World} {a1 : Option Addr} {n c : Nat} {l : List V} (h : Sl w (.slice a1 n c) l) {r : Nat} (hr : r ≤ l.length) : Sl w (.slice a1 r c) (l.take r) := by
  obtain ⟨a', c', e, hc, hl⟩ := h
  injection e with e1 _ e3
  subst e1 e3
  have hlen : (l.take r).length = r := by simp; omega
  refine ⟨a1, c, by rw [hlen], by omega, fun hne => ?_⟩
  obtain ⟨b, o, e, hb, hcs⟩ := hl (by intro e; rw [e] at hne; simp at hne)
  refine ⟨b, o, e, hb, fun j x hj => hcs j x ?_⟩
  rw [List.getElem?_take] at hj
  split at hj
  · exact hj
  · cases hj
theorem Sl.drop {w : World} {a1 : Option Addr} {c : Nat} {l : List V} (h : Sl w (.slice a1 l.length c) l) {r : Nat} (hr : r ≤ l.length) : Sl w (.slice (if c = r then a1 else Option.map (fun x => x.add (r * 3)) a1) (l.length - r) (c - r)) (l.drop r) := by
  obtain ⟨a', c', e, hc, hl⟩ := h
  injection e with e1 _ e3
  subst e1 e3
  have hlen : (l.drop r).length = l.length - r := by simp
  refine ⟨_, _, by rw [hlen], by omega, fun hne => ?_⟩
  have hlt : r < l.length := by
    rcases Nat.lt_or_ge r l.length with h' | h'
    · exact h'
    · exact (hne (List.drop_eq_nil_of_le h')).elim
  obtain ⟨b, o, e, hb, hcs⟩ := hl (by intro e; rw [e] at hlt; simp at hlt)
  subst e
  have hadd : (⟨b, o, none⟩ : Addr).add (r * 3) = ⟨b, o + r * 3, none⟩ := by unfold Addr.add; split <;> simp_all
  refine ⟨b, o + r * 3, by rw [if_neg (by omega), Option.map_some, hadd], hb, fun j x hj => ?_⟩
  rw [List.getElem?_drop] at hj
  have := hcs (r + j) x hj
  rw [show o + r * 3 + j * 3 = o + (r + j) * 3 by omega]
  exact this
theorem both_st (s1 s2 : St) (w : World) (h1 : 0 ≤ s1.1 ∧ s1.1 ≤ 40 ∧ 0 ≤ s1.2.1 ∧ s1.2.1 ≤ 40) (h2 : 0 ≤ s2.1 ∧ s2.1 ≤ 40 ∧ 0 ≤ s2.2.1 ∧ s2.2.1 ≤ 40) :
    Calls Tryd.prog 24 #[.agg (cellsS s1), .agg (cellsS s2)] w fun e w' => e = .returned (.agg (cellsS (bothS s1 s2))) ∧ Below w.heap.size w w' := by
  obtain ⟨c1, m1, ⟨k1, n1, t1⟩, ⟨p1, q1, u1⟩⟩ := s1
  obtain ⟨c2, m2, ⟨k2, n2, t2⟩, ⟨p2, q2, u2⟩⟩ := s2
  simp only at h1 h2
  exact both_any c1 m1 k1 n1 t1 p1 q1 u1 c2 m2 k2 n2 t2 p2 q2 u2 w (by omega) (by omega) (by omega) (by omega) (by omega) (by omega) (by omega) (by omega)
theorem parts1 {a : List V} (ha : okL a = true) (r : Nat) : bothS (stOf (a.take r)) (stOf (a.drop r)) = stOf a := by
  have hn := okL_kind ha
  have n1 : ∀ x ∈ a.take r, 0 ≤ x.1 := fun x hx => hn x (List.mem_of_mem_take hx)
  have n2 : ∀ x ∈ a.drop r, 0 ≤ x.1 := fun x hx => hn x (List.mem_of_mem_drop hx)
  have h := (isSt_of _ n1).both (isSt_of _ n2) n1 n2
  rw [List.take_append_drop] at h
  exact h.one (isSt_of a hn)
theorem parts2 {a : List V} (ha : okL a = true) (r : Nat) : bothS (stOf (a.drop r)) (stOf (a.take r)) = stOf a := by
  have hn := okL_kind ha
  have n1 : ∀ x ∈ a.take r, 0 ≤ x.1 := fun x hx => hn x (List.mem_of_mem_take hx)
  have n2 : ∀ x ∈ a.drop r, 0 ≤ x.1 := fun x hx => hn x (List.mem_of_mem_drop hx)
  have h := ((isSt_of _ n2).both (isSt_of _ n1) n2 n1).turn
  rw [List.take_append_drop] at h
  exact h.one (isSt_of a hn)
theorem stOf_few (l : List V) (hl : l.length ≤ 40) : 0 ≤ (stOf l).1 ∧ (stOf l).1 ≤ 40 ∧ 0 ≤ (stOf l).2.1 ∧ (stOf l).2.1 ≤ 40 := by
  have h := stOf_take_cnt l l.length (Nat.le_refl _)
  rw [List.take_of_length_le (Nat.le_refl _)] at h
  omega
/-- How many rounds are left: the counter lies in memory. -/
def left40 (v : Value) (wr : World) : Nat :=
  match v with
  | .pointer (some p) => match wr.cell? p with
    | some (.int _ n) => (41 - n).toNat
    | _ => 0
  | _ => 0
theorem left40_at {wr : World} {b : Nat} {n : Int} (h : wr.cell? ⟨b, 0, none⟩ = some (.int .i64 n)) : left40 (.pointer (some ⟨b, 0, none⟩)) wr = (41 - n).toNat := by
  simp [left40, h]
theorem pick1_any (x : Int) (n : Nat) (hn : n ≤ 40) (w : World) :
    Calls Tryd.prog 23 #[.int .i64 x, .int .i64 ((n : Int) + 1)] w fun e w' => ∃ r : Nat, r ≤ n ∧ e = .returned (.int .i64 r) ∧ w' = w := by
  have h := pick_any x (n + 1) (by omega) (by omega) w
  rw [show ((n + 1 : Nat) : Int) = (n : Int) + 1 by omega] at h
  exact h.mono fun e w' ⟨r, hr, he, hw⟩ => ⟨r, by omega, he, hw⟩
theorem one_cell {w : World} {b : Nat} {v : Value} {t : TypeId} (h : w.heap[b]? = some (.cells #[v] t)) : w.cell? ⟨b, 0, none⟩ = some v ∧ w.frozen? ⟨b, 0, none⟩ = false ∧ b < w.heap.size :=
  ⟨cell_of_heap h 0, by simp [World.frozen?, h], block_lt_of_cell (cell_of_heap h 0)⟩
/-- The rows that are looked at: what is known of both columns, of each row's two values. -/
theorem links {a b : List V} {i : Nat} {x y : V} (ha : okL a = true) (hb : okL b = true) (la : aloneB a 0 = true) (lb : aloneB b 0 = true) (hx : a[i]? = some x) (hy : b[i]? = some y) : ∀ col, Link (gS (stOf a) (stOf b) col) (gV x y col) := by
  intro col
  unfold gS gV
  cases (col.toList == [97])
  · exact ⟨b, isSt_of b (okL_kind hb), (aloneB_all b 0 (by omega) (okL_kind hb) lb).2, List.mem_of_getElem? hy⟩
  · exact ⟨a, isSt_of a (okL_kind ha), (aloneB_all a 0 (by omega) (okL_kind ha) la).2, List.mem_of_getElem? hx⟩
theorem not_one {gs : ByteArray → St} {gv : ByteArray → V} (hk : ∀ col, Link (gs col) (gv col)) {T : CT} (ho : okT T) (hm : mayT gs false T = false) : (evT (fun s => (gv s).1) (fun s => (gv s).2.1) (fun s => (gv s).2.2) T == 1) = false := by
  cases h : (evT (fun s => (gv s).1) (fun s => (gv s).2.1) (fun s => (gv s).2.2) T == 1) with
  | false => rfl
  | true =>
    have := (sound gs gv hk T ho).1 (by simpa using h)
    rw [hm] at this; cases this

set_option maxHeartbeats 8000000 in
set_option maxRecDepth 100000 in
theorem ss_right (a1 a2 : Option Addr) (c1 c2 : Nat) (a b : List V) (lv : Value) (at_ : Int) (w : World) (h1 : a.length ≤ 40) (h2 : b.length ≤ 40) (hsa : Sl w (.slice a1 a.length c1) a) (hsb : Sl w (.slice a2 b.length c2) b)
    (hta : ∀ x ∈ a, x.2.2.size ≤ maxLen) (htb : ∀ x ∈ b, x.2.2.size ≤ maxLen) (ho : OppB w)
    (hcl : ∀ W, Below w.heap.size w W → Calls Tryd.prog 12 #[lv] W fun e w' => ∃ v T, e = .returned v ∧ InC w' T v ∧ depthT T ≤ 14 ∧ Below W.heap.size W w')
    (hf : okL a = true ∧ okL b = true ∧ aloneB a 0 = true ∧ aloneB b 0 = true) :
    Calls Tryd.prog 5 #[.slice a1 a.length c1, .slice a2 b.length c2, lv, .int .i64 at_] w fun e w' => e = .returned (.bool true) ∧ Below w.heap.size w w' := by
  have HK : Hid (∀ W, Below w.heap.size w W → Calls Tryd.prog 17 #[] W fun e w' => e = .returned (.bool true) ∧ Below W.heap.size W w') := fun W hb => known_any W (ho.below hb)
  have RA : Hid (∀ W, Below w.heap.size w W → Calls Tryd.prog 7 #[.slice a1 a.length c1] W fun e w' => e = .returned (.bool true) ∧ Below W.heap.size W w') := fun W hb => (right_sl _ a W (hsa.up hb) h1 hta).mono fun e w' ⟨he, hb'⟩ => ⟨he.trans (by rw [hf.1]), hb'⟩
  have RB : Hid (∀ W, Below w.heap.size w W → Calls Tryd.prog 7 #[.slice a2 b.length c2] W fun e w' => e = .returned (.bool true) ∧ Below W.heap.size W w') := fun W hb => (right_sl _ b W (hsb.up hb) h2 htb).mono fun e w' ⟨he, hb'⟩ => ⟨he.trans (by rw [hf.2.1]), hb'⟩
  have AA : Hid (∀ W, Below w.heap.size w W → Calls Tryd.prog 18 #[.slice a1 a.length c1] W fun e w' => e = .returned (.bool true) ∧ w' = W) := fun W hb => (alone_any _ a W (hsa.up hb) h1).mono fun e w' ⟨he, hb'⟩ => ⟨he.trans (by rw [hf.2.2.1]), hb'⟩
  have AB : Hid (∀ W, Below w.heap.size w W → Calls Tryd.prog 18 #[.slice a2 b.length c2] W fun e w' => e = .returned (.bool true) ∧ w' = W) := fun W hb => (alone_any _ b W (hsb.up hb) h2).mono fun e w' ⟨he, hb'⟩ => ⟨he.trans (by rw [hf.2.2.2]), hb'⟩
  have OA : Hid (∀ W, Below w.heap.size w W → Calls Tryd.prog 19 #[.slice a1 a.length c1] W fun e w' => e = .returned (.agg (cellsS (stOf a))) ∧ Below W.heap.size W w') := fun W hb => of_any _ a W (hsa.up hb) h1
  have OB : Hid (∀ W, Below w.heap.size w W → Calls Tryd.prog 19 #[.slice a2 b.length c2] W fun e w' => e = .returned (.agg (cellsS (stOf b))) ∧ Below W.heap.size W w') := fun W hb => of_any _ b W (hsb.up hb) h2
  have HSA := mkHid hsa; have HSB := mkHid hsb; have HF := mkHid hf; have HL := mkHid hcl; have HO := mkHid ho
  clear hsa hsb hta htb ho hf hcl
  have hmf : ∀ (fn : Fn) (first cap : Array Value) (w : World), (Instr.makeFunc fn first cap).run Tryd.prog w = .ok (.func fn first cap) w := fun _ _ _ _ => rfl
  go_enter Tryd.func5, Tryd.ntmps5
  go_wp2_with fail
  refine (HK.out _ (below_a2 w _ _)).mono ?_
  rintro e w1 ⟨rfl, hb1⟩
  have B1 := mkHid (Below.up (below_a2 w _ _) hb1)
  have p1 : w1.cell? ⟨w.heap.size, 0, none⟩ = some (.slice a1 a.length c1) := (hb1.cell (p := ⟨w.heap.size, 0, none⟩) (by simp; omega)).trans (by go_simp)
  have p2 : w1.cell? ⟨w.heap.size + 1, 0, none⟩ = some (.slice a2 b.length c2) := (hb1.cell (p := ⟨w.heap.size + 1, 0, none⟩) (by simp)).trans (by go_simp)
  have s1 : w.heap.size + 1 < w1.heap.size := by have := hb1.size; simp at this; omega
  clear hb1
  go_wp2_with fail
  refine (RA.out _ B1.out).mono ?_
  rintro e w2 ⟨rfl, hb2⟩
  have B2 := mkHid (Below.up B1.out hb2)
  replace p1 : w2.cell? ⟨w.heap.size, 0, none⟩ = _ := (hb2.cell (p := ⟨w.heap.size, 0, none⟩) (by simp; omega)).trans p1
  replace p2 : w2.cell? ⟨w.heap.size + 1, 0, none⟩ = _ := (hb2.cell (p := ⟨w.heap.size + 1, 0, none⟩) s1).trans p2
  replace s1 : w.heap.size + 1 < w2.heap.size := Nat.lt_of_lt_of_le s1 hb2.size
  clear hb2 B1
  go_wp2_with fail
  refine (RB.out _ B2.out).mono ?_
  rintro e w3 ⟨rfl, hb3⟩
  have B3 := mkHid (Below.up B2.out hb3)
  replace p1 : w3.cell? ⟨w.heap.size, 0, none⟩ = _ := (hb3.cell (p := ⟨w.heap.size, 0, none⟩) (by simp; omega)).trans p1
  replace p2 : w3.cell? ⟨w.heap.size + 1, 0, none⟩ = _ := (hb3.cell (p := ⟨w.heap.size + 1, 0, none⟩) s1).trans p2
  replace s1 : w.heap.size + 1 < w3.heap.size := Nat.lt_of_lt_of_le s1 hb3.size
  clear hb3 B2
  go_wp2_with fail
  refine (AA.out _ B3.out).mono ?_
  rintro e w4 ⟨rfl, rfl⟩
  go_wp2_with fail
  refine (AB.out _ B3.out).mono ?_
  rintro e w4 ⟨rfl, rfl⟩
  go_wp2_with fail
  refine (HL.out _ B3.out).mono ?_
  rintro e w4 ⟨vc, T, rfl, hi4, hd4, hb4⟩
  have B4 := mkHid (Below.up B3.out hb4)
  have HI := mkHid hi4
  have HD := mkHid hd4
  replace p1 : w4.cell? ⟨w.heap.size, 0, none⟩ = _ := (hb4.cell (p := ⟨w.heap.size, 0, none⟩) (by simp; omega)).trans p1
  replace p2 : w4.cell? ⟨w.heap.size + 1, 0, none⟩ = _ := (hb4.cell (p := ⟨w.heap.size + 1, 0, none⟩) s1).trans p2
  replace s1 : w.heap.size + 1 < w4.heap.size := Nat.lt_of_lt_of_le s1 hb4.size
  clear hb4 B3 hi4 hd4 HK RA RB AA AB HL
  have s0 : w.heap.size < w4.heap.size := by omega
  go_upto_region 8 with fail
  go_cut [10, 11] (fun v10 v11 wx => ∃ gx gy, v10 = .pointer (some ⟨gx, 0, none⟩) ∧ v11 = .pointer (some ⟨gy, 0, none⟩) ∧ Hid (KAt wx gx (stOf a) ∧ KAt wx gy (stOf b) ∧ Below w4.heap.size w4 wx))
  case first =>
    have OA4 : Hid (∀ W, Below w4.heap.size w4 W → Calls Tryd.prog 19 #[.slice a1 a.length c1] W fun e w' => e = .returned (.agg (cellsS (stOf a))) ∧ Below W.heap.size W w') := fun W hb => OA.out W (Below.up B4.out hb)
    have OB4 : Hid (∀ W, Below w4.heap.size w4 W → Calls Tryd.prog 19 #[.slice a2 b.length c2] W fun e w' => e = .returned (.agg (cellsS (stOf b))) ∧ Below W.heap.size W w') := fun W hb => OB.out W (Below.up B4.out hb)
    obtain ⟨sa, hsa⟩ : ∃ s, stOf a = s := ⟨_, rfl⟩
    obtain ⟨sb, hsb⟩ : ∃ s, stOf b = s := ⟨_, rfl⟩
    rw [hsa] at OA4
    rw [hsb] at OB4
    have HEA := mkHid hsa
    have HEB := mkHid hsb
    clear hsa hsb OA OB HSA HSB HF HO B4 HI HD
    obtain ⟨xc, xm, ⟨xk, xn, xt⟩, ⟨xp, xq, xu⟩⟩ := sa
    obtain ⟨yc, ym, ⟨yk, yn, yt⟩, ⟨yp, yq, yu⟩⟩ := sb
    unfold cellsS at OA4 OB4
    simp only at OA4 OB4
    have : ¬ w.heap.size = w4.heap.size := by omega
    have : ¬ w4.heap.size = w.heap.size := by omega
    have : ¬ w.heap.size = w4.heap.size + 1 := by omega
    have : ¬ w4.heap.size + 1 = w.heap.size := by omega
    have : ¬ w.heap.size + 1 = w4.heap.size := by omega
    have : ¬ w4.heap.size = w.heap.size + 1 := by omega
    have : ¬ w.heap.size + 1 = w4.heap.size + 1 := by omega
    have : ¬ w4.heap.size + 1 = w.heap.size + 1 := by omega
    have hne1 := World.new_ne w4 ⟨w.heap.size, 0, none⟩ p1
    have hne2 := World.new_ne w4 ⟨w.heap.size + 1, 0, none⟩ p2
    go_region_held3 (fun w' => w'.cell? ⟨w.heap.size, 0, none⟩ = some (.slice a1 a.length c1) ∧ w'.cell? ⟨w.heap.size + 1, 0, none⟩ = some (.slice a2 b.length c2)) (go_keep) (first
      | (go_at_call_of 19 (#[.slice a1 a.length c1] : Array Value)
         refine (OA4.out _ (by first | exact (Below.refl _ _).drew | exact ((Below.refl _ _).drew).alloc (Nat.le_refl _) _ | exact (((Below.refl _ _).drew).alloc (Nat.le_refl _) _).alloc (by simp) _)).mono ?_
         rintro e w5 ⟨rfl, hb5⟩
         have B5 : Below w4.heap.size w4 w5 := Below.up (by first | exact (Below.refl _ _).drew | exact ((Below.refl _ _).drew).alloc (Nat.le_refl _) _ | exact (((Below.refl _ _).drew).alloc (Nat.le_refl _) _).alloc (by simp) _) hb5
         try (have ka : KAt w5 w4.heap.size zeroS := KAt.up (by first | exact heap_alloc_new _ _ | exact kZ1 _ _) hb5)
         try (have kb : KAt w5 (w4.heap.size + 1) zeroS := KAt.up (by exact heap_new1 _ _ _) hb5)
         have q1 : w5.cell? ⟨w.heap.size, 0, none⟩ = some (.slice a1 a.length c1) := (B5.cell (p := ⟨w.heap.size, 0, none⟩) s0).trans p1
         have q2 : w5.cell? ⟨w.heap.size + 1, 0, none⟩ = some (.slice a2 b.length c2) := (B5.cell (p := ⟨w.heap.size + 1, 0, none⟩) s1).trans p2
         have z0 : w.heap.size < w5.heap.size := Nat.lt_of_lt_of_le s0 B5.size
         have z1 : w.heap.size + 1 < w5.heap.size := Nat.lt_of_lt_of_le s1 B5.size
         try (have t1 : w4.heap.size < w5.heap.size := by (have := hb5.size; simp at this; omega))
         try (have t2 : w4.heap.size + 1 < w5.heap.size := by (have := hb5.size; simp at this; omega))
         try (have : ¬ w4.heap.size = w5.heap.size := by omega)
         try (have : ¬ w5.heap.size = w4.heap.size := by omega)
         try (have : ¬ w4.heap.size + 1 = w5.heap.size := by omega)
         try (have : ¬ w5.heap.size = w4.heap.size + 1 := by omega)
         try (have : ¬ w4.heap.size = w5.heap.size + 1 := by omega)
         try (have : ¬ w5.heap.size + 1 = w4.heap.size := by omega)
         try (have : ¬ w4.heap.size + 1 = w5.heap.size + 1 := by omega)
         try (have : ¬ w5.heap.size + 1 = w4.heap.size + 1 := by omega)
         have : ¬ w.heap.size = w5.heap.size := by omega
         have : ¬ w5.heap.size = w.heap.size := by omega
         have : ¬ w.heap.size = w5.heap.size + 1 := by omega
         have : ¬ w5.heap.size + 1 = w.heap.size := by omega
         have : ¬ w.heap.size + 1 = w5.heap.size := by omega
         have : ¬ w5.heap.size = w.heap.size + 1 := by omega
         have : ¬ w.heap.size + 1 = w5.heap.size + 1 := by omega
         have : ¬ w5.heap.size + 1 = w.heap.size + 1 := by omega
         have := World.new_ne w5 ⟨w.heap.size, 0, none⟩ q1
         have := World.new_ne w5 ⟨w.heap.size + 1, 0, none⟩ q2
         obtain ⟨hc5, hf5⟩ := bcell hb5)
      | (go_at_call_of 19 (#[.slice a2 b.length c2] : Array Value)
         refine (OB4.out _ (by first | exact B5 | exact B5.alloc B5.size _ | exact (B5.alloc B5.size _).alloc (by have := B5.size; simp; omega) _)).mono ?_
         rintro e w6 ⟨rfl, hb6⟩
         have B6 : Below w4.heap.size w4 w6 := Below.up (by first | exact B5 | exact B5.alloc B5.size _ | exact (B5.alloc B5.size _).alloc (by have := B5.size; simp; omega) _) hb6
         try (have kc : KAt w6 w4.heap.size zeroS := KAt.up (by first | exact ka | exact ka.up ((Below.refl _ _).alloc (Nat.le_refl _) _) | exact ka.up (((Below.refl _ _).alloc (Nat.le_refl _) _).alloc (by simp) _)) hb6)
         try (have kd : KAt w6 (w4.heap.size + 1) zeroS := KAt.up (by first | exact kb | exact kb.up ((Below.refl _ _).alloc (Nat.le_refl _) _)) hb6)
         try (have ke : KAt w6 w5.heap.size zeroS := KAt.up (by first | exact heap_alloc_new _ _ | exact kZ1 _ _) hb6)
         try (have kf : KAt w6 (w5.heap.size + 1) zeroS := KAt.up (by exact heap_new1 _ _ _) hb6)
         have t56 : w5.heap.size ≤ w6.heap.size := Nat.le_trans (by first | exact Nat.le_refl _ | (simp; done) | (simp; omega)) hb6.size
         try (have t3 : w4.heap.size < w6.heap.size := by omega)
         try (have t4 : w4.heap.size + 1 < w6.heap.size := by omega)
         try (have t5 : w5.heap.size < w6.heap.size := by (have := hb6.size; simp at this; omega))
         try (have t6 : w5.heap.size + 1 < w6.heap.size := by (have := hb6.size; simp at this; omega))
         try (have : ¬ w4.heap.size = w6.heap.size := by omega)
         try (have : ¬ w6.heap.size = w4.heap.size := by omega)
         try (have : ¬ w4.heap.size = w6.heap.size + 1 := by omega)
         try (have : ¬ w6.heap.size + 1 = w4.heap.size := by omega)
         try (have : ¬ w4.heap.size + 1 = w6.heap.size := by omega)
         try (have : ¬ w6.heap.size = w4.heap.size + 1 := by omega)
         try (have : ¬ w4.heap.size + 1 = w6.heap.size + 1 := by omega)
         try (have : ¬ w6.heap.size + 1 = w4.heap.size + 1 := by omega)
         try (have : ¬ w5.heap.size = w6.heap.size := by omega)
         try (have : ¬ w6.heap.size = w5.heap.size := by omega)
         try (have : ¬ w5.heap.size = w6.heap.size + 1 := by omega)
         try (have : ¬ w6.heap.size + 1 = w5.heap.size := by omega)
         try (have : ¬ w5.heap.size + 1 = w6.heap.size := by omega)
         try (have : ¬ w6.heap.size = w5.heap.size + 1 := by omega)
         try (have : ¬ w5.heap.size + 1 = w6.heap.size + 1 := by omega)
         try (have : ¬ w6.heap.size + 1 = w5.heap.size + 1 := by omega)
         have r1 : w6.cell? ⟨w.heap.size, 0, none⟩ = some (.slice a1 a.length c1) := (B6.cell (p := ⟨w.heap.size, 0, none⟩) s0).trans p1
         have r2 : w6.cell? ⟨w.heap.size + 1, 0, none⟩ = some (.slice a2 b.length c2) := (B6.cell (p := ⟨w.heap.size + 1, 0, none⟩) s1).trans p2
         have y0 : w.heap.size < w6.heap.size := Nat.lt_of_lt_of_le s0 B6.size
         have y1 : w.heap.size + 1 < w6.heap.size := Nat.lt_of_lt_of_le s1 B6.size
         have : ¬ w.heap.size = w6.heap.size := by omega
         have : ¬ w6.heap.size = w.heap.size := by omega
         have : ¬ w.heap.size = w6.heap.size + 1 := by omega
         have : ¬ w6.heap.size + 1 = w.heap.size := by omega
         have : ¬ w.heap.size + 1 = w6.heap.size := by omega
         have : ¬ w6.heap.size = w.heap.size + 1 := by omega
         have : ¬ w.heap.size + 1 = w6.heap.size + 1 := by omega
         have : ¬ w6.heap.size + 1 = w.heap.size + 1 := by omega
         have := World.new_ne w6 ⟨w.heap.size, 0, none⟩ r1
         have := World.new_ne w6 ⟨w.heap.size + 1, 0, none⟩ r2
         obtain ⟨hc6, hf6⟩ := bcell hb6))
    all_goals (try go_wp2_with fail)
    all_goals go_meet
    all_goals
      case rel =>
        have u5 := B5.size
        have u6 := B6.size
        refine ⟨_, _, rfl, rfl, ?_⟩
        rw [HEA.out, HEB.out]
        refine mkHid ⟨?_, ?_, ?_⟩
        · first
            | with_reducible exact kA1 _ _
            | with_reducible exact kA2 _ _
            | with_reducible exact kB1 (by assumption) _
            | with_reducible exact kB2 _
            | with_reducible exact kC1 (by assumption) (by omega)
            | with_reducible exact kC2 (by assumption) (by omega)
        · first
            | with_reducible exact kA1 _ _
            | with_reducible exact kA2 _ _
            | with_reducible exact kB1 (by assumption) _
            | with_reducible exact kB2 _
            | with_reducible exact kC1 (by assumption) (by omega)
            | with_reducible exact kC2 (by assumption) (by omega)
        · repeat (first
            | with_reducible exact B6
            | with_reducible refine b8c ?_ (by omega) _ _ _ _ _ _ _ _
            | with_reducible refine Below.alloc ?_ (by first | omega | (simp; omega)) _)
  case rest =>
    obtain ⟨gx, gy, rfl, rfl, hcut⟩ := hcut
    have KX := mkHid hcut.out.1
    have KY := mkHid hcut.out.2.1
    have C4 := mkHid hcut.out.2.2
    have B5 := mkHid (Below.up B4.out C4.out)
    clear hcut
    have HI5 := mkHid (HI.out.up C4.out)
    replace p1 : wc.cell? ⟨w.heap.size, 0, none⟩ = _ := (C4.out.cell (p := ⟨w.heap.size, 0, none⟩) s0).trans p1
    replace p2 : wc.cell? ⟨w.heap.size + 1, 0, none⟩ = _ := (C4.out.cell (p := ⟨w.heap.size + 1, 0, none⟩) s1).trans p2
    replace s1 : w.heap.size + 1 < wc.heap.size := Nat.lt_of_lt_of_le s1 C4.out.size
    replace s0 : w.heap.size < wc.heap.size := by omega
    clear B4 C4 HI OA OB
    have HM := mkHid (May_any (.func (.func 21) #[] #[.pointer (some ⟨gx, 0, none⟩), .pointer (some ⟨gy, 0, none⟩)]) (gS (stOf a) (stOf b)) T vc wc HI5.out
      (fun W s hb => toldS21_any _ _ (gS (stOf a) (stOf b)) s W (fun W' s' hb' => get21_any gx gy _ _ s' W' ((KX.out.up hb).up hb') ((KY.out.up hb).up hb')))
      (HO.out.below B5.out) (withinT_of_depth T 24 (by have := HD.out; omega)))
    obtain ⟨m, hm⟩ : ∃ m, mayT (gS (stOf a) (stOf b)) false T = m := ⟨_, rfl⟩
    rw [hm] at HM
    have HMM := mkHid hm
    clear hm
    go_wp2_with fail
    refine HM.out.mono ?_
    rintro e w5 ⟨rfl, hb5⟩
    have HI6 := mkHid (HI5.out.up hb5)
    have KX6 := mkHid (KX.out.up hb5)
    have B6 := mkHid (Below.up B5.out hb5)
    replace p1 : w5.cell? ⟨w.heap.size, 0, none⟩ = _ := (hb5.cell (p := ⟨w.heap.size, 0, none⟩) s0).trans p1
    replace p2 : w5.cell? ⟨w.heap.size + 1, 0, none⟩ = _ := (hb5.cell (p := ⟨w.heap.size + 1, 0, none⟩) s1).trans p2
    replace s1 : w.heap.size + 1 < w5.heap.size := Nat.lt_of_lt_of_le s1 hb5.size
    replace s0 : w.heap.size < w5.heap.size := by omega
    clear hb5 B5 HI5 KX KY HM
    go_wp2_with fail
    go_loopw [13] (fun v13 wr => ∃ (bi k : Nat), v13 = .pointer (some ⟨bi, 0, none⟩) ∧ k ≤ 40 ∧ Hid (w5.heap.size ≤ bi ∧ wr.heap[bi]? = some (.cells #[.int .i64 k] 3) ∧ Below w5.heap.size w5 wr)) (fun v13 wr => left40 v13 wr)
    case atStart => exact ⟨w5.heap.size, 0, rfl, by omega, mkHid ⟨Nat.le_refl _, heap_alloc_new _ _, (Below.refl _ _).alloc (Nat.le_refl _) _⟩⟩
    case round =>
      obtain ⟨bi, k, rfl, hk40, HR⟩ := hrel
      obtain ⟨ci, fi, li⟩ := one_cell HR.out.2.1
      have r1 : wr.cell? ⟨w.heap.size, 0, none⟩ = _ := (HR.out.2.2.cell (p := ⟨w.heap.size, 0, none⟩) s0).trans p1
      have r2 : wr.cell? ⟨w.heap.size + 1, 0, none⟩ = _ := (HR.out.2.2.cell (p := ⟨w.heap.size + 1, 0, none⟩) s1).trans p2
      by_cases hka : k < a.length
      · by_cases hkb : k < b.length
        · cases m with
          | true =>
            go_wp2
            go_roundw
            case rel => exact ⟨wr.heap.size, k + 1, rfl, by omega, mkHid ⟨by have := HR.out.2.2.size; omega, heap_alloc_new _ _, HR.out.2.2.alloc HR.out.2.2.size _⟩⟩
            case measure =>
              rw [left40_at ci, left40_at (n := (k : Int) + 1) (by rw [World.cell?_alloc_at _ _ _ _ rfl]; rfl)]
              omega
          | false =>
            obtain ⟨⟨kx, nx, tx⟩, hx⟩ := getEx hka
            obtain ⟨⟨ky, ny, ty⟩, hy⟩ := getEx hkb
            obtain ⟨b1, o1, rfl, l1, x0, x1, x2⟩ := HSA.out.at hx
            obtain ⟨b2, o2, rfl, l2, y0, y1, y2⟩ := HSB.out.at hy
            have HN := mkHid (not_one (links HF.out.1 HF.out.2.1 HF.out.2.2.1 HF.out.2.2.2 hx hy) HI6.out.ok HMM.out)
            have BW : Below w.heap.size w wr := Below.up B6.out HR.out.2.2
            have HH := mkHid (HoldsG_any (.func (.func 22) #[] #[.pointer (some ⟨w.heap.size, 0, none⟩), .pointer (some ⟨bi, 0, none⟩), .pointer (some ⟨w.heap.size + 1, 0, none⟩)]) (fun s => (gV (kx, nx, tx) (ky, ny, ty) s).1) (fun s => (gV (kx, nx, tx) (ky, ny, ty) s).2.1) (fun s => (gV (kx, nx, tx) (ky, ny, ty) s).2.2) T vc wr (HI6.out.up HR.out.2.2)
              (fun W s hb => told22_any _ _ _ _ _ _ s W (fun W' s' hb' => get22_any w.heap.size bi (w.heap.size + 1) b1 o1 c1 b2 o2 c2 a.length b.length k kx nx tx ky ny ty s' W' hka hkb
                (((Below.up hb hb').cell (p := ⟨w.heap.size, 0, none⟩) (block_lt_of_cell r1)).trans r1) (((Below.up hb hb').cell (p := ⟨bi, 0, none⟩) li).trans ci) (((Below.up hb hb').cell (p := ⟨w.heap.size + 1, 0, none⟩) (block_lt_of_cell r2)).trans r2)
                (((Below.up BW (Below.up hb hb')).cell (p := ⟨b1, o1 + k * 3, none⟩) l1).trans x0) (((Below.up BW (Below.up hb hb')).cell (p := ⟨b1, o1 + k * 3 + 1, none⟩) l1).trans x1) (((Below.up BW (Below.up hb hb')).cell (p := ⟨b1, o1 + k * 3 + 2, none⟩) l1).trans x2)
                (((Below.up BW (Below.up hb hb')).cell (p := ⟨b2, o2 + k * 3, none⟩) l2).trans y0) (((Below.up BW (Below.up hb hb')).cell (p := ⟨b2, o2 + k * 3 + 1, none⟩) l2).trans y1) (((Below.up BW (Below.up hb hb')).cell (p := ⟨b2, o2 + k * 3 + 2, none⟩) l2).trans y2)))
              (withinT_of_depth T 24 (by have := HD.out; omega)))
            clear x0 x1 x2 y0 y1 y2 hx hy BW
            obtain ⟨ee, hee⟩ : ∃ ee, evT (fun s => (gV (kx, nx, tx) (ky, ny, ty) s).1) (fun s => (gV (kx, nx, tx) (ky, ny, ty) s).2.1) (fun s => (gV (kx, nx, tx) (ky, ny, ty) s).2.2) T = ee := ⟨_, rfl⟩
            rw [hee] at HN HH
            clear hee
            have hn1 := HN.out
            go_wp2_with fail
            refine HH.out.mono ?_
            rintro e w6 ⟨rfl, hb6⟩
            have ci6 : w6.cell? ⟨bi, 0, none⟩ = some (.int .i64 k) := (hb6.cell (p := ⟨bi, 0, none⟩) li).trans ci
            have B7 := mkHid (Below.up HR.out.2.2 hb6)
            have HCI := mkHid ci
            clear hb6 ci
            go_wp2
            go_roundw
            case rel => exact ⟨w6.heap.size, k + 1, rfl, by omega, mkHid ⟨B7.out.size, heap_alloc_new _ _, B7.out.alloc B7.out.size _⟩⟩
            case measure =>
              rw [left40_at HCI.out, left40_at (n := (k : Int) + 1) (by rw [World.cell?_alloc_at _ _ _ _ rfl]; rfl)]
              omega
        · go_wp2_with fail
          refine (pick1_any at_ a.length h1 _).mono ?_
          rintro e w7 ⟨r, hr, rfl, rfl⟩
          have BW := mkHid (Below.up B6.out HR.out.2.2)
          have KX7 := mkHid (KX6.out.up HR.out.2.2)
          have HSA7 := mkHid (HSA.out.up BW.out)
          have hac : a.length ≤ c1 := by
            obtain ⟨_, _, e, hc, _⟩ := HSA7.out
            injection e with _ _ e3
            omega
          have hr0 : (0 : Int) ≤ (r : Int) := by omega
          have hra : (r : Int) ≤ (a.length : Int) := by omega
          have hrc : (r : Int) ≤ (c1 : Int) := by omega
          have hac' : (a.length : Int) ≤ (c1 : Int) := by omega
          have HT : Hid (∀ d os, Calls Tryd.prog 19 #[.slice a1 r c1] (grow (redrawn w7 d) os) fun e w'' => e = .returned (.agg (cellsS (stOf (a.take r)))) ∧ ∃ p : Regrown, w'' = grow (redrawn w7 p.d) p.os) := fun d os => Calls.regrown_of (of_any _ (a.take r) _ ((HSA7.out.take hr).up (below_regrown w7 d os)) (by simp; omega))
          have HU : Hid (∀ d os, Calls Tryd.prog 19 #[.slice (if c1 = r then a1 else Option.map (fun x => x.add (r * 3)) a1) (a.length - r) (c1 - r)] (grow (redrawn w7 d) os) fun e w'' => e = .returned (.agg (cellsS (stOf (a.drop r)))) ∧ ∃ p : Regrown, w'' = grow (redrawn w7 p.d) p.os) := fun d os => Calls.regrown_of (of_any _ (a.drop r) _ ((HSA7.out.drop hr).up (below_regrown w7 d os)) (by simp; omega))
          have HV : Hid (∀ d os, Calls Tryd.prog 24 #[.agg (cellsS (stOf (a.take r))), .agg (cellsS (stOf (a.drop r)))] (grow (redrawn w7 d) os) fun e w'' => e = .returned (.agg (cellsS (stOf a))) ∧ ∃ p : Regrown, w'' = grow (redrawn w7 p.d) p.os) := fun d os => Calls.regrown_of ((both_st _ _ _ (stOf_few _ (by simp; omega)) (stOf_few _ (by simp; omega))).mono fun e w'' ⟨he, hb⟩ => ⟨by rw [he, parts1 HF.out.1], hb⟩)
          have HX : Hid (∀ d os, Calls Tryd.prog 24 #[.agg (cellsS (stOf (a.drop r))), .agg (cellsS (stOf (a.take r)))] (grow (redrawn w7 d) os) fun e w'' => e = .returned (.agg (cellsS (stOf a))) ∧ ∃ p : Regrown, w'' = grow (redrawn w7 p.d) p.os) := fun d os => Calls.regrown_of ((both_st _ _ _ (stOf_few _ (by simp; omega)) (stOf_few _ (by simp; omega))).mono fun e w'' ⟨he, hb⟩ => ⟨by rw [he, parts2 HF.out.1], hb⟩)
          clear HR ci fi li r2 HD HI6 HMM KX6 HSB HSA p1 p2 B6 HSA7
          obtain ⟨sa, hsa⟩ : ∃ s, stOf a = s := ⟨_, rfl⟩
          obtain ⟨s1', hs1⟩ : ∃ s, stOf (a.take r) = s := ⟨_, rfl⟩
          obtain ⟨s2', hs2⟩ : ∃ s, stOf (a.drop r) = s := ⟨_, rfl⟩
          rw [hs1] at HT
          rw [hs2] at HU
          rw [hs1, hs2, hsa] at HV
          rw [hs2, hs1, hsa] at HX
          rw [hsa] at KX7
          clear hsa hs1 hs2
          obtain ⟨xc, xm, ⟨xk, xn, xt⟩, ⟨xp, xq, xu⟩⟩ := sa
          generalize cellsS s1' = y1 at *
          generalize cellsS s2' = y2 at *
          unfold cellsS at HV HX
          simp only at HV HX
          go_wp2_with fail
          replace r1 := cell_regrown r1
          obtain ⟨e0, e1, e2, e3, e4, e5, e6, e7⟩ := KX7.out.cells
          replace e0 := cell_regrown e0; replace e1 := cell_regrown e1; replace e2 := cell_regrown e2; replace e3 := cell_regrown e3; replace e4 := cell_regrown e4; replace e5 := cell_regrown e5; replace e6 := cell_regrown e6; replace e7 := cell_regrown e7
          have heq := eqS_same xc xm xk xn xt xp xq xu
          refine wp_region_quiet_below (by kernel_rfl) (by kernel_rfl) ?_
          repeat (go_big_quiet_step (first
            | (go_at_call_of 19 (#[.slice a1 r c1] : Array Value); exact HT.out _ _)
            | (go_at_call_of 19 (#[.slice (if c1 = r then a1 else Option.map (fun x => x.add (r * 3)) a1) (a.length - r) (c1 - r)] : Array Value); exact HU.out _ _)
            | (go_at_call_of 24 (#[.agg y1, .agg y2] : Array Value); exact HV.out _ _)
            | (go_at_call_of 24 (#[.agg y2, .agg y1] : Array Value); exact HX.out _ _)))
          refine wpQuiet_nil ?_
          intro _ hw'
          obtain ⟨⟨dq, osq⟩, hw''⟩ := hw'
          subst hw''
          go_wp2
          all_goals
            go_ret
            exact ⟨rfl, Below.up BW.out (below_regrown _ dq osq)⟩
      · go_wp2_with fail
        refine (pick1_any at_ a.length h1 _).mono ?_
        rintro e w7 ⟨r, hr, rfl, rfl⟩
        have BW := mkHid (Below.up B6.out HR.out.2.2)
        have KX7 := mkHid (KX6.out.up HR.out.2.2)
        have HSA7 := mkHid (HSA.out.up BW.out)
        have hac : a.length ≤ c1 := by
          obtain ⟨_, _, e, hc, _⟩ := HSA7.out
          injection e with _ _ e3
          omega
        have hr0 : (0 : Int) ≤ (r : Int) := by omega
        have hra : (r : Int) ≤ (a.length : Int) := by omega
        have hrc : (r : Int) ≤ (c1 : Int) := by omega
        have hac' : (a.length : Int) ≤ (c1 : Int) := by omega
        have HT : Hid (∀ d os, Calls Tryd.prog 19 #[.slice a1 r c1] (grow (redrawn w7 d) os) fun e w'' => e = .returned (.agg (cellsS (stOf (a.take r)))) ∧ ∃ p : Regrown, w'' = grow (redrawn w7 p.d) p.os) := fun d os => Calls.regrown_of (of_any _ (a.take r) _ ((HSA7.out.take hr).up (below_regrown w7 d os)) (by simp; omega))
        have HU : Hid (∀ d os, Calls Tryd.prog 19 #[.slice (if c1 = r then a1 else Option.map (fun x => x.add (r * 3)) a1) (a.length - r) (c1 - r)] (grow (redrawn w7 d) os) fun e w'' => e = .returned (.agg (cellsS (stOf (a.drop r)))) ∧ ∃ p : Regrown, w'' = grow (redrawn w7 p.d) p.os) := fun d os => Calls.regrown_of (of_any _ (a.drop r) _ ((HSA7.out.drop hr).up (below_regrown w7 d os)) (by simp; omega))
        have HV : Hid (∀ d os, Calls Tryd.prog 24 #[.agg (cellsS (stOf (a.take r))), .agg (cellsS (stOf (a.drop r)))] (grow (redrawn w7 d) os) fun e w'' => e = .returned (.agg (cellsS (stOf a))) ∧ ∃ p : Regrown, w'' = grow (redrawn w7 p.d) p.os) := fun d os => Calls.regrown_of ((both_st _ _ _ (stOf_few _ (by simp; omega)) (stOf_few _ (by simp; omega))).mono fun e w'' ⟨he, hb⟩ => ⟨by rw [he, parts1 HF.out.1], hb⟩)
        have HX : Hid (∀ d os, Calls Tryd.prog 24 #[.agg (cellsS (stOf (a.drop r))), .agg (cellsS (stOf (a.take r)))] (grow (redrawn w7 d) os) fun e w'' => e = .returned (.agg (cellsS (stOf a))) ∧ ∃ p : Regrown, w'' = grow (redrawn w7 p.d) p.os) := fun d os => Calls.regrown_of ((both_st _ _ _ (stOf_few _ (by simp; omega)) (stOf_few _ (by simp; omega))).mono fun e w'' ⟨he, hb⟩ => ⟨by rw [he, parts2 HF.out.1], hb⟩)
        clear HR ci fi li r2 HD HI6 HMM KX6 HSB HSA p1 p2 B6 HSA7
        obtain ⟨sa, hsa⟩ : ∃ s, stOf a = s := ⟨_, rfl⟩
        obtain ⟨s1', hs1⟩ : ∃ s, stOf (a.take r) = s := ⟨_, rfl⟩
        obtain ⟨s2', hs2⟩ : ∃ s, stOf (a.drop r) = s := ⟨_, rfl⟩
        rw [hs1] at HT
        rw [hs2] at HU
        rw [hs1, hs2, hsa] at HV
        rw [hs2, hs1, hsa] at HX
        rw [hsa] at KX7
        clear hsa hs1 hs2
        obtain ⟨xc, xm, ⟨xk, xn, xt⟩, ⟨xp, xq, xu⟩⟩ := sa
        generalize cellsS s1' = y1 at *
        generalize cellsS s2' = y2 at *
        unfold cellsS at HV HX
        simp only at HV HX
        go_wp2_with fail
        replace r1 := cell_regrown r1
        obtain ⟨e0, e1, e2, e3, e4, e5, e6, e7⟩ := KX7.out.cells
        replace e0 := cell_regrown e0; replace e1 := cell_regrown e1; replace e2 := cell_regrown e2; replace e3 := cell_regrown e3; replace e4 := cell_regrown e4; replace e5 := cell_regrown e5; replace e6 := cell_regrown e6; replace e7 := cell_regrown e7
        have heq := eqS_same xc xm xk xn xt xp xq xu
        refine wp_region_quiet_below (by kernel_rfl) (by kernel_rfl) ?_
        repeat (go_big_quiet_step (first
          | (go_at_call_of 19 (#[.slice a1 r c1] : Array Value); exact HT.out _ _)
          | (go_at_call_of 19 (#[.slice (if c1 = r then a1 else Option.map (fun x => x.add (r * 3)) a1) (a.length - r) (c1 - r)] : Array Value); exact HU.out _ _)
          | (go_at_call_of 24 (#[.agg y1, .agg y2] : Array Value); exact HV.out _ _)
          | (go_at_call_of 24 (#[.agg y2, .agg y1] : Array Value); exact HX.out _ _)))
        refine wpQuiet_nil ?_
        intro _ hw'
        obtain ⟨⟨dq, osq⟩, hw''⟩ := hw'
        subst hw''
        go_wp2
        all_goals
          go_ret
          exact ⟨rfl, Below.up BW.out (below_regrown _ dq osq)⟩
end Go.Proofs.YtmghdphafepifaaDoor
