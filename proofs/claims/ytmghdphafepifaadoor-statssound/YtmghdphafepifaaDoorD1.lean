/- What the second closure of millpondkeep.StatsSound does, and what millpondkeep.StatsSound does where it looks at nothing, said of every call. -/
import Derived.Test.YtmghdphafepifaaDoorC5
namespace Go.Proofs.YtmghdphafepifaaDoor
open Go.RowKit Go.Proofs

set_option maxHeartbeats 2000000 in
theorem get22_any (ba bi bb b1 o1 c1 b2 o2 c2 n1 n2 i : Nat) (kx nx : Int) (tx : ByteArray) (ky ny : Int) (ty : ByteArray) (s : ByteArray) (w : World) (h1 : i < n1) (h2 : i < n2)
    (ha : w.cell? ⟨ba, 0, none⟩ = some (.slice (some ⟨b1, o1, none⟩) n1 c1)) (hj : w.cell? ⟨bi, 0, none⟩ = some (.int .i64 i)) (hb : w.cell? ⟨bb, 0, none⟩ = some (.slice (some ⟨b2, o2, none⟩) n2 c2))
    (x0 : w.cell? ⟨b1, o1 + i * 3, none⟩ = some (.int .i64 kx)) (x1 : w.cell? ⟨b1, o1 + i * 3 + 1, none⟩ = some (.int .i64 nx)) (x2 : w.cell? ⟨b1, o1 + i * 3 + 2, none⟩ = some (.string tx))
    (y0 : w.cell? ⟨b2, o2 + i * 3, none⟩ = some (.int .i64 ky)) (y1 : w.cell? ⟨b2, o2 + i * 3 + 1, none⟩ = some (.int .i64 ny)) (y2 : w.cell? ⟨b2, o2 + i * 3 + 2, none⟩ = some (.string ty)) :
    Calls Tryd.prog 22 #[.string s, .pointer (some ⟨ba, 0, none⟩), .pointer (some ⟨bi, 0, none⟩), .pointer (some ⟨bb, 0, none⟩)] w fun e w' => e = .returned (.agg #[.int .i64 (gV (kx, nx, tx) (ky, ny, ty) s).1, .int .i64 (gV (kx, nx, tx) (ky, ny, ty) s).2.1, .string (gV (kx, nx, tx) (ky, ny, ty) s).2.2]) ∧ Below w.heap.size w w' := by
  have la : ba < w.heap.size := block_lt_of_cell ha
  have li : bi < w.heap.size := block_lt_of_cell hj
  have lb : bb < w.heap.size := block_lt_of_cell hb
  have l1 : b1 < w.heap.size := block_lt_of_cell x0
  have l2 : b2 < w.heap.size := block_lt_of_cell y0
  cases hA : (s.toList == [97])
  · have HQ : Hid ((ky, ny, ty) = gV (kx, nx, tx) (ky, ny, ty) s) := mkHid (by unfold gV; rw [hA]; rfl)
    generalize gV (kx, nx, tx) (ky, ny, ty) s = z at *
    go_enter Tryd.func22, Tryd.ntmps22
    go_wp2
    exact bodyPost_ret (v := .agg #[.int .i64 ky, .int .i64 ny, .string ty]) (by simp [results, Tryd.results22, go_sem]) rfl ⟨ret_v HQ.out, (Below.refl _ _).alloc (Nat.le_refl _) _⟩
  · have HQ : Hid ((kx, nx, tx) = gV (kx, nx, tx) (ky, ny, ty) s) := mkHid (by unfold gV; rw [hA]; rfl)
    generalize gV (kx, nx, tx) (ky, ny, ty) s = z at *
    go_enter Tryd.func22, Tryd.ntmps22
    go_wp2
    exact bodyPost_ret (v := .agg #[.int .i64 kx, .int .i64 nx, .string tx]) (by simp [results, Tryd.results22, go_sem]) rfl ⟨ret_v HQ.out, (Below.refl _ _).alloc (Nat.le_refl _) _⟩

set_option maxHeartbeats 2000000 in
set_option maxRecDepth 100000 in
theorem ss_long (a1 a2 : Option Addr) (n1 n2 c1 c2 : Nat) (lv : Value) (at_ : Int) (w : World) (h : (40 : Int) < n1 ∨ (40 : Int) < n2) :
    Calls Tryd.prog 5 #[.slice a1 n1 c1, .slice a2 n2 c2, lv, .int .i64 at_] w fun e w' => e = .returned (.bool true) ∧ Below w.heap.size w w' := by
  by_cases h1 : (40 : Int) < n1
  · clear h
    go_enter Tryd.func5, Tryd.ntmps5
    go_wp2
    go_ret
    exact ⟨rfl, below_a2 w _ _⟩
  · have h2 := h.resolve_left h1
    clear h
    go_enter Tryd.func5, Tryd.ntmps5
    go_wp2
    go_ret
    exact ⟨rfl, below_a2 w _ _⟩

set_option maxHeartbeats 4000000 in
set_option maxRecDepth 100000 in
theorem ss_wrong (a1 a2 : Option Addr) (c1 c2 : Nat) (a b : List V) (lv : Value) (at_ : Int) (w : World) (h1 : a.length ≤ 40) (h2 : b.length ≤ 40) (hsa : Sl w (.slice a1 a.length c1) a) (hsb : Sl w (.slice a2 b.length c2) b)
    (hta : ∀ x ∈ a, x.2.2.size ≤ maxLen) (htb : ∀ x ∈ b, x.2.2.size ≤ maxLen) (ho : OppB w) (hf : (okL a && okL b && aloneB a 0 && aloneB b 0) = false) :
    Calls Tryd.prog 5 #[.slice a1 a.length c1, .slice a2 b.length c2, lv, .int .i64 at_] w fun e w' => e = .returned (.bool true) ∧ Below w.heap.size w w' := by
  have HK : Hid (∀ W, Below w.heap.size w W → Calls Tryd.prog 17 #[] W fun e w' => e = .returned (.bool true) ∧ Below W.heap.size W w') := fun W hb => known_any W (ho.below hb)
  have RA : Hid (∀ W, Below w.heap.size w W → Calls Tryd.prog 7 #[.slice a1 a.length c1] W fun e w' => e = .returned (.bool (okL a)) ∧ Below W.heap.size W w') := fun W hb => right_sl _ a W (hsa.up hb) h1 hta
  have RB : Hid (∀ W, Below w.heap.size w W → Calls Tryd.prog 7 #[.slice a2 b.length c2] W fun e w' => e = .returned (.bool (okL b)) ∧ Below W.heap.size W w') := fun W hb => right_sl _ b W (hsb.up hb) h2 htb
  have AA : Hid (∀ W, Below w.heap.size w W → Calls Tryd.prog 18 #[.slice a1 a.length c1] W fun e w' => e = .returned (.bool (aloneB a 0)) ∧ w' = W) := fun W hb => alone_any _ a W (hsa.up hb) h1
  have AB : Hid (∀ W, Below w.heap.size w W → Calls Tryd.prog 18 #[.slice a2 b.length c2] W fun e w' => e = .returned (.bool (aloneB b 0)) ∧ w' = W) := fun W hb => alone_any _ b W (hsb.up hb) h2
  clear hsa hsb hta htb ho
  generalize okL a = x1 at *
  generalize okL b = x2 at *
  generalize aloneB a 0 = x3 at *
  generalize aloneB b 0 = x4 at *
  go_enter Tryd.func5, Tryd.ntmps5
  go_wp2_with fail
  refine (HK.out _ (below_a2 w _ _)).mono ?_
  rintro e w1 ⟨rfl, hb1⟩
  obtain ⟨hc1, _⟩ := bcell hb1
  have hz : w.heap.size < w.heap.size + 1 + 1 := by omega
  have B1 := mkHid (Below.up (below_a2 w _ _) hb1)
  have p1 : w1.cell? ⟨w.heap.size, 0, none⟩ = some (.slice a1 a.length c1) := (hb1.cell (p := ⟨w.heap.size, 0, none⟩) (by simp; omega)).trans (by go_simp)
  have p2 : w1.cell? ⟨w.heap.size + 1, 0, none⟩ = some (.slice a2 b.length c2) := (hb1.cell (p := ⟨w.heap.size + 1, 0, none⟩) (by simp)).trans (by go_simp)
  have s1 : w.heap.size + 1 < w1.heap.size := by have := hb1.size; simp at this; omega
  clear hb1 hc1
  go_wp2_with fail
  refine (RA.out _ B1.out).mono ?_
  rintro e w2 ⟨rfl, hb2⟩
  have B2 := mkHid (Below.up B1.out hb2)
  replace p1 : w2.cell? ⟨w.heap.size, 0, none⟩ = _ := (hb2.cell (p := ⟨w.heap.size, 0, none⟩) (by simp; omega)).trans p1
  replace p2 : w2.cell? ⟨w.heap.size + 1, 0, none⟩ = _ := (hb2.cell (p := ⟨w.heap.size + 1, 0, none⟩) s1).trans p2
  replace s1 : w.heap.size + 1 < w2.heap.size := Nat.lt_of_lt_of_le s1 hb2.size
  clear hb2 B1
  cases x1 with
  | false =>
    go_wp2
    go_ret
    exact ⟨rfl, B2.out⟩
  | true =>
  go_wp2_with fail
  refine (RB.out _ B2.out).mono ?_
  rintro e w3 ⟨rfl, hb3⟩
  have B3 := mkHid (Below.up B2.out hb3)
  replace p1 : w3.cell? ⟨w.heap.size, 0, none⟩ = _ := (hb3.cell (p := ⟨w.heap.size, 0, none⟩) (by simp; omega)).trans p1
  replace p2 : w3.cell? ⟨w.heap.size + 1, 0, none⟩ = _ := (hb3.cell (p := ⟨w.heap.size + 1, 0, none⟩) s1).trans p2
  replace s1 : w.heap.size + 1 < w3.heap.size := Nat.lt_of_lt_of_le s1 hb3.size
  clear hb3 B2
  cases x2 with
  | false =>
    go_wp2
    go_ret
    exact ⟨rfl, B3.out⟩
  | true =>
  go_wp2_with fail
  refine (AA.out _ B3.out).mono ?_
  rintro e w4 ⟨rfl, rfl⟩
  cases x3 with
  | false =>
    go_wp2
    go_ret
    exact ⟨rfl, B3.out⟩
  | true =>
  go_wp2_with fail
  refine (AB.out _ B3.out).mono ?_
  rintro e w4 ⟨rfl, rfl⟩
  cases x4 with
  | false =>
    go_wp2
    go_ret
    exact ⟨rfl, B3.out⟩
  | true => cases hf
end Go.Proofs.YtmghdphafepifaaDoor
