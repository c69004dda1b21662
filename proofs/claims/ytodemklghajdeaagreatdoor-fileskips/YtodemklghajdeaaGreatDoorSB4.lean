/- Slices of values in memory; what is known, as it lies in memory; what stats.Of does, said of every call. -/
import Derived.Test.YtodemklghajdeaaGreatDoorSA1
import Derived.Lib.SmallJoins
import Derived.Deep.RegionWith
namespace Go.Proofs.YtodemklghajdeaaGreatDoor.S
open Go.RowKit

theorem mkH {p : Prop} (h : p) : Hid p := h
theorem bcell {W w1 : World} (hb : Below W.heap.size W w1) : (∀ b o, b < W.heap.size → w1.cell? ⟨b, o, none⟩ = W.cell? ⟨b, o, none⟩) ∧ (∀ b o, b < W.heap.size → w1.frozen? ⟨b, o, none⟩ = W.frozen? ⟨b, o, none⟩) :=
  ⟨fun b o h => hb.cell (p := ⟨b, o, none⟩) h, fun b o h => hb.frozen (p := ⟨b, o, none⟩) h⟩

set_option maxHeartbeats 1000000 in
theorem sis_any (c k1 n1 k2 n2 : Int) (t1 t2 : ByteArray) (w : World) :
    Calls Tryz.prog 132 #[.int .i64 c, .agg #[.int .i64 k1, .int .i64 n1, .string t1], .agg #[.int .i64 k2, .int .i64 n2, .string t2]] w fun e w' => e = .returned (.bool (isV c k1 n1 t1 k2 n2 t2 == 1)) ∧ Below w.heap.size w w' := by
  go_enter Tryz.func132, Tryz.ntmps132
  go_wp2_with (first
    | (go_at_call 84; refine (is_any _ _ _ _ _ _ _ _).mono ?_; rintro e w1 ⟨rfl, hb1⟩))
  go_ret
  exact ⟨rfl, (((Below.refl _ _).alloc (Nat.le_refl _) _).alloc (by simp) _).trans (hb1.mono (by simp; omega))⟩

theorem lv1 {a b : V} (h : a.1 = 0) : b = leastV a b := by unfold leastV; rw [if_pos (.inl h)]
theorem lv2 {a b : V} (h : ¬ a.1 = 0) (h2 : b.1 = 0) : a = leastV a b := by unfold leastV; rw [if_neg (by rintro (x | ⟨x, _⟩); exact h x; exact x h2)]
theorem lv3 {a b : V} (h2 : ¬ b.1 = 0) (h3 : cmpW b a < 0) : b = leastV a b := by unfold leastV; rw [if_pos (.inr ⟨h2, h3⟩)]
theorem lv4 {a b : V} (h : ¬ a.1 = 0) (h3 : ¬ cmpW b a < 0) : a = leastV a b := by unfold leastV; rw [if_neg (by rintro (x | ⟨_, x⟩); exact h x; exact h3 x)]
theorem gv1 {a b : V} (h3 : 0 < cmpW b a) : b = greatV a b := by unfold greatV; rw [if_pos h3]
theorem gv2 {a b : V} (h3 : ¬ 0 < cmpW b a) : a = greatV a b := by unfold greatV; rw [if_neg h3]
theorem ret_v {a : V} {k n : Int} {t : ByteArray} (h : (k, n, t) = a) : Ending.returned (.agg #[.int .i64 k, .int .i64 n, .string t]) = .returned (.agg #[.int .i64 a.1, .int .i64 a.2.1, .string a.2.2]) := by rw [← h]
theorem b3 (w : World) (X Y Z : Obj) : Below w.heap.size w (((w.alloc X).alloc Y).alloc Z) := (((Below.refl _ _).alloc (Nat.le_refl _) _).alloc (by simp) _).alloc (by simp; omega) _
theorem b3c {w w1 : World} {X Y Z : Obj} (hb : Below (((w.alloc X).alloc Y).alloc Z).heap.size (((w.alloc X).alloc Y).alloc Z) w1) (u0 u1 u2 : Value) : Below w.heap.size w (((w1.setCell ⟨w.heap.size + 1 + 1, 0, none⟩ u0).setCell ⟨w.heap.size + 1 + 1, 1, none⟩ u1).setCell ⟨w.heap.size + 1 + 1, 2, none⟩ u2) :=
  ((((b3 w X Y Z).trans (hb.mono (by simp; omega))).setCell (by simp; omega) _).setCell (by simp; omega) _).setCell (by simp; omega) _

set_option maxHeartbeats 2000000 in
theorem least_any (k1 n1 k2 n2 : Int) (t1 t2 : ByteArray) (w : World) :
    Calls Tryz.prog 87 #[.agg #[.int .i64 k1, .int .i64 n1, .string t1], .agg #[.int .i64 k2, .int .i64 n2, .string t2]] w fun e w' => e = .returned (.agg #[.int .i64 (leastV (k1, n1, t1) (k2, n2, t2)).1, .int .i64 (leastV (k1, n1, t1) (k2, n2, t2)).2.1, .string (leastV (k1, n1, t1) (k2, n2, t2)).2.2]) ∧ Below w.heap.size w w' := by
  by_cases h1 : k1 = 0
  · have HR : Hid ((k2, n2, t2) = leastV (k1, n1, t1) (k2, n2, t2)) := lv1 (a := (k1, n1, t1)) h1
    generalize leastV (k1, n1, t1) (k2, n2, t2) = m at *
    have hb : (k1 == 0) = true := by simpa using h1
    clear h1
    go_enter Tryz.func87, Tryz.ntmps87
    go_wp2
    exact bodyPost_ret (v := .agg #[.int .i64 k2, .int .i64 n2, .string t2]) (by simp [results, Tryz.results87, go_sem]) rfl ⟨ret_v HR.out, b3 _ _ _ _⟩
  have hb : (k1 == 0) = false := by simpa using h1
  by_cases h2 : k2 = 0
  · have HR : Hid ((k1, n1, t1) = leastV (k1, n1, t1) (k2, n2, t2)) := lv2 (a := (k1, n1, t1)) h1 h2
    generalize leastV (k1, n1, t1) (k2, n2, t2) = m at *
    subst h2
    clear h1
    go_enter Tryz.func87, Tryz.ntmps87
    go_wp2
    exact bodyPost_ret (v := .agg #[.int .i64 k1, .int .i64 n1, .string t1]) (by simp [results, Tryz.results87, go_sem]) rfl ⟨ret_v HR.out, b3 _ _ _ _⟩
  by_cases h3 : cmpV k2 n2 t2 k1 n1 t1 < 0
  · have HR : Hid ((k2, n2, t2) = leastV (k1, n1, t1) (k2, n2, t2)) := lv3 (a := (k1, n1, t1)) h2 h3
    generalize leastV (k1, n1, t1) (k2, n2, t2) = m at *
    clear h1
    have HC := mkH (compare_any k2 n2 k1 n1 t2 t1)
    generalize cmpV k2 n2 t2 k1 n1 t1 = o at *
    go_enter Tryz.func87, Tryz.ntmps87
    go_wp2_with (first
      | (go_at_call 115; refine (HC.out _).mono ?_; rintro e w1 ⟨rfl, hb1⟩; obtain ⟨hc, hf⟩ := bcell hb1))
    exact bodyPost_ret (v := .agg #[.int .i64 k2, .int .i64 n2, .string t2]) (by simp [results, Tryz.results87, go_sem, hc]) rfl ⟨ret_v HR.out, b3c hb1 _ _ _⟩
  · have HR : Hid ((k1, n1, t1) = leastV (k1, n1, t1) (k2, n2, t2)) := lv4 (a := (k1, n1, t1)) h1 h3
    generalize leastV (k1, n1, t1) (k2, n2, t2) = m at *
    clear h1
    have HC := mkH (compare_any k2 n2 k1 n1 t2 t1)
    generalize cmpV k2 n2 t2 k1 n1 t1 = o at *
    go_enter Tryz.func87, Tryz.ntmps87
    go_wp2_with (first
      | (go_at_call 115; refine (HC.out _).mono ?_; rintro e w1 ⟨rfl, hb1⟩; obtain ⟨hc, hf⟩ := bcell hb1))
    exact bodyPost_ret (v := .agg #[.int .i64 k1, .int .i64 n1, .string t1]) (by simp [results, Tryz.results87, go_sem, hc]) rfl ⟨ret_v HR.out, b3c hb1 _ _ _⟩

set_option maxHeartbeats 2000000 in
theorem greatest_any (k1 n1 k2 n2 : Int) (t1 t2 : ByteArray) (w : World) :
    Calls Tryz.prog 88 #[.agg #[.int .i64 k1, .int .i64 n1, .string t1], .agg #[.int .i64 k2, .int .i64 n2, .string t2]] w fun e w' => e = .returned (.agg #[.int .i64 (greatV (k1, n1, t1) (k2, n2, t2)).1, .int .i64 (greatV (k1, n1, t1) (k2, n2, t2)).2.1, .string (greatV (k1, n1, t1) (k2, n2, t2)).2.2]) ∧ Below w.heap.size w w' := by
  by_cases h3 : 0 < cmpV k2 n2 t2 k1 n1 t1
  · have HR : Hid ((k2, n2, t2) = greatV (k1, n1, t1) (k2, n2, t2)) := gv1 (a := (k1, n1, t1)) h3
    generalize greatV (k1, n1, t1) (k2, n2, t2) = m at *
    have HC := mkH (compare_any k2 n2 k1 n1 t2 t1)
    generalize cmpV k2 n2 t2 k1 n1 t1 = o at *
    go_enter Tryz.func88, Tryz.ntmps88
    go_wp2_with (first
      | (go_at_call 115; refine (HC.out _).mono ?_; rintro e w1 ⟨rfl, hb1⟩; obtain ⟨hc, hf⟩ := bcell hb1))
    exact bodyPost_ret (v := .agg #[.int .i64 k2, .int .i64 n2, .string t2]) (by simp [results, Tryz.results88, go_sem, hc]) rfl ⟨ret_v HR.out, b3c hb1 _ _ _⟩
  · have HR : Hid ((k1, n1, t1) = greatV (k1, n1, t1) (k2, n2, t2)) := gv2 (a := (k1, n1, t1)) h3
    generalize greatV (k1, n1, t1) (k2, n2, t2) = m at *
    have HC := mkH (compare_any k2 n2 k1 n1 t2 t1)
    generalize cmpV k2 n2 t2 k1 n1 t1 = o at *
    go_enter Tryz.func88, Tryz.ntmps88
    go_wp2_with (first
      | (go_at_call 115; refine (HC.out _).mono ?_; rintro e w1 ⟨rfl, hb1⟩; obtain ⟨hc, hf⟩ := bcell hb1))
    exact bodyPost_ret (v := .agg #[.int .i64 k1, .int .i64 n1, .string t1]) (by simp [results, Tryz.results88, go_sem, hc]) rfl ⟨ret_v HR.out, b3c hb1 _ _ _⟩

/-- What is known, as it is handed on. -/
theorem ret_s {a : St} {c m k n : Int} {t : ByteArray} {k' n' : Int} {t' : ByteArray} (h : (c, m, (k, n, t), (k', n', t')) = a) : Ending.returned (.agg #[.int .i64 c, .int .i64 m, .int .i64 k, .int .i64 n, .string t, .int .i64 k', .int .i64 n', .string t']) = .returned (.agg #[.int .i64 a.1, .int .i64 a.2.1, .int .i64 a.2.2.1.1, .int .i64 a.2.2.1.2.1, .string a.2.2.1.2.2, .int .i64 a.2.2.2.1, .int .i64 a.2.2.2.2.1, .string a.2.2.2.2.2]) := by rw [← h]

set_option maxHeartbeats 2000000 in
theorem ofOne_any (k n : Int) (t : ByteArray) (w : World) :
    Calls Tryz.prog 61 #[.agg #[.int .i64 k, .int .i64 n, .string t]] w fun e w' => e = .returned (.agg #[.int .i64 (oneS (k, n, t)).1, .int .i64 (oneS (k, n, t)).2.1, .int .i64 (oneS (k, n, t)).2.2.1.1, .int .i64 (oneS (k, n, t)).2.2.1.2.1, .string (oneS (k, n, t)).2.2.1.2.2, .int .i64 (oneS (k, n, t)).2.2.2.1, .int .i64 (oneS (k, n, t)).2.2.2.2.1, .string (oneS (k, n, t)).2.2.2.2.2]) ∧ Below w.heap.size w w' := by
  by_cases h1 : k = 0
  · have HR : Hid ((1, 1, (0, 0, ⟨#[]⟩), (0, 0, ⟨#[]⟩)) = oneS (k, n, t)) := mkH (by unfold oneS; rw [if_pos h1]; rfl)
    generalize oneS (k, n, t) = m at *
    have hb : (k == 0) = true := by simpa using h1
    clear h1
    go_enter Tryz.func61, Tryz.ntmps61
    go_wp2
    exact bodyPost_ret (v := .agg #[.int .i64 1, .int .i64 1, .int .i64 0, .int .i64 0, .string ⟨#[]⟩, .int .i64 0, .int .i64 0, .string ⟨#[]⟩]) (by simp [results, Tryz.results61, go_sem]) rfl ⟨ret_s HR.out, ((Below.refl _ _).alloc (Nat.le_refl _) _).alloc (by simp) _⟩
  · have HR : Hid ((1, 0, (k, n, t), (k, n, t)) = oneS (k, n, t)) := mkH (by unfold oneS; rw [if_neg h1])
    generalize oneS (k, n, t) = m at *
    have hb : (k == 0) = false := by simpa using h1
    clear h1
    go_enter Tryz.func61, Tryz.ntmps61
    go_wp2
    exact bodyPost_ret (v := .agg #[.int .i64 1, .int .i64 0, .int .i64 k, .int .i64 n, .string t, .int .i64 k, .int .i64 n, .string t]) (by simp [results, Tryz.results61, go_sem]) rfl ⟨ret_s HR.out, ((Below.refl _ _).alloc (Nat.le_refl _) _).alloc (by simp) _⟩
end Go.Proofs.YtodemklghajdeaaGreatDoor.S

namespace Go.Proofs.YtodemklghajdeaaGreatDoor.S
open Go.RowKit

theorem b3s {w W : World} {X Y Z : Obj} (hb : Below (((w.alloc X).alloc Y).alloc Z).heap.size (((w.alloc X).alloc Y).alloc Z) W) : Below w.heap.size w W := (b3 w X Y Z).trans (hb.mono (by simp; omega))

theorem b3d {w W : World} {X Y Z : Obj} (hb : Below (((w.alloc X).alloc Y).alloc Z).drew.heap.size (((w.alloc X).alloc Y).alloc Z).drew W) : Below w.heap.size w W := (b3 w X Y Z).drew.trans (hb.mono (by simp; omega))
theorem Below.ups {a b c : World} (h : Below a.heap.size a b) (k : Below b.heap.size b c) : Below a.heap.size a c := h.trans (k.mono h.size)
theorem b8c {w W : World} (hb : Below w.heap.size w W) {g : Nat} (hg : w.heap.size ≤ g) (v0 v1 v2 v3 v4 v5 v6 v7 : Value) : Below w.heap.size w ((((((((W.setCell ⟨g, 0, none⟩ v0).setCell ⟨g, 1, none⟩ v1).setCell ⟨g, 2, none⟩ v2).setCell ⟨g, 3, none⟩ v3).setCell ⟨g, 4, none⟩ v4).setCell ⟨g, 5, none⟩ v5).setCell ⟨g, 6, none⟩ v6).setCell ⟨g, 7, none⟩ v7) :=
  (((((((hb.setCell hg _).setCell hg _).setCell hg _).setCell hg _).setCell hg _).setCell hg _).setCell hg _).setCell hg _

set_option maxHeartbeats 8000000 in
set_option maxRecDepth 100000 in
theorem both_any (c1 m1 k1 n1 : Int) (t1 : ByteArray) (p1 q1 : Int) (u1 : ByteArray) (c2 m2 k2 n2 : Int) (t2 : ByteArray) (p2 q2 : Int) (u2 : ByteArray) (w : World)
    (hc1 : 0 ≤ c1) (hc1' : c1 ≤ 1000) (hc2 : 0 ≤ c2) (hc2' : c2 ≤ 1000) (hm1 : 0 ≤ m1) (hm1' : m1 ≤ 1000) (hm2 : 0 ≤ m2) (hm2' : m2 ≤ 1000) :
    Calls Tryz.prog 60 #[.agg #[.int .i64 c1, .int .i64 m1, .int .i64 k1, .int .i64 n1, .string t1, .int .i64 p1, .int .i64 q1, .string u1], .agg #[.int .i64 c2, .int .i64 m2, .int .i64 k2, .int .i64 n2, .string t2, .int .i64 p2, .int .i64 q2, .string u2]] w
      fun e w' => e = .returned (.agg #[.int .i64 (c1 + c2), .int .i64 (m1 + m2), .int .i64 (leastV (k1, n1, t1) (k2, n2, t2)).1, .int .i64 (leastV (k1, n1, t1) (k2, n2, t2)).2.1, .string (leastV (k1, n1, t1) (k2, n2, t2)).2.2, .int .i64 (greatV (p1, q1, u1) (p2, q2, u2)).1, .int .i64 (greatV (p1, q1, u1) (p2, q2, u2)).2.1, .string (greatV (p1, q1, u1) (p2, q2, u2)).2.2]) ∧ Below w.heap.size w w' := by
  have HL := mkH (least_any k1 n1 k2 n2 t1 t2)
  have HG := mkH (greatest_any p1 q1 p2 q2 u1 u2)
  generalize (leastV (k1, n1, t1) (k2, n2, t2)) = lo at *
  generalize (greatV (p1, q1, u1) (p2, q2, u2)) = hi at *
  obtain ⟨lk, ln, lt⟩ := lo
  obtain ⟨hk, hn, ht⟩ := hi
  have hz : w.heap.size < w.heap.size + 1 + 1 + 1 := by omega
  have hz2 : w.heap.size < w.heap.size + 1 + 1 := by omega
  have hn1 : ¬ w.heap.size = w.heap.size + 1 + 1 := by omega
  have hn2 : ¬ w.heap.size + 1 + 1 = w.heap.size := by omega
  have hw1 : IntKind.i64.wrap (c1 + c2) = c1 + c2 := by rw [IntKind.wrap_i64]; omega
  have hw2 : IntKind.i64.wrap (m1 + m2) = m1 + m2 := by rw [IntKind.wrap_i64]; omega
  clear hc1 hc1' hc2 hc2' hm1 hm1' hm2 hm2'
  go_enter Tryz.func60, Tryz.ntmps60
  go_wp2
  go_region_held3 (fun w' => w'.cell? ⟨w.heap.size, 0, none⟩ = some (.int .i64 c1) ∧ w'.cell? ⟨w.heap.size, 1, none⟩ = some (.int .i64 m1) ∧ w'.cell? ⟨w.heap.size, 2, none⟩ = some (.int .i64 k1) ∧ w'.cell? ⟨w.heap.size, 3, none⟩ = some (.int .i64 n1) ∧ w'.cell? ⟨w.heap.size, 4, none⟩ = some (.string t1) ∧ w'.cell? ⟨w.heap.size, 5, none⟩ = some (.int .i64 p1) ∧ w'.cell? ⟨w.heap.size, 6, none⟩ = some (.int .i64 q1) ∧ w'.cell? ⟨w.heap.size, 7, none⟩ = some (.string u1)
      ∧ w'.cell? ⟨w.heap.size + 1, 0, none⟩ = some (.int .i64 c2) ∧ w'.cell? ⟨w.heap.size + 1, 1, none⟩ = some (.int .i64 m2) ∧ w'.cell? ⟨w.heap.size + 1, 2, none⟩ = some (.int .i64 k2) ∧ w'.cell? ⟨w.heap.size + 1, 3, none⟩ = some (.int .i64 n2) ∧ w'.cell? ⟨w.heap.size + 1, 4, none⟩ = some (.string t2) ∧ w'.cell? ⟨w.heap.size + 1, 5, none⟩ = some (.int .i64 p2) ∧ w'.cell? ⟨w.heap.size + 1, 6, none⟩ = some (.int .i64 q2) ∧ w'.cell? ⟨w.heap.size + 1, 7, none⟩ = some (.string u2)) (go_keep)
    (first
      | (go_at_call 87; refine (HL.out _).mono ?_; rintro e w1 ⟨rfl, hb1⟩; obtain ⟨hcl, hfl⟩ := bcell hb1; have z0 : w.heap.size < w1.heap.size := Nat.lt_of_lt_of_le (by first | assumption | (simp; done) | (simp; omega)) hb1.size; have z1 : w.heap.size + 1 < w1.heap.size := Nat.lt_of_lt_of_le (by first | assumption | (simp; done) | (simp; omega)) hb1.size; have z2 : w.heap.size + 1 + 1 < w1.heap.size := Nat.lt_of_lt_of_le (by first | assumption | (simp; done) | (simp; omega)) hb1.size)
      | (go_at_call 88; refine (HG.out _).mono ?_; rintro e w2 ⟨rfl, hb2⟩; obtain ⟨hcg, hfg⟩ := bcell hb2; have y0 : w.heap.size < w2.heap.size := Nat.lt_of_lt_of_le (by first | assumption | (simp; done) | (simp; omega)) hb2.size; have y1 : w.heap.size + 1 < w2.heap.size := Nat.lt_of_lt_of_le (by first | assumption | (simp; done) | (simp; omega)) hb2.size; have y2 : w.heap.size + 1 + 1 < w2.heap.size := Nat.lt_of_lt_of_le (by first | assumption | (simp; done) | (simp; omega)) hb2.size))
  go_wp2
  exact bodyPost_ret (v := .agg #[.int .i64 (c1 + c2), .int .i64 (m1 + m2), .int .i64 lk, .int .i64 ln, .string lt, .int .i64 hk, .int .i64 hn, .string ht]) (by simp [results, Tryz.results60, go_sem, hcl, hcg, z2]) rfl ⟨rfl, b8c (Below.ups (b3d hb1) hb2) (by omega) _ _ _ _ _ _ _ _⟩
end Go.Proofs.YtodemklghajdeaaGreatDoor.S

namespace Go.Proofs.YtodemklghajdeaaGreatDoor.S
open Go.RowKit Go.Joins

theorem below_a2 (w : World) (X Y : Obj) : Below w.heap.size w ((w.alloc X).alloc Y) := ((Below.refl _ _).alloc (Nat.le_refl _) _).alloc (by simp) _
/-- The slice v holds the values l. -/
def Sl (w : World) (v : Value) (l : List V) : Prop :=
  ∃ a c, v = .slice a l.length c ∧ l.length ≤ c ∧ (l ≠ [] → ∃ b off, a = some ⟨b, off, none⟩ ∧ b < w.heap.size ∧
    ∀ j x, l[j]? = some x → w.cell? ⟨b, off + j * 3, none⟩ = some (.int .i64 x.1) ∧ w.cell? ⟨b, off + j * 3 + 1, none⟩ = some (.int .i64 x.2.1) ∧ w.cell? ⟨b, off + j * 3 + 2, none⟩ = some (.string x.2.2))
theorem Sl.up {w W : World} {v : Value} {l : List V} (h : Sl w v l) (hb : Below w.heap.size w W) : Sl W v l := by
  obtain ⟨a, c, e, hcp, hl⟩ := h
  refine ⟨a, c, e, hcp, fun hne => ?_⟩
  obtain ⟨b, off, ea, hlt, hc⟩ := hl hne
  refine ⟨b, off, ea, Nat.lt_of_lt_of_le hlt hb.size, fun j x hj => ?_⟩
  obtain ⟨h0, h1, h2⟩ := hc j x hj
  exact ⟨(hb.cell (p := ⟨b, off + j * 3, none⟩) hlt).trans h0, (hb.cell (p := ⟨b, off + j * 3 + 1, none⟩) hlt).trans h1, (hb.cell (p := ⟨b, off + j * 3 + 2, none⟩) hlt).trans h2⟩
theorem getEx {α : Type} {l : List α} {k : Nat} (h : k < l.length) : ∃ x, l[k]? = some x := ⟨_, List.getElem?_eq_getElem h⟩
theorem take_one_more {α : Type} {l : List α} {k : Nat} {x : α} (h : l[k]? = some x) : l.take (k + 1) = l.take k ++ [x] := by
  have hk : k < l.length := by
    rcases Nat.lt_or_ge k l.length with h' | h'
    · exact h'
    · rw [List.getElem?_eq_none h'] at h; cases h
  rw [List.take_succ_eq_append_getElem hk]
  rw [List.getElem?_eq_getElem hk] at h
  injection h with h
  rw [h]

def stOf (l : List V) : St := l.foldl (fun s v => bothS s (oneS v)) zeroS
theorem stOf_next {l : List V} {k : Nat} {x : V} (h : l[k]? = some x) : stOf (l.take (k + 1)) = bothS (stOf (l.take k)) (oneS x) := by
  rw [take_one_more h]; simp [stOf]
theorem oneS_cnt (x : V) : (oneS x).1 = 1 ∧ 0 ≤ (oneS x).2.1 ∧ (oneS x).2.1 ≤ 1 := by unfold oneS; split <;> simp
theorem stOf_snoc (l : List V) (x : V) : stOf (l ++ [x]) = bothS (stOf l) (oneS x) := by simp [stOf]
theorem stOf_take_cnt (l : List V) : ∀ k, k ≤ l.length → (stOf (l.take k)).1 = k ∧ 0 ≤ (stOf (l.take k)).2.1 ∧ (stOf (l.take k)).2.1 ≤ k
  | 0, _ => by simp [stOf, zeroS]
  | k + 1, h => by
    obtain ⟨x, hx⟩ := getEx (show k < l.length by omega)
    have ih := stOf_take_cnt l k (by omega)
    have ho := oneS_cnt x
    rw [stOf_next hx]
    simp only [bothS]; omega
theorem isSt_take (l : List V) (hn : ∀ x ∈ l, 0 ≤ x.1) : ∀ k, k ≤ l.length → IsSt (l.take k) (stOf (l.take k))
  | 0, _ => IsSt.nil
  | k + 1, h => by
    obtain ⟨x, hx⟩ := getEx (show k < l.length by omega)
    rw [stOf_next hx, take_one_more hx]
    exact (isSt_take l hn k (by omega)).both (IsSt.single x) (fun y hy => hn y (List.mem_of_mem_take hy)) (fun y hy => by rw [List.mem_singleton.1 hy]; exact hn x (List.mem_of_getElem? hx))
theorem isSt_of (l : List V) (hn : ∀ x ∈ l, 0 ≤ x.1) : IsSt l (stOf l) := by
  have := isSt_take l hn l.length (Nat.le_refl _)
  rwa [List.take_of_length_le (Nat.le_refl _)] at this

/-- What is known, as its eight cells. -/
def cellsS (s : St) : Array Value := #[.int .i64 s.1, .int .i64 s.2.1, .int .i64 s.2.2.1.1, .int .i64 s.2.2.1.2.1, .string s.2.2.1.2.2, .int .i64 s.2.2.2.1, .int .i64 s.2.2.2.2.1, .string s.2.2.2.2.2]
def KAt (w : World) (g : Nat) (s : St) : Prop := w.heap[g]? = some (.cells (cellsS s) 70)
theorem KAt.lt {w : World} {g : Nat} {s : St} (h : KAt w g s) : g < w.heap.size := by
  rcases Nat.lt_or_ge g w.heap.size with h' | h'
  · exact h'
  · unfold KAt at h; rw [Array.getElem?_eq_none h'] at h; cases h
theorem KAt.up {w W : World} {g : Nat} {s : St} (h : KAt w g s) (hb : Below w.heap.size w W) : KAt W g s := (hb.block g h.lt).trans h
theorem KAt.cells {w : World} {g : Nat} {c m k n : Int} {t : ByteArray} {k' n' : Int} {t' : ByteArray} (h : KAt w g (c, m, (k, n, t), (k', n', t'))) :
    w.cell? ⟨g, 0, none⟩ = some (.int .i64 c) ∧ w.cell? ⟨g, 1, none⟩ = some (.int .i64 m) ∧ w.cell? ⟨g, 2, none⟩ = some (.int .i64 k) ∧ w.cell? ⟨g, 3, none⟩ = some (.int .i64 n) ∧ w.cell? ⟨g, 4, none⟩ = some (.string t) ∧ w.cell? ⟨g, 5, none⟩ = some (.int .i64 k') ∧ w.cell? ⟨g, 6, none⟩ = some (.int .i64 n') ∧ w.cell? ⟨g, 7, none⟩ = some (.string t') :=
  ⟨cell_of_block h 0, cell_of_block h 1, cell_of_block h 2, cell_of_block h 3, cell_of_block h 4, cell_of_block h 5, cell_of_block h 6, cell_of_block h 7⟩
theorem KAt.free {w : World} {g : Nat} {s : St} (h : KAt w g s) :
    w.frozen? ⟨g, 0, none⟩ = false ∧ w.frozen? ⟨g, 1, none⟩ = false ∧ w.frozen? ⟨g, 2, none⟩ = false ∧ w.frozen? ⟨g, 3, none⟩ = false ∧ w.frozen? ⟨g, 4, none⟩ = false ∧ w.frozen? ⟨g, 5, none⟩ = false ∧ w.frozen? ⟨g, 6, none⟩ = false ∧ w.frozen? ⟨g, 7, none⟩ = false :=
  ⟨unfrozen_of_block h 0, unfrozen_of_block h 1, unfrozen_of_block h 2, unfrozen_of_block h 3, unfrozen_of_block h 4, unfrozen_of_block h 5, unfrozen_of_block h 6, unfrozen_of_block h 7⟩
theorem KAt.put {w : World} {g : Nat} {s s' : St} (h : KAt w g s) :
    KAt ((((((((w.setCell ⟨g, 0, none⟩ (.int .i64 s'.1)).setCell ⟨g, 1, none⟩ (.int .i64 s'.2.1)).setCell ⟨g, 2, none⟩ (.int .i64 s'.2.2.1.1)).setCell ⟨g, 3, none⟩ (.int .i64 s'.2.2.1.2.1)).setCell ⟨g, 4, none⟩ (.string s'.2.2.1.2.2)).setCell ⟨g, 5, none⟩ (.int .i64 s'.2.2.2.1)).setCell ⟨g, 6, none⟩ (.int .i64 s'.2.2.2.2.1)).setCell ⟨g, 7, none⟩ (.string s'.2.2.2.2.2)) g s' := by
  unfold KAt at h ⊢
  rw [block_setCell (block_setCell (block_setCell (block_setCell (block_setCell (block_setCell (block_setCell (block_setCell h _) _) _) _) _) _) _) _]
  simp [cellsS]
theorem KAt.put' {w : World} {g : Nat} {s s' : St} {c m k n : Int} {t : ByteArray} {k' n' : Int} {t' : ByteArray} (h : KAt w g s) (e : s' = (c, m, (k, n, t), (k', n', t'))) :
    KAt ((((((((w.setCell ⟨g, 0, none⟩ (.int .i64 c)).setCell ⟨g, 1, none⟩ (.int .i64 m)).setCell ⟨g, 2, none⟩ (.int .i64 k)).setCell ⟨g, 3, none⟩ (.int .i64 n)).setCell ⟨g, 4, none⟩ (.string t)).setCell ⟨g, 5, none⟩ (.int .i64 k')).setCell ⟨g, 6, none⟩ (.int .i64 n')).setCell ⟨g, 7, none⟩ (.string t')) g s' := by
  subst e
  have := KAt.put (s' := (c, m, (k, n, t), (k', n', t'))) h
  exact this
theorem KAt.off {w : World} {g r i : Nat} {s : St} {v : Value} (h : KAt w r s) (hn : r < g) : KAt (w.setCell ⟨g, i, none⟩ v) r s :=
  (((Below.refl g w).setCell (Nat.le_refl _) v).block r hn).trans h
theorem KAt.off8 {w : World} {g r : Nat} {s : St} {v0 v1 v2 v3 v4 v5 v6 v7 : Value} (h : KAt w r s) (hn : r < g) :
    KAt ((((((((w.setCell ⟨g, 0, none⟩ v0).setCell ⟨g, 1, none⟩ v1).setCell ⟨g, 2, none⟩ v2).setCell ⟨g, 3, none⟩ v3).setCell ⟨g, 4, none⟩ v4).setCell ⟨g, 5, none⟩ v5).setCell ⟨g, 6, none⟩ v6).setCell ⟨g, 7, none⟩ v7) r s :=
  (((((((h.off hn).off hn).off hn).off hn).off hn).off hn).off hn).off hn

theorem heap_new1 (w : World) (X Y : Obj) : ((w.alloc X).alloc Y).heap[w.heap.size + 1]? = some Y := by
  rw [← show (w.alloc X).heap.size = w.heap.size + 1 by simp]
  exact heap_alloc_new _ _

set_option maxHeartbeats 8000000 in
set_option maxRecDepth 100000 in
theorem of_any (v : Value) (l : List V) (w : World) (hs : Sl w v l) (hl : l.length ≤ 60) :
    Calls Tryz.prog 29 #[v] w fun e w' => e = .returned (.agg (cellsS (stOf l))) ∧ Below w.heap.size w w' := by
  obtain ⟨a, c, rfl, _, hL⟩ := hs
  have HL := mkH hL
  clear hL
  go_enter Tryz.func29, Tryz.ntmps29
  go_wp2
  go_loopw [8] (fun vi wr => ∃ k : Nat, k ≤ l.length ∧ vi = .int .i64 k ∧ Hid (KAt wr w.heap.size zeroS ∧ KAt wr (w.heap.size + 1) (stOf (l.take k)) ∧ Below w.heap.size w wr)) (fun vi _ => l.length - (intOf vi).toNat)
  case atStart => exact ⟨0, Nat.zero_le _, rfl, ⟨(Below.heap_alloc _ _ _ (by simp)).trans (heap_alloc_new _ _), heap_new1 w _ _, below_a2 _ _ _⟩⟩
  case round =>
    obtain ⟨k, hk, rfl, hw⟩ := hrel
    by_cases hlt : k < l.length
    · obtain ⟨b, off, rfl, hb, hc⟩ := HL.out (by intro e; rw [e] at hlt; simp at hlt)
      obtain ⟨⟨kx, nx, tx⟩, hx⟩ := getEx hlt
      obtain ⟨g0, g1, g2⟩ := hc k _ hx
      have d0 : wr.cell? ⟨b, off + k * 3, none⟩ = some (.int .i64 kx) := (hw.out.2.2.cell (p := ⟨b, off + k * 3, none⟩) hb).trans g0
      have d1 : wr.cell? ⟨b, off + k * 3 + 1, none⟩ = some (.int .i64 nx) := (hw.out.2.2.cell (p := ⟨b, off + k * 3 + 1, none⟩) hb).trans g1
      have d2 : wr.cell? ⟨b, off + k * 3 + 2, none⟩ = some (.string tx) := (hw.out.2.2.cell (p := ⟨b, off + k * 3 + 2, none⟩) hb).trans g2
      have HN := mkH (stOf_next hx)
      have hcn := stOf_take_cnt l k (by omega)
      have hon := oneS_cnt (kx, nx, tx)
      have HO := mkH (ofOne_any kx nx tx)
      clear g0 g1 g2 hc hx
      generalize stOf (l.take k) = s1 at *
      generalize oneS (kx, nx, tx) = so at *
      obtain ⟨c1, m1, ⟨k1, n1, t1⟩, ⟨p1, q1, u1⟩⟩ := s1
      obtain ⟨c2, m2, ⟨k2, n2, t2⟩, ⟨p2, q2, u2⟩⟩ := so
      obtain ⟨e0, e1, e2, e3, e4, e5, e6, e7⟩ := hw.out.2.1.cells
      obtain ⟨f0, f1, f2, f3, f4, f5, f6, f7⟩ := hw.out.2.1.free
      have hgl := hw.out.2.1.lt
      have HB : Hid (∀ W, _) := mkH (fun W => both_any c1 m1 k1 n1 t1 p1 q1 u1 c2 m2 k2 n2 t2 p2 q2 u2 W (by simp only at hcn; omega) (by simp only at hcn; omega) (by simp only at hon; omega) (by simp only at hon; omega) (by simp only at hcn; omega) (by simp only at hcn; omega) (by simp only at hon; omega) (by simp only at hon; omega))
      clear hcn hon
      have hn1 : ¬ wr.heap.size = w.heap.size + 1 := by omega
      have hn2 : ¬ w.heap.size + 1 = wr.heap.size := by omega
      have hz : w.heap.size + 1 < wr.heap.size + 1 := by omega
      go_wp2_with fail
      go_region_with (first
          | (go_at_call 61; refine (HO.out _).mono ?_; rintro e w1 ⟨rfl, hb1⟩; obtain ⟨hcl, hfl⟩ := bcell hb1; have z0 : w.heap.size + 1 < w1.heap.size := Nat.lt_of_lt_of_le (by first | assumption | (simp; done) | (simp; omega)) hb1.size; have z1 : wr.heap.size < w1.heap.size := Nat.lt_of_lt_of_le (by first | assumption | (simp; done) | (simp; omega)) hb1.size)
          | (go_at_call 60; refine (HB.out _).mono ?_; rintro e w2 ⟨rfl, hb2⟩; obtain ⟨hcg, hfg⟩ := bcell hb2; have y0 : w.heap.size + 1 < w2.heap.size := Nat.lt_of_lt_of_le (by first | assumption | (simp; done) | (simp; omega)) hb2.size; have y1 : wr.heap.size < w2.heap.size := Nat.lt_of_lt_of_le (by first | assumption | (simp; done) | (simp; omega)) hb2.size))
      all_goals
        go_wp2
        go_roundw
        case rel =>
          have B2 : Below wr.heap.size wr w2 := Below.ups (Below.ups (((Below.refl _ wr).alloc (Nat.le_refl _) _).drew) hb1) hb2
          exact ⟨k + 1, by omega, by go_num, mkH ⟨(hw.out.1.up B2).off8 (by omega), KAt.put' (hw.out.2.1.up B2) (HN.out.trans rfl), b8c (Below.ups hw.out.2.2 B2) (by omega) _ _ _ _ _ _ _ _⟩⟩
        case measure => simp [intOf]; omega
    · have e : l.take k = l := List.take_of_length_le (by omega)
      rw [e] at hw
      clear e HL
      obtain ⟨s1, hs1⟩ : ∃ s1, stOf l = s1 := ⟨_, rfl⟩
      rw [hs1] at hw
      have HE := mkH hs1
      clear hs1
      obtain ⟨c1, m1, ⟨k1, n1, t1⟩, ⟨p1, q1, u1⟩⟩ := s1
      obtain ⟨e0, e1, e2, e3, e4, e5, e6, e7⟩ := hw.out.2.1.cells
      obtain ⟨z0, z1, z2, z3, z4, z5, z6, z7⟩ := KAt.cells (c := 0) (m := 0) (k := 0) (n := 0) (t := ⟨#[]⟩) (k' := 0) (n' := 0) (t' := ⟨#[]⟩) hw.out.1
      obtain ⟨f0, f1, f2, f3, f4, f5, f6, f7⟩ := hw.out.1.free
      go_wp2
      exact bodyPost_ret (v := .agg #[.int .i64 c1, .int .i64 m1, .int .i64 k1, .int .i64 n1, .string t1, .int .i64 p1, .int .i64 q1, .string u1]) (by simp [results, Tryz.results29, go_sem, z0, z1, z2, z3, z4, z5, z6, z7]) rfl ⟨by rw [HE.out]; rfl, b8c hw.out.2.2 (Nat.le_refl _) _ _ _ _ _ _ _ _⟩
end Go.Proofs.YtodemklghajdeaaGreatDoor.S
