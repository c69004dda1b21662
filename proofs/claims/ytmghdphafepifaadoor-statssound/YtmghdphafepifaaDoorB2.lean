/- What stats.Both does, said of every call. -/
import Derived.Test.YtmghdphafepifaaDoorB1
namespace Go.Proofs.YtmghdphafepifaaDoor
open Go.RowKit

theorem b3s {w W : World} {X Y Z : Obj} (hb : Below (((w.alloc X).alloc Y).alloc Z).heap.size (((w.alloc X).alloc Y).alloc Z) W) : Below w.heap.size w W := (b3 w X Y Z).trans (hb.mono (by simp; omega))

theorem b3d {w W : World} {X Y Z : Obj} (hb : Below (((w.alloc X).alloc Y).alloc Z).drew.heap.size (((w.alloc X).alloc Y).alloc Z).drew W) : Below w.heap.size w W := (b3 w X Y Z).drew.trans (hb.mono (by simp; omega))
theorem Below.ups {a b c : World} (h : Below a.heap.size a b) (k : Below b.heap.size b c) : Below a.heap.size a c := h.trans (k.mono h.size)
theorem b8c {w W : World} (hb : Below w.heap.size w W) {g : Nat} (hg : w.heap.size ≤ g) (v0 v1 v2 v3 v4 v5 v6 v7 : Value) : Below w.heap.size w ((((((((W.setCell ⟨g, 0, none⟩ v0).setCell ⟨g, 1, none⟩ v1).setCell ⟨g, 2, none⟩ v2).setCell ⟨g, 3, none⟩ v3).setCell ⟨g, 4, none⟩ v4).setCell ⟨g, 5, none⟩ v5).setCell ⟨g, 6, none⟩ v6).setCell ⟨g, 7, none⟩ v7) :=
  (((((((hb.setCell hg _).setCell hg _).setCell hg _).setCell hg _).setCell hg _).setCell hg _).setCell hg _).setCell hg _

set_option maxHeartbeats 8000000 in
set_option maxRecDepth 100000 in
theorem both_any (c1 m1 k1 n1 : Int) (t1 : ByteArray) (p1 q1 : Int) (u1 : ByteArray) (c2 m2 k2 n2 : Int) (t2 : ByteArray) (p2 q2 : Int) (u2 : ByteArray) (w : World)
    (hc1 : 0 ≤ c1) (hc1' : c1 ≤ 1000) (hc2 : 0 ≤ c2) (hc2' : c2 ≤ 1000) (hm1 : 0 ≤ m1) (hm1' : m1 ≤ 1000) (hm2 : 0 ≤ m2) (hm2' : m2 ≤ 1000) :
    Calls Tryd.prog 24 #[.agg #[.int .i64 c1, .int .i64 m1, .int .i64 k1, .int .i64 n1, .string t1, .int .i64 p1, .int .i64 q1, .string u1], .agg #[.int .i64 c2, .int .i64 m2, .int .i64 k2, .int .i64 n2, .string t2, .int .i64 p2, .int .i64 q2, .string u2]] w
      fun e w' => e = .returned (.agg #[.int .i64 (c1 + c2), .int .i64 (m1 + m2), .int .i64 (leastV (k1, n1, t1) (k2, n2, t2)).1, .int .i64 (leastV (k1, n1, t1) (k2, n2, t2)).2.1, .string (leastV (k1, n1, t1) (k2, n2, t2)).2.2, .int .i64 (greatV (p1, q1, u1) (p2, q2, u2)).1, .int .i64 (greatV (p1, q1, u1) (p2, q2, u2)).2.1, .string (greatV (p1, q1, u1) (p2, q2, u2)).2.2]) ∧ Below w.heap.size w w' := by
  have HL := mkH (least_any k1 n1 k2 n2 t1 t2)
  have HG := mkH (greatest_any p1 q1 p2 q2 u1 u2)
  generalize (leastV (k1, n1, t1) (k2, n2, t2)) = lo at *
  generalize (greatV (p1, q1, u1) (p2, q2, u2)) = hi at *
  obtain ⟨lk, ln, lt⟩ := lo
  obtain ⟨hk, hn, ht⟩ := hi
  have hz : w.heap.size < w.heap.size + 1 + 1 + 1 := by omega
  have hz2 : w.heap.size < w.heap.size + 1 + 1 := by omega
  have hn1 : ¬ w.heap.size = w.heap.size + 1 + 1 := by omega
  have hn2 : ¬ w.heap.size + 1 + 1 = w.heap.size := by omega
  have hw1 : IntKind.i64.wrap (c1 + c2) = c1 + c2 := by rw [IntKind.wrap_i64]; omega
  have hw2 : IntKind.i64.wrap (m1 + m2) = m1 + m2 := by rw [IntKind.wrap_i64]; omega
  clear hc1 hc1' hc2 hc2' hm1 hm1' hm2 hm2'
  go_enter Tryd.func24, Tryd.ntmps24
  go_wp2
  go_region_held3 (fun w' => w'.cell? ⟨w.heap.size, 0, none⟩ = some (.int .i64 c1) ∧ w'.cell? ⟨w.heap.size, 1, none⟩ = some (.int .i64 m1) ∧ w'.cell? ⟨w.heap.size, 2, none⟩ = some (.int .i64 k1) ∧ w'.cell? ⟨w.heap.size, 3, none⟩ = some (.int .i64 n1) ∧ w'.cell? ⟨w.heap.size, 4, none⟩ = some (.string t1) ∧ w'.cell? ⟨w.heap.size, 5, none⟩ = some (.int .i64 p1) ∧ w'.cell? ⟨w.heap.size, 6, none⟩ = some (.int .i64 q1) ∧ w'.cell? ⟨w.heap.size, 7, none⟩ = some (.string u1)
      ∧ w'.cell? ⟨w.heap.size + 1, 0, none⟩ = some (.int .i64 c2) ∧ w'.cell? ⟨w.heap.size + 1, 1, none⟩ = some (.int .i64 m2) ∧ w'.cell? ⟨w.heap.size + 1, 2, none⟩ = some (.int .i64 k2) ∧ w'.cell? ⟨w.heap.size + 1, 3, none⟩ = some (.int .i64 n2) ∧ w'.cell? ⟨w.heap.size + 1, 4, none⟩ = some (.string t2) ∧ w'.cell? ⟨w.heap.size + 1, 5, none⟩ = some (.int .i64 p2) ∧ w'.cell? ⟨w.heap.size + 1, 6, none⟩ = some (.int .i64 q2) ∧ w'.cell? ⟨w.heap.size + 1, 7, none⟩ = some (.string u2)) (go_keep)
    (first
      | (go_at_call 39; refine (HL.out _).mono ?_; rintro e w1 ⟨rfl, hb1⟩; obtain ⟨hcl, hfl⟩ := bcell hb1; have z0 : w.heap.size < w1.heap.size := Nat.lt_of_lt_of_le (by first | assumption | (simp; done) | (simp; omega)) hb1.size; have z1 : w.heap.size + 1 < w1.heap.size := Nat.lt_of_lt_of_le (by first | assumption | (simp; done) | (simp; omega)) hb1.size; have z2 : w.heap.size + 1 + 1 < w1.heap.size := Nat.lt_of_lt_of_le (by first | assumption | (simp; done) | (simp; omega)) hb1.size)
      | (go_at_call 40; refine (HG.out _).mono ?_; rintro e w2 ⟨rfl, hb2⟩; obtain ⟨hcg, hfg⟩ := bcell hb2; have y0 : w.heap.size < w2.heap.size := Nat.lt_of_lt_of_le (by first | assumption | (simp; done) | (simp; omega)) hb2.size; have y1 : w.heap.size + 1 < w2.heap.size := Nat.lt_of_lt_of_le (by first | assumption | (simp; done) | (simp; omega)) hb2.size; have y2 : w.heap.size + 1 + 1 < w2.heap.size := Nat.lt_of_lt_of_le (by first | assumption | (simp; done) | (simp; omega)) hb2.size))
  go_wp2
  exact bodyPost_ret (v := .agg #[.int .i64 (c1 + c2), .int .i64 (m1 + m2), .int .i64 lk, .int .i64 ln, .string lt, .int .i64 hk, .int .i64 hn, .string ht]) (by simp [results, Tryd.results24, go_sem, hcl, hcg, z2]) rfl ⟨rfl, b8c (Below.ups (b3d hb1) hb2) (by omega) _ _ _ _ _ _ _ _⟩
end Go.Proofs.YtmghdphafepifaaDoor
