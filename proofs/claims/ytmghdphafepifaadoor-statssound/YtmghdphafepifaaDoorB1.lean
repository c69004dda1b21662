/- What the small functions of package stats do, said of every call: is, least, greatest, ofOne, Both. -/
import Derived.Test.YtmghdphafepifaaDoorW1
import Derived.Test.YtmghdphafepifaaDoorA1
namespace Go.Proofs.YtmghdphafepifaaDoor
open Go.RowKit

theorem mkH {p : Prop} (h : p) : Hid p := h
theorem bcell {W w1 : World} (hb : Below W.heap.size W w1) : (∀ b o, b < W.heap.size → w1.cell? ⟨b, o, none⟩ = W.cell? ⟨b, o, none⟩) ∧ (∀ b o, b < W.heap.size → w1.frozen? ⟨b, o, none⟩ = W.frozen? ⟨b, o, none⟩) :=
  ⟨fun b o h => hb.cell (p := ⟨b, o, none⟩) h, fun b o h => hb.frozen (p := ⟨b, o, none⟩) h⟩

set_option maxHeartbeats 1000000 in
theorem sis_any (c k1 n1 k2 n2 : Int) (t1 t2 : ByteArray) (w : World) :
    Calls Tryd.prog 62 #[.int .i64 c, .agg #[.int .i64 k1, .int .i64 n1, .string t1], .agg #[.int .i64 k2, .int .i64 n2, .string t2]] w fun e w' => e = .returned (.bool (isV c k1 n1 t1 k2 n2 t2 == 1)) ∧ Below w.heap.size w w' := by
  go_enter Tryd.func62, Tryd.ntmps62
  go_wp2_with (first
    | (go_at_call 11; refine (is_any _ _ _ _ _ _ _ _).mono ?_; rintro e w1 ⟨rfl, hb1⟩))
  go_ret
  exact ⟨rfl, (((Below.refl _ _).alloc (Nat.le_refl _) _).alloc (by simp) _).trans (hb1.mono (by simp; omega))⟩

theorem lv1 {a b : V} (h : a.1 = 0) : b = leastV a b := by unfold leastV; rw [if_pos (.inl h)]
theorem lv2 {a b : V} (h : ¬ a.1 = 0) (h2 : b.1 = 0) : a = leastV a b := by unfold leastV; rw [if_neg (by rintro (x | ⟨x, _⟩); exact h x; exact x h2)]
theorem lv3 {a b : V} (h2 : ¬ b.1 = 0) (h3 : cmpW b a < 0) : b = leastV a b := by unfold leastV; rw [if_pos (.inr ⟨h2, h3⟩)]
theorem lv4 {a b : V} (h : ¬ a.1 = 0) (h3 : ¬ cmpW b a < 0) : a = leastV a b := by unfold leastV; rw [if_neg (by rintro (x | ⟨_, x⟩); exact h x; exact h3 x)]
theorem gv1 {a b : V} (h3 : 0 < cmpW b a) : b = greatV a b := by unfold greatV; rw [if_pos h3]
theorem gv2 {a b : V} (h3 : ¬ 0 < cmpW b a) : a = greatV a b := by unfold greatV; rw [if_neg h3]
theorem ret_v {a : V} {k n : Int} {t : ByteArray} (h : (k, n, t) = a) : Ending.returned (.agg #[.int .i64 k, .int .i64 n, .string t]) = .returned (.agg #[.int .i64 a.1, .int .i64 a.2.1, .string a.2.2]) := by rw [← h]
theorem b3 (w : World) (X Y Z : Obj) : Below w.heap.size w (((w.alloc X).alloc Y).alloc Z) := (((Below.refl _ _).alloc (Nat.le_refl _) _).alloc (by simp) _).alloc (by simp; omega) _
theorem b3c {w w1 : World} {X Y Z : Obj} (hb : Below (((w.alloc X).alloc Y).alloc Z).heap.size (((w.alloc X).alloc Y).alloc Z) w1) (u0 u1 u2 : Value) : Below w.heap.size w (((w1.setCell ⟨w.heap.size + 1 + 1, 0, none⟩ u0).setCell ⟨w.heap.size + 1 + 1, 1, none⟩ u1).setCell ⟨w.heap.size + 1 + 1, 2, none⟩ u2) :=
  ((((b3 w X Y Z).trans (hb.mono (by simp; omega))).setCell (by simp; omega) _).setCell (by simp; omega) _).setCell (by simp; omega) _

set_option maxHeartbeats 2000000 in
theorem least_any (k1 n1 k2 n2 : Int) (t1 t2 : ByteArray) (w : World) :
    Calls Tryd.prog 39 #[.agg #[.int .i64 k1, .int .i64 n1, .string t1], .agg #[.int .i64 k2, .int .i64 n2, .string t2]] w fun e w' => e = .returned (.agg #[.int .i64 (leastV (k1, n1, t1) (k2, n2, t2)).1, .int .i64 (leastV (k1, n1, t1) (k2, n2, t2)).2.1, .string (leastV (k1, n1, t1) (k2, n2, t2)).2.2]) ∧ Below w.heap.size w w' := by
  by_cases h1 : k1 = 0
  · have HR : Hid ((k2, n2, t2) = leastV (k1, n1, t1) (k2, n2, t2)) := lv1 (a := (k1, n1, t1)) h1
    generalize leastV (k1, n1, t1) (k2, n2, t2) = m at *
    have hb : (k1 == 0) = true := by simpa using h1
    clear h1
    go_enter Tryd.func39, Tryd.ntmps39
    go_wp2
    exact bodyPost_ret (v := .agg #[.int .i64 k2, .int .i64 n2, .string t2]) (by simp [results, Tryd.results39, go_sem]) rfl ⟨ret_v HR.out, b3 _ _ _ _⟩
  have hb : (k1 == 0) = false := by simpa using h1
  by_cases h2 : k2 = 0
  · have HR : Hid ((k1, n1, t1) = leastV (k1, n1, t1) (k2, n2, t2)) := lv2 (a := (k1, n1, t1)) h1 h2
    generalize leastV (k1, n1, t1) (k2, n2, t2) = m at *
    subst h2
    clear h1
    go_enter Tryd.func39, Tryd.ntmps39
    go_wp2
    exact bodyPost_ret (v := .agg #[.int .i64 k1, .int .i64 n1, .string t1]) (by simp [results, Tryd.results39, go_sem]) rfl ⟨ret_v HR.out, b3 _ _ _ _⟩
  by_cases h3 : cmpV k2 n2 t2 k1 n1 t1 < 0
  · have HR : Hid ((k2, n2, t2) = leastV (k1, n1, t1) (k2, n2, t2)) := lv3 (a := (k1, n1, t1)) h2 h3
    generalize leastV (k1, n1, t1) (k2, n2, t2) = m at *
    clear h1
    have HC := mkH (compare_any k2 n2 k1 n1 t2 t1)
    generalize cmpV k2 n2 t2 k1 n1 t1 = o at *
    go_enter Tryd.func39, Tryd.ntmps39
    go_wp2_with (first
      | (go_at_call 9; refine (HC.out _).mono ?_; rintro e w1 ⟨rfl, hb1⟩; obtain ⟨hc, hf⟩ := bcell hb1))
    exact bodyPost_ret (v := .agg #[.int .i64 k2, .int .i64 n2, .string t2]) (by simp [results, Tryd.results39, go_sem, hc]) rfl ⟨ret_v HR.out, b3c hb1 _ _ _⟩
  · have HR : Hid ((k1, n1, t1) = leastV (k1, n1, t1) (k2, n2, t2)) := lv4 (a := (k1, n1, t1)) h1 h3
    generalize leastV (k1, n1, t1) (k2, n2, t2) = m at *
    clear h1
    have HC := mkH (compare_any k2 n2 k1 n1 t2 t1)
    generalize cmpV k2 n2 t2 k1 n1 t1 = o at *
    go_enter Tryd.func39, Tryd.ntmps39
    go_wp2_with (first
      | (go_at_call 9; refine (HC.out _).mono ?_; rintro e w1 ⟨rfl, hb1⟩; obtain ⟨hc, hf⟩ := bcell hb1))
    exact bodyPost_ret (v := .agg #[.int .i64 k1, .int .i64 n1, .string t1]) (by simp [results, Tryd.results39, go_sem, hc]) rfl ⟨ret_v HR.out, b3c hb1 _ _ _⟩

set_option maxHeartbeats 2000000 in
theorem greatest_any (k1 n1 k2 n2 : Int) (t1 t2 : ByteArray) (w : World) :
    Calls Tryd.prog 40 #[.agg #[.int .i64 k1, .int .i64 n1, .string t1], .agg #[.int .i64 k2, .int .i64 n2, .string t2]] w fun e w' => e = .returned (.agg #[.int .i64 (greatV (k1, n1, t1) (k2, n2, t2)).1, .int .i64 (greatV (k1, n1, t1) (k2, n2, t2)).2.1, .string (greatV (k1, n1, t1) (k2, n2, t2)).2.2]) ∧ Below w.heap.size w w' := by
  by_cases h3 : 0 < cmpV k2 n2 t2 k1 n1 t1
  · have HR : Hid ((k2, n2, t2) = greatV (k1, n1, t1) (k2, n2, t2)) := gv1 (a := (k1, n1, t1)) h3
    generalize greatV (k1, n1, t1) (k2, n2, t2) = m at *
    have HC := mkH (compare_any k2 n2 k1 n1 t2 t1)
    generalize cmpV k2 n2 t2 k1 n1 t1 = o at *
    go_enter Tryd.func40, Tryd.ntmps40
    go_wp2_with (first
      | (go_at_call 9; refine (HC.out _).mono ?_; rintro e w1 ⟨rfl, hb1⟩; obtain ⟨hc, hf⟩ := bcell hb1))
    exact bodyPost_ret (v := .agg #[.int .i64 k2, .int .i64 n2, .string t2]) (by simp [results, Tryd.results40, go_sem, hc]) rfl ⟨ret_v HR.out, b3c hb1 _ _ _⟩
  · have HR : Hid ((k1, n1, t1) = greatV (k1, n1, t1) (k2, n2, t2)) := gv2 (a := (k1, n1, t1)) h3
    generalize greatV (k1, n1, t1) (k2, n2, t2) = m at *
    have HC := mkH (compare_any k2 n2 k1 n1 t2 t1)
    generalize cmpV k2 n2 t2 k1 n1 t1 = o at *
    go_enter Tryd.func40, Tryd.ntmps40
    go_wp2_with (first
      | (go_at_call 9; refine (HC.out _).mono ?_; rintro e w1 ⟨rfl, hb1⟩; obtain ⟨hc, hf⟩ := bcell hb1))
    exact bodyPost_ret (v := .agg #[.int .i64 k1, .int .i64 n1, .string t1]) (by simp [results, Tryd.results40, go_sem, hc]) rfl ⟨ret_v HR.out, b3c hb1 _ _ _⟩

/-- What is known, as it is handed on. -/
theorem ret_s {a : St} {c m k n : Int} {t : ByteArray} {k' n' : Int} {t' : ByteArray} (h : (c, m, (k, n, t), (k', n', t')) = a) : Ending.returned (.agg #[.int .i64 c, .int .i64 m, .int .i64 k, .int .i64 n, .string t, .int .i64 k', .int .i64 n', .string t']) = .returned (.agg #[.int .i64 a.1, .int .i64 a.2.1, .int .i64 a.2.2.1.1, .int .i64 a.2.2.1.2.1, .string a.2.2.1.2.2, .int .i64 a.2.2.2.1, .int .i64 a.2.2.2.2.1, .string a.2.2.2.2.2]) := by rw [← h]

set_option maxHeartbeats 2000000 in
theorem ofOne_any (k n : Int) (t : ByteArray) (w : World) :
    Calls Tryd.prog 37 #[.agg #[.int .i64 k, .int .i64 n, .string t]] w fun e w' => e = .returned (.agg #[.int .i64 (oneS (k, n, t)).1, .int .i64 (oneS (k, n, t)).2.1, .int .i64 (oneS (k, n, t)).2.2.1.1, .int .i64 (oneS (k, n, t)).2.2.1.2.1, .string (oneS (k, n, t)).2.2.1.2.2, .int .i64 (oneS (k, n, t)).2.2.2.1, .int .i64 (oneS (k, n, t)).2.2.2.2.1, .string (oneS (k, n, t)).2.2.2.2.2]) ∧ Below w.heap.size w w' := by
  by_cases h1 : k = 0
  · have HR : Hid ((1, 1, (0, 0, ⟨#[]⟩), (0, 0, ⟨#[]⟩)) = oneS (k, n, t)) := mkH (by unfold oneS; rw [if_pos h1]; rfl)
    generalize oneS (k, n, t) = m at *
    have hb : (k == 0) = true := by simpa using h1
    clear h1
    go_enter Tryd.func37, Tryd.ntmps37
    go_wp2
    exact bodyPost_ret (v := .agg #[.int .i64 1, .int .i64 1, .int .i64 0, .int .i64 0, .string ⟨#[]⟩, .int .i64 0, .int .i64 0, .string ⟨#[]⟩]) (by simp [results, Tryd.results37, go_sem]) rfl ⟨ret_s HR.out, ((Below.refl _ _).alloc (Nat.le_refl _) _).alloc (by simp) _⟩
  · have HR : Hid ((1, 0, (k, n, t), (k, n, t)) = oneS (k, n, t)) := mkH (by unfold oneS; rw [if_neg h1])
    generalize oneS (k, n, t) = m at *
    have hb : (k == 0) = false := by simpa using h1
    clear h1
    go_enter Tryd.func37, Tryd.ntmps37
    go_wp2
    exact bodyPost_ret (v := .agg #[.int .i64 1, .int .i64 0, .int .i64 k, .int .i64 n, .string t, .int .i64 k, .int .i64 n, .string t]) (by simp [results, Tryd.results37, go_sem]) rfl ⟨ret_s HR.out, ((Below.refl _ _).alloc (Nat.le_refl _) _).alloc (by simp) _⟩
end Go.Proofs.YtmghdphafepifaaDoor
