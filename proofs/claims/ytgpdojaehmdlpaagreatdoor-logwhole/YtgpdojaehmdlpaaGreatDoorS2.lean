/- What slices.Equal at columns and at numbers does at two lists that are the same. -/
import Derived.Test.YtgpdojaehmdlpaaGreatDoorS1
import Derived.Laws.StructEq
namespace Go.Proofs.YtgpdojaehmdlpaaGreatDoor
open Go.RowKit Go.Proofs Go.Lib Go.Joins

def eqC (x y : Col) : Bool := x.1 == y.1 && (x.2.1.toList == y.2.1.toList && (x.2.2.1 == y.2.2.1 && (x.2.2.2.1 == y.2.2.2.1 && (x.2.2.2.2.1 == y.2.2.2.2.1 && (x.2.2.2.2.2.1 == y.2.2.2.2.2.1 && x.2.2.2.2.2.2.toList == y.2.2.2.2.2.2.toList)))))

set_option maxHeartbeats 2000000 in
theorem neqC : NeqAt Tryz.prog 80 (fun x : Col => .agg (encC x).toArray) eqC := by
  refine ⟨fun x y w => ?_, GuardAt.agg _ (by kernel_rfl)⟩
  obtain ⟨x1, x2, x3, x4, x5, x6, x7⟩ := x
  obtain ⟨y1, y2, y3, y4, y5, y6, y7⟩ := y
  have hS : Tryz.prog.underlying 80 = some (.struct (Tryz.prog.fieldsOf 80)) := by kernel_rfl
  have hp : Tryz.prog.stoodInHeld 80 = false := by kernel_rfl
  have hS2 : Tryz.prog.underlying 78 = some (.struct (Tryz.prog.fieldsOf 78)) := by kernel_rfl
  have hp2 : Tryz.prog.stoodInHeld 78 = false := by kernel_rfl
  have u2 := Tryz.underlying2; have a2 := Tryz.isAgg2; have z2 := Tryz.sizeOf2
  have u3 := Tryz.underlying3; have a3 := Tryz.isAgg3; have z3 := Tryz.sizeOf3
  have u4 := Tryz.underlying4; have a4 := Tryz.isAgg4; have z4 := Tryz.sizeOf4
  have u9 := Tryz.underlying9; have a9 := Tryz.isAgg9; have z9 := Tryz.sizeOf9
  have a23 := Tryz.isAgg78; have z23 := Tryz.sizeOf78
  have hV : ∀ w, (Op.equalIn 9998 78 (.agg #[.int .i64 x5, .int .i64 x6, .string x7]) (.agg #[.int .i64 y5, .int .i64 y6, .string y7])).run Tryz.prog w = .ok (x5 == y5 && (x6 == y6 && x7.toList == y7.toList)) w := by
    intro w
    rw [show (9998 : Nat) = 9997 + 1 from rfl, run_equalIn_agg w 9997 78 _ _ hS2 hp2]
    simp only [Program.fieldsOf, Tryz.underlying78]
    clear hS hp hS2 hp2
    go_simp
    by_cases h1 : x5 = y5 <;> by_cases h2 : x6 = y6 <;> by_cases h3 : x7.toList = y7.toList <;> simp [h1, h2, h3]
  simp only [encC, eqC]
  rw [run_neq_struct, show (10000 : Nat) = 9999 + 1 from rfl, run_equalIn_agg w 9999 80 _ _ hS hp]
  simp only [Program.fieldsOf, Tryz.underlying80]
  clear hS hp hS2 hp2
  generalize hq : (x5 == y5 && (x6 == y6 && x7.toList == y7.toList)) = q at *
  go_simp
  subst hq
  by_cases h1 : x1 = y1
  case neg => rw [if_neg h1]; simp [h1]
  rw [if_pos h1]
  by_cases h2 : x2.toList = y2.toList
  case neg => rw [if_neg h2]; simp [h2]
  rw [if_pos h2]
  by_cases h3 : x3 = y3
  case neg => rw [if_neg h3]; simp [h3]
  rw [if_pos h3]
  by_cases h4 : x4 = y4
  case neg => rw [if_neg h4]; simp [h4]
  rw [if_pos h4]
  by_cases h5 : x5 = y5
  case neg => rw [if_neg h5]; simp [h5]
  rw [if_pos h5]
  by_cases h6 : x6 = y6
  case neg => rw [if_neg h6]; simp [h6]
  rw [if_pos h6]
  by_cases h7 : x7.toList = y7.toList
  case neg => rw [if_neg h7]; simp [h7]
  rw [if_pos h7]
  simp [h1, h2, h3, h4, h5, h6, h7]

theorem eqC_self (c : Col) : eqC c c = true := by simp [eqC]
theorem allEq_self : ∀ l : List Col, Lib.allEq eqC l l = true
  | [] => rfl
  | c :: l => by simp [Lib.allEq, eqC_self, allEq_self l]

/-- slices.Equal at the same columns, wherever they lie: true. -/
theorem equal_any (g1 o1 c1 g2 o2 c2 : Nat) (l : List Col) (w : World) (h1 : SlC w g1 o1 l) (h2 : SlC w g2 o2 l) (hl : l.length ≤ 8) :
    Calls Tryz.prog 40 #[.slice (some ⟨g1, o1, none⟩) l.length c1, .slice (some ⟨g2, o2, none⟩) l.length c2] w fun e w' => e = .returned (.bool true) ∧ Below w.heap.size w w' := by
  refine (AnyQ.slices_Equal Tryz.layEqC 7 Tryz.isAgg80 Tryz.sizeOf80 encC encC_len eqC neqC g1 o1 l.length c1 g2 o2 l.length c2 l l w (Nat.le_refl _) (Nat.le_refl _) (by omega) (by omega) h1.2 h2.2).mono ?_
  rintro e w' ⟨rfl, q, rfl⟩
  refine ⟨?_, ⟨rfl, rfl, rfl, Nat.le_refl _, fun _ _ => rfl⟩⟩
  rw [List.take_length, allEq_self]

set_option maxHeartbeats 400000 in
theorem equalC_nil (a1 a2 : Option Addr) (c1 c2 : Nat) (w : World) : Calls Tryz.prog 40 #[.slice a1 0 c1, .slice a2 0 c2] w fun e w' => e = .returned (.bool true) ∧ Below w.heap.size w w' := by
  go_enter Tryz.func40, Tryz.ntmps40
  go_wp2
  go_loopw [13] (fun vi wr => vi = .int .i64 0 ∧ wr = w) (fun _ _ => 0)
  case atStart => exact ⟨rfl, rfl⟩
  case round =>
    obtain ⟨rfl, rfl⟩ := hrel
    go_wp2
    go_ret
    exact ⟨rfl, Below.refl _ _⟩
set_option maxHeartbeats 400000 in
theorem equalI_nil (a1 a2 : Option Addr) (c1 c2 : Nat) (w : World) : Calls Tryz.prog 20 #[.slice a1 0 c1, .slice a2 0 c2] w fun e w' => e = .returned (.bool true) ∧ Below w.heap.size w w' := by
  go_enter Tryz.func20, Tryz.ntmps20
  go_wp2
  go_loopw [13] (fun vi wr => vi = .int .i64 0 ∧ wr = w) (fun _ _ => 0)
  case atStart => exact ⟨rfl, rfl⟩
  case round =>
    obtain ⟨rfl, rfl⟩ := hrel
    go_wp2
    go_ret
    exact ⟨rfl, Below.refl _ _⟩
theorem equalC_any (v1 v2 : Value) (l : List Col) (w : World) (h1 : w.ownsRow 0 80 7 v1 l.length (cellsC l)) (h2 : w.ownsRow 0 80 7 v2 l.length (cellsC l)) (hl : l.length ≤ 8) :
    Calls Tryz.prog 40 #[v1, v2] w fun e w' => e = .returned (.bool true) ∧ Below w.heap.size w w' := by
  by_cases h0 : l.length = 0
  · obtain ⟨a1, c1, e1, _⟩ := own_slice h1
    obtain ⟨a2, c2, e2, _⟩ := own_slice h2
    rw [e1, e2, h0]
    exact equalC_nil a1 a2 c1 c2 w
  · rcases own_forms h1 with ⟨_, e0⟩ | ⟨g1, c1, e1, _⟩
    · exact (h0 e0).elim
    · rcases own_forms h2 with ⟨_, e0⟩ | ⟨g2, c2, e2, _⟩
      · exact (h0 e0).elim
      · subst e1 e2
        exact equal_any g1 0 c1 g2 0 c2 l w (SlC.of_own h1 rfl) (SlC.of_own h2 rfl) hl
theorem allEqI : ∀ l : List Int, Lib.allEq (fun x y => x == y) l l = true
  | [] => rfl
  | x :: l => by simp [Lib.allEq, allEqI l]
theorem equalI_any (v1 v2 : Value) (l : List Int) (w : World) (h1 : LiI w v1 l) (h2 : LiI w v2 l) (hl : l.length ≤ 1000) :
    Calls Tryz.prog 20 #[v1, v2] w fun e w' => e = .returned (.bool true) ∧ Below w.heap.size w w' := by
  by_cases h0 : l.length = 0
  · have hs : ∀ {v : Value}, LiI w v l → ∃ a c, v = .slice a 0 c := by
      rintro v (⟨⟨_, _, rfl⟩, _⟩ | ⟨g, o, c, rfl, _⟩)
      · exact ⟨_, _, rfl⟩
      · exact ⟨_, _, by rw [h0]⟩
    obtain ⟨a1, c1, e1⟩ := hs h1
    obtain ⟨a2, c2, e2⟩ := hs h2
    rw [e1, e2]
    exact equalI_nil a1 a2 c1 c2 w
  · rcases h1 with ⟨_, e0⟩ | ⟨g1, o1, c1, e1, _, _, d1⟩
    · rw [e0] at h0; exact (h0 rfl).elim
    · rcases h2 with ⟨_, e0⟩ | ⟨g2, o2, c2, e2, _, _, d2⟩
      · rw [e0] at h0; exact (h0 rfl).elim
      · subst e1 e2
        have := AnyE.slices_Equal Tryz.layEqI (Value.int .i64) (fun x y => x == y) (NeqAt.int _ _ .i64) g1 o1 l.length c1 g2 o2 l.length c2 l l w (Nat.le_refl _) (Nat.le_refl _) (by omega) (by omega) d1 d2
        rw [List.take_length, allEqI] at this
        exact this.mono fun _ _ ⟨he, q, hw⟩ => ⟨he, by rw [hw]; exact below_drewN' (Below.refl _ _) q⟩
end Go.Proofs.YtgpdojaehmdlpaaGreatDoor
