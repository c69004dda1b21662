/- plain.Place, millpondref.Bare, millpondlaw.is and bare at an error that a bucket tells; millpondlaw.sameTexts; millpondref.in. -/
import Derived.Test.YtinpapenpinhdaaDoorW4
namespace Go.Proofs.YtinpapenpinhdaaDoor
open Go.RowKit Go.Maps Go.Sort Go.Shelf Go.Lib Go.Stop

theorem noAt (v : Value) (xT : TypeId) (w : World) : (Instr.typeAssert (.iface 35 v) xT 97 true).run Tryd.prog w = .ok (.tuple #[.pointer none, .bool false]) w := by kernel_rfl
theorem noUnwrap (v : Value) (xT : TypeId) (w : World) : (Instr.typeAssert (.iface 35 v) xT 100 true).run Tryd.prog w = .ok (.tuple #[.nilIface, .bool false]) w := run_typeAssert_lacksB Tryd.underlying100 (by kernel_rfl) (by kernel_rfl) v xT w

set_option maxRecDepth 100000 in
theorem place_any (x : Int) (w : World) (hg : EtB w) : Calls Tryd.prog 32 #[errV x] w fun e w' => e = .returned (.tuple #[.int .i64 x, .int .i64 (-1)]) ∧ Below w.heap.size w w' := by
  have HT : Hid (Calls Tryd.prog 16 #[errV x] w fun e w' => e = .returned (.int .i64 x) ∧ Below w.heap.size w w') := tell_err x w hg
  have n1 := noAt
  have n2 := noUnwrap
  unfold errV at HT ⊢
  split at HT
  · rename_i h
    subst h
    simp only [if_true]
    go_enter Tryd.func32, Tryd.ntmps32
    go_wp2_with (first
      | (go_at_call 16; refine HT.out.mono ?_; rintro e w1 ⟨rfl, hb1⟩))
    refine wp_loop_rounds 1 ?_
    rw [rounds_succ]
    go_wp2
    go_ret2
    exact ⟨rfl, hb1⟩
  · rename_i h
    simp only [h, if_false]
    go_enter Tryd.func32, Tryd.ntmps32
    go_wp2_with (first
      | (go_at_call 16; refine HT.out.mono ?_; rintro e w1 ⟨rfl, hb1⟩))
    refine wp_loop_rounds 1 ?_
    rw [rounds_succ]
    go_wp2
    go_ret2
    exact ⟨rfl, hb1⟩

theorem bareF_any (x : Int) (w : World) : Calls Tryd.prog 18 #[.int .i64 x] w fun e w' => e = .returned (.agg #[.int .i64 x, .int .i64 (-1)]) ∧ Below w.heap.size w w' := by
  go_enter Tryd.func18, Tryd.ntmps18
  go_wp2
  refine bodyPost_ret (v := .agg #[.int .i64 x, .int .i64 (-1)]) (by simp [results, Tryd.results18, go_sem]) rfl ⟨rfl, ?_⟩
  first
    | exact (Below.refl _ w).alloc (Nat.le_refl _) _
    | exact (((Below.refl _ w).alloc (Nat.le_refl _) _).setCell (Nat.le_refl _) _).setCell (Nat.le_refl _) _
set_option maxRecDepth 100000 in
theorem is_any (x : Int) (w : World) (hg : EtB w) : Calls Tryd.prog 17 #[errV x, .agg #[.int .i64 x, .int .i64 (-1)]] w fun e w' => e = .returned (.bool true) ∧ Below w.heap.size w w' := by
  have HP : Hid (∀ o, Calls Tryd.prog 32 #[errV x] (w.alloc o) fun e w' => e = .returned (.tuple #[.int .i64 x, .int .i64 (-1)]) ∧ Below (w.alloc o).heap.size (w.alloc o) w') := fun o => place_any x _ (hg.below ((Below.refl _ _).alloc (Nat.le_refl _) _))
  have HB : Hid (∀ o w1, Below (w.alloc o).heap.size (w.alloc o) w1 → Below w.heap.size w w1) := fun o w1 hb => ((Below.refl _ w).alloc (Nat.le_refl _) o).trans (hb.mono (by simp))
  clear hg
  go_enter Tryd.func17, Tryd.ntmps17
  go_wp2_with (first
    | (go_at_call 32; refine (HP.out _).mono ?_; rintro e w1 ⟨rfl, hb1⟩; have c0 : w1.cell? ⟨w.heap.size, 0, none⟩ = some (.int .i64 x) := (hb1.cell (p := ⟨w.heap.size, 0, none⟩) (by simp)).trans (by simp); have c1 : w1.cell? ⟨w.heap.size, 1, none⟩ = some (.int .i64 (-1)) := (hb1.cell (p := ⟨w.heap.size, 1, none⟩) (by simp)).trans (by simp)))
  go_ret
  exact ⟨rfl, HB.out _ _ hb1⟩
theorem bare_any (x : Int) (w : World) (hg : EtB w) : Calls Tryd.prog 6 #[errV x, .int .i64 x] w fun e w' => e = .returned (.bool true) ∧ Below w.heap.size w w' := by
  have HI : Hid (∀ w1, Below w.heap.size w w1 → Calls Tryd.prog 17 #[errV x, .agg #[.int .i64 x, .int .i64 (-1)]] w1 fun e w' => e = .returned (.bool true) ∧ Below w.heap.size w w') := fun w1 hb => (is_any x w1 (hg.below hb)).mono fun _ _ ⟨he, hb'⟩ => ⟨he, Below.ups hb hb'⟩
  clear hg
  go_enter Tryd.func6, Tryd.ntmps6
  go_wp2_with (first
    | (go_at_call 18; refine (bareF_any _ _).mono ?_; rintro e w1 ⟨rfl, hb1⟩)
    | (go_at_call 17; refine (HI.out _ hb1).mono ?_; rintro e w2 ⟨rfl, hb2⟩))
  go_ret
  exact ⟨rfl, hb2⟩
end Go.Proofs.YtinpapenpinhdaaDoor
