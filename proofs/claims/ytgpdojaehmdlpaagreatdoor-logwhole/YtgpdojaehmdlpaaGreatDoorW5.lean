/- What schema.alike and schema.Right do, said of every call. -/
import Derived.Test.YtgpdojaehmdlpaaGreatDoorW4
import Derived.Lib.QuietBelow
namespace Go.Proofs.YtgpdojaehmdlpaaGreatDoor
open Go.RowKit Go.Proofs Go.Lib Go.Joins
open Go.Sort (grow)

def alikeB (x c : Col) : Bool := c.1 == x.1 || c.2.1.toList == x.2.1.toList

theorem alikeF_any (x : Col) (B : Nat) (w : World) (hB : B < w.heap.size) (h0 : w.cell? ⟨B, 0, none⟩ = some (.int .i64 x.1)) (h1 : w.cell? ⟨B, 1, none⟩ = some (.string x.2.1)) :
    PredBelow Tryz.prog 77 #[.pointer (some ⟨B, 0, none⟩)] (fun x : Col => .agg (encC x).toArray) (alikeB x) w := fun W c hb => by
  have h0' : W.cell? ⟨B, 0, none⟩ = some (.int .i64 x.1) := (hb.cell (p := ⟨B, 0, none⟩) hB).trans h0
  have h1' : W.cell? ⟨B, 1, none⟩ = some (.string x.2.1) := (hb.cell (p := ⟨B, 1, none⟩) hB).trans h1
  have hBW : B < W.heap.size := Nat.lt_of_lt_of_le hB hb.size
  have hne : B ≠ W.heap.size := by omega
  clear h0 h1
  obtain ⟨c1, c2, c3, c4, c5, c6, c7⟩ := c
  have HR : Hid (alikeB x (c1, c2, c3, c4, c5, c6, c7) = (c1 == x.1 || c2.toList == x.2.1.toList)) := rfl
  generalize alikeB x (c1, c2, c3, c4, c5, c6, c7) = r at *
  generalize x.1 = x1 at *
  generalize x.2.1 = x2 at *
  show Calls Tryz.prog 77 #[.agg #[.int .i64 c1, .string c2, .int .i64 c3, .bool c4, .int .i64 c5, .int .i64 c6, .string c7], .pointer (some ⟨B, 0, none⟩)] W _
  by_cases hq : c1 = x1
  · subst hq
    go_enter Tryz.func77, Tryz.ntmps77
    go_wp2
    all_goals (go_ret; exact ⟨ret_bool (by rw [HR.out]; simp), hb.alloc hb.size _⟩)
  · have hq' : (c1 == x1) = false := by simpa using hq
    go_enter Tryz.func77, Tryz.ntmps77
    go_wp2
    all_goals (go_ret; exact ⟨ret_bool (by rw [HR.out]; simp [hq']), hb.alloc hb.size _⟩)

set_option maxHeartbeats 1000000 in
theorem alike_any (g o c : Nat) (l : List Col) (x : Col) (w : World) (h : SlC w g o l) (hl : l.length ≤ 8) :
    Calls Tryz.prog 42 #[.slice (some ⟨g, o, none⟩) l.length c, .agg (encC x).toArray] w fun e w' => e = .returned (.bool (l.any (alikeB x))) ∧ Below w.heap.size w w' := by
  have eg : ∀ args w, (callFunc 77 args).run Tryz.prog w = .ok (.enter 77 args) w := enters_of Tryz.func77 (by kernel_rfl) rfl
  have h1 : SlC (w.alloc (.cells (encC x).toArray 80)) g o l := h.below ((Below.refl _ _).alloc (Nat.le_refl _) _)
  have hcon := AnyQ.slices_ContainsFunc Tryz.layCon 7 Tryz.isAgg80 Tryz.sizeOf80 encC encC_len (alikeB x) 77 #[.pointer (some ⟨w.heap.size, 0, none⟩)] eg g o l.length c l (w.alloc (.cells (encC x).toArray 80))
    (alikeF_any x w.heap.size _ (by simp) (by rw [World.cell?_alloc_at _ _ _ _ rfl]; rfl) (by rw [World.cell?_alloc_at _ _ _ _ rfl]; rfl)) (Nat.le_refl _) (by omega) h1.1 h1.2
  rw [List.take_length] at hcon
  change Calls Tryz.prog 76 _ _ (fun e w' => e = .returned (.bool (l.any (alikeB x))) ∧ _) at hcon
  clear h h1
  generalize l.any (alikeB x) = r at hcon ⊢
  obtain ⟨c1, c2, c3, c4, c5, c6, c7⟩ := x
  simp only [encC, List.toArray] at hcon ⊢
  go_enter Tryz.func42, Tryz.ntmps42
  go_wp2_with (go_at_call 76; refine hcon.mono ?_; rintro e w' ⟨rfl, hb'⟩)
  go_ret
  exact ⟨rfl, b1c hb'⟩
end Go.Proofs.YtgpdojaehmdlpaaGreatDoor
