/- What value.holds and value.Holds do at every condition that lies in memory as a tree, said of every call. -/
import Derived.Test.YtfokdpddcgaafaaGreatDoorSL
namespace Go.Proofs.YtfokdpddcgaafaaGreatDoor.S
open Go.RowKit Go.Proofs
open Go.Sort (grow)

/-- What a condition comes to. -/
def evT (gk gn : ByteArray → Int) (gt : ByteArray → ByteArray) : CT → Int
  | .nil => 1
  | .node _ _ ⟨c, col, k, n, t⟩ l r => if c = 7 then b2i (gk col == 0) else if c = 8 then b2i (gk col != 0) else if c = 11 then notI (evT gk gn gt l) else if c = 9 then andI (evT gk gn gt l) (evT gk gn gt r) else if c = 10 then orJ (evT gk gn gt l) (evT gk gn gt r) else isV c (gk col) (gn col) (gt col) k n t
theorem b2i_range (b : Bool) : -1 ≤ b2i b ∧ b2i b ≤ 1 := by cases b <;> simp [b2i]
theorem isV_range (c k1 n1 : Int) (t1 : ByteArray) (k2 n2 : Int) (t2 : ByteArray) : -1 ≤ isV c k1 n1 t1 k2 n2 t2 ∧ isV c k1 n1 t1 k2 n2 t2 ≤ 1 := by
  unfold isV; split
  · omega
  · exact b2i_range _
theorem evT_range (gk gn : ByteArray → Int) (gt : ByteArray → ByteArray) : ∀ T : CT, -1 ≤ evT gk gn gt T ∧ evT gk gn gt T ≤ 1
  | .nil => by simp [evT]
  | .node a0 o0 ⟨c, col, k, n, t⟩ l r => by
    have hl := evT_range gk gn gt l
    have hr := evT_range gk gn gt r
    unfold evT
    split
    · exact b2i_range _
    split
    · exact b2i_range _
    split
    · unfold notI; split <;> omega
    split
    · unfold andI; split <;> omega
    split
    · unfold orJ; split <;> omega
    · exact isV_range _ _ _ _ _ _ _

theorem e7 {gk gn : ByteArray → Int} {gt : ByteArray → ByteArray} {c : Int} {col : ByteArray} {k n : Int} {t : ByteArray} {l r : CT} {a0 o0 : Nat} (h : c = 7) : b2i (gk col == 0) = evT gk gn gt (.node a0 o0 ⟨c, col, k, n, t⟩ l r) := by rw [evT, if_pos h]
theorem e8 {gk gn : ByteArray → Int} {gt : ByteArray → ByteArray} {c : Int} {col : ByteArray} {k n : Int} {t : ByteArray} {l r : CT} {a0 o0 : Nat} (h : c = 8) : b2i (gk col != 0) = evT gk gn gt (.node a0 o0 ⟨c, col, k, n, t⟩ l r) := by rw [evT, if_neg (by omega), if_pos h]
theorem e11 {gk gn : ByteArray → Int} {gt : ByteArray → ByteArray} {c : Int} {col : ByteArray} {k n : Int} {t : ByteArray} {l r : CT} {a0 o0 : Nat} (h : c = 11) : notI (evT gk gn gt l) = evT gk gn gt (.node a0 o0 ⟨c, col, k, n, t⟩ l r) := by rw [evT, if_neg (by omega), if_neg (by omega), if_pos h]
theorem e9 {gk gn : ByteArray → Int} {gt : ByteArray → ByteArray} {c : Int} {col : ByteArray} {k n : Int} {t : ByteArray} {l r : CT} {a0 o0 : Nat} (h : c = 9) : andI (evT gk gn gt l) (evT gk gn gt r) = evT gk gn gt (.node a0 o0 ⟨c, col, k, n, t⟩ l r) := by rw [evT, if_neg (by omega), if_neg (by omega), if_neg (by omega), if_pos h]
theorem e10 {gk gn : ByteArray → Int} {gt : ByteArray → ByteArray} {c : Int} {col : ByteArray} {k n : Int} {t : ByteArray} {l r : CT} {a0 o0 : Nat} (h : c = 10) : orJ (evT gk gn gt l) (evT gk gn gt r) = evT gk gn gt (.node a0 o0 ⟨c, col, k, n, t⟩ l r) := by rw [evT, if_neg (by omega), if_neg (by omega), if_neg (by omega), if_neg (by omega), if_pos h]
theorem e0 {gk gn : ByteArray → Int} {gt : ByteArray → ByteArray} {c : Int} {col : ByteArray} {k n : Int} {t : ByteArray} {l r : CT} {a0 o0 : Nat} (h : ¬ c = 7 ∧ ¬ c = 8 ∧ ¬ c = 11 ∧ ¬ c = 9 ∧ ¬ c = 10) : isV c (gk col) (gn col) (gt col) k n t = evT gk gn gt (.node a0 o0 ⟨c, col, k, n, t⟩ l r) := by
  rw [evT, if_neg (by omega), if_neg (by omega), if_neg (by omega), if_neg (by omega), if_neg (by omega)]

theorem fld (k n : Int) (t : ByteArray) (W : World) : (Instr.field 23 (.agg #[.int .i64 k, .int .i64 n, .string t]) 0).run Tryz.prog W = .ok (.int .i64 k) W := by kernel_rfl

set_option maxHeartbeats 1000000 in
theorem ends_any (T : CT) (v : Value) (w : World) (h : InC w T v) :
    Calls Tryz.prog 16 #[v] w fun e w' => e = .returned (.bool (withinT T 24)) ∧ w' = w := by
  have H1 := mkHid (within_any T v 24 w h (by omega) (by omega))
  clear h
  generalize withinT T 24 = b at *
  go_enter Tryz.func16, Tryz.ntmps16
  go_wp2_with fail
  refine H1.out.mono ?_; rintro e w1 ⟨rfl, rfl⟩
  go_wp2
  go_ret
  exact ⟨rfl, rfl⟩

end Go.Proofs.YtfokdpddcgaafaaGreatDoor.S
