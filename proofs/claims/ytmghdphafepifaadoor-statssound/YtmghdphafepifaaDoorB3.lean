/- What stats.mayColumn and stats.opposite do, said of every call; and the list of opposites as it lies. -/
import Derived.Test.YtmghdphafepifaaDoorB2
import Derived.Lib.LaidTab
import Derived.Lib.AppendIntMem
namespace Go.Proofs.YtmghdphafepifaaDoor
open Go.RowKit

def isB (c : Int) (a b : V) : Bool := isV c a.1 a.2.1 a.2.2 b.1 b.2.1 b.2.2 == 1
def mayCol (c : Int) (s : St) (v : V) : Bool :=
  if c = 7 then decide (0 < s.2.1) else if c = 8 then decide (s.2.1 < s.1) else if c = 1 then isB 4 s.2.2.1 v && isB 6 s.2.2.2 v else if c = 2 then isB 2 s.2.2.1 v || isB 2 s.2.2.2 v else if c = 3 ∨ c = 4 then isB c s.2.2.1 v else if c = 5 ∨ c = 6 then isB c s.2.2.2 v else false
theorem isb_any (c k1 n1 k2 n2 : Int) (t1 t2 : ByteArray) (w : World) :
    Calls Tryd.prog 62 #[.int .i64 c, .agg #[.int .i64 k1, .int .i64 n1, .string t1], .agg #[.int .i64 k2, .int .i64 n2, .string t2]] w fun e w' => e = .returned (.bool (isB c (k1, n1, t1) (k2, n2, t2))) ∧ Below w.heap.size w w' := sis_any c k1 n1 k2 n2 t1 t2 w
theorem ret_b {a b : Bool} (h : a = b) : Ending.returned (.bool a) = .returned (.bool b) := by rw [h]
theorem below_a2 (w : World) (X Y : Obj) : Below w.heap.size w ((w.alloc X).alloc Y) := ((Below.refl _ _).alloc (Nat.le_refl _) _).alloc (by simp) _
theorem below_a2c {w W : World} {X Y : Obj} (hb : Below ((w.alloc X).alloc Y).heap.size ((w.alloc X).alloc Y) W) : Below w.heap.size w W := Below.ups (below_a2 w X Y) hb

set_option maxHeartbeats 4000000 in
theorem mayColumn_any (c c1 m1 k1 n1 : Int) (t1 : ByteArray) (p1 q1 : Int) (u1 : ByteArray) (k n : Int) (t : ByteArray) (w : World) :
    Calls Tryd.prog 52 #[.int .i64 c, .agg #[.int .i64 c1, .int .i64 m1, .int .i64 k1, .int .i64 n1, .string t1, .int .i64 p1, .int .i64 q1, .string u1], .agg #[.int .i64 k, .int .i64 n, .string t]] w
      fun e w' => e = .returned (.bool (mayCol c (c1, m1, (k1, n1, t1), (p1, q1, u1)) (k, n, t))) ∧ Below w.heap.size w w' := by
  have HM : Hid (mayCol c (c1, m1, (k1, n1, t1), (p1, q1, u1)) (k, n, t) = if c = 7 then decide (0 < m1) else if c = 8 then decide (m1 < c1) else if c = 1 then isB 4 (k1, n1, t1) (k, n, t) && isB 6 (p1, q1, u1) (k, n, t) else if c = 2 then isB 2 (k1, n1, t1) (k, n, t) || isB 2 (p1, q1, u1) (k, n, t) else if c = 3 ∨ c = 4 then isB c (k1, n1, t1) (k, n, t) else if c = 5 ∨ c = 6 then isB c (p1, q1, u1) (k, n, t) else false) := rfl
  generalize mayCol c (c1, m1, (k1, n1, t1), (p1, q1, u1)) (k, n, t) = r at *
  by_cases h7 : c = 7
  · subst h7
    have HR : Hid (decide (0 < m1) = r) := mkH (by rw [HM.out, if_pos rfl])
    clear HM
    go_enter Tryd.func52, Tryd.ntmps52
    go_wp2
    go_ret
    exact ⟨ret_b HR.out, below_a2 _ _ _⟩
  by_cases h8 : c = 8
  · subst h8
    have HR : Hid (decide (m1 < c1) = r) := mkH (by rw [HM.out, if_neg (by omega), if_pos rfl])
    clear HM h7
    go_enter Tryd.func52, Tryd.ntmps52
    go_wp2
    go_ret
    exact ⟨ret_b HR.out, below_a2 _ _ _⟩
  by_cases h1 : c = 1
  · subst h1
    have HR : Hid ((isB 4 (k1, n1, t1) (k, n, t) && isB 6 (p1, q1, u1) (k, n, t)) = r) := mkH (by rw [HM.out, if_neg (by omega), if_neg (by omega), if_pos rfl])
    clear HM h7 h8
    have H4 := mkH (isb_any 4 k1 n1 k n t1 t)
    have H6 := mkH (isb_any 6 p1 q1 k n u1 t)
    generalize isB 4 (k1, n1, t1) (k, n, t) = x at *
    generalize isB 6 (p1, q1, u1) (k, n, t) = y at *
    cases x
    · go_enter Tryd.func52, Tryd.ntmps52
      go_wp2_with fail
      refine (H4.out _).mono ?_; rintro e w1 ⟨rfl, hb1⟩
      go_wp2
      go_ret
      exact ⟨ret_b HR.out, below_a2c hb1⟩
    · go_enter Tryd.func52, Tryd.ntmps52
      go_wp2_with fail
      refine (H4.out _).mono ?_; rintro e w1 ⟨rfl, hb1⟩
      obtain ⟨hc, hf⟩ := bcell hb1
      have hz : w.heap.size < w.heap.size + 1 + 1 := by omega
      go_wp2_with fail
      refine (H6.out _).mono ?_; rintro e w2 ⟨rfl, hb2⟩
      go_wp2
      go_ret
      exact ⟨ret_b HR.out, Below.ups (below_a2c hb1) hb2⟩
  by_cases h2 : c = 2
  · subst h2
    have HR : Hid ((isB 2 (k1, n1, t1) (k, n, t) || isB 2 (p1, q1, u1) (k, n, t)) = r) := mkH (by rw [HM.out, if_neg (by omega), if_neg (by omega), if_neg (by omega), if_pos rfl])
    clear HM h7 h8 h1
    have H4 := mkH (isb_any 2 k1 n1 k n t1 t)
    have H6 := mkH (isb_any 2 p1 q1 k n u1 t)
    generalize isB 2 (k1, n1, t1) (k, n, t) = x at *
    generalize isB 2 (p1, q1, u1) (k, n, t) = y at *
    cases x
    · go_enter Tryd.func52, Tryd.ntmps52
      go_wp2_with fail
      refine (H4.out _).mono ?_; rintro e w1 ⟨rfl, hb1⟩
      obtain ⟨hc, hf⟩ := bcell hb1
      have hz : w.heap.size < w.heap.size + 1 + 1 := by omega
      go_wp2_with fail
      refine (H6.out _).mono ?_; rintro e w2 ⟨rfl, hb2⟩
      go_wp2
      go_ret
      exact ⟨ret_b HR.out, Below.ups (below_a2c hb1) hb2⟩
    · go_enter Tryd.func52, Tryd.ntmps52
      go_wp2_with fail
      refine (H4.out _).mono ?_; rintro e w1 ⟨rfl, hb1⟩
      go_wp2
      go_ret
      exact ⟨ret_b HR.out, below_a2c hb1⟩
  by_cases h34 : c = 3 ∨ c = 4
  · have HR : Hid (isB c (k1, n1, t1) (k, n, t) = r) := mkH (by rw [HM.out, if_neg h7, if_neg h8, if_neg h1, if_neg h2, if_pos h34])
    clear HM h7 h8 h1 h2
    have H4 := mkH (isb_any c k1 n1 k n t1 t)
    generalize isB c (k1, n1, t1) (k, n, t) = x at *
    rcases h34 with rfl | rfl
    all_goals
      go_enter Tryd.func52, Tryd.ntmps52
      go_wp2_with fail
      refine (H4.out _).mono ?_; rintro e w1 ⟨rfl, hb1⟩
      go_wp2
      go_ret
      exact ⟨ret_b HR.out, below_a2c hb1⟩
  by_cases h56 : c = 5 ∨ c = 6
  · have HR : Hid (isB c (p1, q1, u1) (k, n, t) = r) := mkH (by rw [HM.out, if_neg h7, if_neg h8, if_neg h1, if_neg h2, if_neg h34, if_pos h56])
    clear HM h7 h8 h1 h2 h34
    have H4 := mkH (isb_any c p1 q1 k n u1 t)
    generalize isB c (p1, q1, u1) (k, n, t) = x at *
    rcases h56 with rfl | rfl
    all_goals
      go_enter Tryd.func52, Tryd.ntmps52
      go_wp2_with fail
      refine (H4.out _).mono ?_; rintro e w1 ⟨rfl, hb1⟩
      go_wp2
      go_ret
      exact ⟨ret_b HR.out, below_a2c hb1⟩
  · have HR : Hid (false = r) := mkH (by rw [HM.out, if_neg h7, if_neg h8, if_neg h1, if_neg h2, if_neg h34, if_neg h56])
    clear HM
    have b7 : (c == 7) = false := by simpa using h7
    have b8 : (c == 8) = false := by simpa using h8
    have b1 : (c == 1) = false := by simpa using h1
    have b2 : (c == 2) = false := by simpa using h2
    have b3 : (c == 3) = false := by simp; omega
    have b4 : (c == 4) = false := by simp; omega
    have b5 : (c == 5) = false := by simp; omega
    have b6 : (c == 6) = false := by simp; omega
    clear h7 h8 h1 h2 h34 h56
    go_enter Tryd.func52, Tryd.ntmps52
    go_wp2
    go_ret
    exact ⟨ret_b HR.out, below_a2 _ _ _⟩

/-- The list of opposites. -/
def oppTab : List Int := [0, 2, 1, 6, 5, 4, 3, 8, 7]
def OppB (w : World) : Prop := Lib.TabIs Tryd.prog w "millpond/stats.opposites" .i64 oppTab
theorem gOpp : Tryd.prog.globalNamed "millpond/stats.opposites" = some 1 := by kernel_rfl
theorem OppB.below {w W : World} (h : OppB w) (hb : Below w.heap.size w W) : OppB W := Lib.tabBelow_of_tabIs h W hb
def opp (c : Int) : Int := if c = 1 then 2 else if c = 2 then 1 else if c = 3 then 6 else if c = 4 then 5 else if c = 5 then 4 else if c = 6 then 3 else if c = 7 then 8 else if c = 8 then 7 else 0

set_option maxHeartbeats 4000000 in
theorem opposite_any (c : Int) (w : World) (hw : OppB w) :
    Calls Tryd.prog 61 #[.int .i64 c] w fun e w' => e = .returned (.int .i64 (opp c)) ∧ w' = w := by
  by_cases h0 : c < 0
  · have HR : Hid (0 = opp c) := mkH (by unfold opp; simp only [show ¬ c = 1 by omega, show ¬ c = 2 by omega, show ¬ c = 3 by omega, show ¬ c = 4 by omega, show ¬ c = 5 by omega, show ¬ c = 6 by omega, show ¬ c = 7 by omega, show ¬ c = 8 by omega, if_false])
    clear hw
    go_enter Tryd.func61, Tryd.ntmps61
    go_wp2
    go_ret
    exact ⟨ret_int HR.out, rfl⟩
  by_cases h9 : 9 ≤ c
  · have HR : Hid (0 = opp c) := mkH (by unfold opp; simp only [show ¬ c = 1 by omega, show ¬ c = 2 by omega, show ¬ c = 3 by omega, show ¬ c = 4 by omega, show ¬ c = 5 by omega, show ¬ c = 6 by omega, show ¬ c = 7 by omega, show ¬ c = 8 by omega, if_false])
    clear hw
    go_enter Tryd.func61, Tryd.ntmps61
    go_wp2
    go_ret
    exact ⟨ret_int HR.out, rfl⟩
  rcases (show c = 0 ∨ c = 1 ∨ c = 2 ∨ c = 3 ∨ c = 4 ∨ c = 5 ∨ c = 6 ∨ c = 7 ∨ c = 8 by omega) with rfl | rfl | rfl | rfl | rfl | rfl | rfl | rfl | rfl
  · have hc : w.cell? ⟨1, 0, none⟩ = some (.int .i64 0) := hw.cell gOpp 0 (by decide)
    clear hw h0 h9
    go_enter Tryd.func61, Tryd.ntmps61
    go_wp2
    go_ret
    exact ⟨ret_int (by decide), rfl⟩
  · have hc : w.cell? ⟨1, 1, none⟩ = some (.int .i64 2) := hw.cell gOpp 1 (by decide)
    clear hw h0 h9
    go_enter Tryd.func61, Tryd.ntmps61
    go_wp2
    go_ret
    exact ⟨ret_int (by decide), rfl⟩
  · have hc : w.cell? ⟨1, 2, none⟩ = some (.int .i64 1) := hw.cell gOpp 2 (by decide)
    clear hw h0 h9
    go_enter Tryd.func61, Tryd.ntmps61
    go_wp2
    go_ret
    exact ⟨ret_int (by decide), rfl⟩
  · have hc : w.cell? ⟨1, 3, none⟩ = some (.int .i64 6) := hw.cell gOpp 3 (by decide)
    clear hw h0 h9
    go_enter Tryd.func61, Tryd.ntmps61
    go_wp2
    go_ret
    exact ⟨ret_int (by decide), rfl⟩
  · have hc : w.cell? ⟨1, 4, none⟩ = some (.int .i64 5) := hw.cell gOpp 4 (by decide)
    clear hw h0 h9
    go_enter Tryd.func61, Tryd.ntmps61
    go_wp2
    go_ret
    exact ⟨ret_int (by decide), rfl⟩
  · have hc : w.cell? ⟨1, 5, none⟩ = some (.int .i64 4) := hw.cell gOpp 5 (by decide)
    clear hw h0 h9
    go_enter Tryd.func61, Tryd.ntmps61
    go_wp2
    go_ret
    exact ⟨ret_int (by decide), rfl⟩
  · have hc : w.cell? ⟨1, 6, none⟩ = some (.int .i64 3) := hw.cell gOpp 6 (by decide)
    clear hw h0 h9
    go_enter Tryd.func61, Tryd.ntmps61
    go_wp2
    go_ret
    exact ⟨ret_int (by decide), rfl⟩
  · have hc : w.cell? ⟨1, 7, none⟩ = some (.int .i64 8) := hw.cell gOpp 7 (by decide)
    clear hw h0 h9
    go_enter Tryd.func61, Tryd.ntmps61
    go_wp2
    go_ret
    exact ⟨ret_int (by decide), rfl⟩
  · have hc : w.cell? ⟨1, 8, none⟩ = some (.int .i64 7) := hw.cell gOpp 8 (by decide)
    clear hw h0 h9
    go_enter Tryd.func61, Tryd.ntmps61
    go_wp2
    go_ret
    exact ⟨ret_int (by decide), rfl⟩
end Go.Proofs.YtmghdphafepifaaDoor
