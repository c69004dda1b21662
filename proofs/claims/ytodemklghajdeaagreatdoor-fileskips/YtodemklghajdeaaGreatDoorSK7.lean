/- Plain facts of trees that lie in memory and of a stack of them: how deep they are, and that they lie on when something else grows. -/
import Derived.Test.YtodemklghajdeaaGreatDoorSB4
import Derived.Lib.LaidTab
import Derived.Lib.AppendIntMem
import Derived.Lib.QuietBelow
import Derived.BigQuiet
import Derived.Deep.RegionWith
import Derived.Defers
import Derived.Recover
import Derived.Deep.Trees
import Derived.Deep.AppendLies
import Derived.Deep.RegionLawGrows
import Derived.Deep.RegionHeld3
namespace Go.Proofs.YtodemklghajdeaaGreatDoor.S
open Go.RowKit

def isB (c : Int) (a b : V) : Bool := isV c a.1 a.2.1 a.2.2 b.1 b.2.1 b.2.2 == 1
def mayCol (c : Int) (s : St) (v : V) : Bool :=
  if c = 7 then decide (0 < s.2.1) else if c = 8 then decide (s.2.1 < s.1) else if c = 1 then isB 4 s.2.2.1 v && isB 6 s.2.2.2 v else if c = 2 then isB 2 s.2.2.1 v || isB 2 s.2.2.2 v else if c = 3 ∨ c = 4 then isB c s.2.2.1 v else if c = 5 ∨ c = 6 then isB c s.2.2.2 v else false
theorem isb_any (c k1 n1 k2 n2 : Int) (t1 t2 : ByteArray) (w : World) :
    Calls Tryz.prog 132 #[.int .i64 c, .agg #[.int .i64 k1, .int .i64 n1, .string t1], .agg #[.int .i64 k2, .int .i64 n2, .string t2]] w fun e w' => e = .returned (.bool (isB c (k1, n1, t1) (k2, n2, t2))) ∧ Below w.heap.size w w' := sis_any c k1 n1 k2 n2 t1 t2 w
theorem ret_b {a b : Bool} (h : a = b) : Ending.returned (.bool a) = .returned (.bool b) := by rw [h]
theorem below_a2c {w W : World} {X Y : Obj} (hb : Below ((w.alloc X).alloc Y).heap.size ((w.alloc X).alloc Y) W) : Below w.heap.size w W := Below.ups (below_a2 w X Y) hb

set_option maxHeartbeats 4000000 in
theorem mayColumn_any (c c1 m1 k1 n1 : Int) (t1 : ByteArray) (p1 q1 : Int) (u1 : ByteArray) (k n : Int) (t : ByteArray) (w : World) :
    Calls Tryz.prog 111 #[.int .i64 c, .agg #[.int .i64 c1, .int .i64 m1, .int .i64 k1, .int .i64 n1, .string t1, .int .i64 p1, .int .i64 q1, .string u1], .agg #[.int .i64 k, .int .i64 n, .string t]] w
      fun e w' => e = .returned (.bool (mayCol c (c1, m1, (k1, n1, t1), (p1, q1, u1)) (k, n, t))) ∧ Below w.heap.size w w' := by
  have HM : Hid (mayCol c (c1, m1, (k1, n1, t1), (p1, q1, u1)) (k, n, t) = if c = 7 then decide (0 < m1) else if c = 8 then decide (m1 < c1) else if c = 1 then isB 4 (k1, n1, t1) (k, n, t) && isB 6 (p1, q1, u1) (k, n, t) else if c = 2 then isB 2 (k1, n1, t1) (k, n, t) || isB 2 (p1, q1, u1) (k, n, t) else if c = 3 ∨ c = 4 then isB c (k1, n1, t1) (k, n, t) else if c = 5 ∨ c = 6 then isB c (p1, q1, u1) (k, n, t) else false) := rfl
  generalize mayCol c (c1, m1, (k1, n1, t1), (p1, q1, u1)) (k, n, t) = r at *
  by_cases h7 : c = 7
  · subst h7
    have HR : Hid (decide (0 < m1) = r) := mkH (by rw [HM.out, if_pos rfl])
    clear HM
    go_enter Tryz.func111, Tryz.ntmps111
    go_wp2
    go_ret
    exact ⟨ret_b HR.out, below_a2 _ _ _⟩
  by_cases h8 : c = 8
  · subst h8
    have HR : Hid (decide (m1 < c1) = r) := mkH (by rw [HM.out, if_neg (by omega), if_pos rfl])
    clear HM h7
    go_enter Tryz.func111, Tryz.ntmps111
    go_wp2
    go_ret
    exact ⟨ret_b HR.out, below_a2 _ _ _⟩
  by_cases h1 : c = 1
  · subst h1
    have HR : Hid ((isB 4 (k1, n1, t1) (k, n, t) && isB 6 (p1, q1, u1) (k, n, t)) = r) := mkH (by rw [HM.out, if_neg (by omega), if_neg (by omega), if_pos rfl])
    clear HM h7 h8
    have H4 := mkH (isb_any 4 k1 n1 k n t1 t)
    have H6 := mkH (isb_any 6 p1 q1 k n u1 t)
    generalize isB 4 (k1, n1, t1) (k, n, t) = x at *
    generalize isB 6 (p1, q1, u1) (k, n, t) = y at *
    cases x
    · go_enter Tryz.func111, Tryz.ntmps111
      go_wp2_with fail
      refine (H4.out _).mono ?_; rintro e w1 ⟨rfl, hb1⟩
      go_wp2
      go_ret
      exact ⟨ret_b HR.out, below_a2c hb1⟩
    · go_enter Tryz.func111, Tryz.ntmps111
      go_wp2_with fail
      refine (H4.out _).mono ?_; rintro e w1 ⟨rfl, hb1⟩
      obtain ⟨hc, hf⟩ := bcell hb1
      have hz : w.heap.size < w.heap.size + 1 + 1 := by omega
      go_wp2_with fail
      refine (H6.out _).mono ?_; rintro e w2 ⟨rfl, hb2⟩
      go_wp2
      go_ret
      exact ⟨ret_b HR.out, Below.ups (below_a2c hb1) hb2⟩
  by_cases h2 : c = 2
  · subst h2
    have HR : Hid ((isB 2 (k1, n1, t1) (k, n, t) || isB 2 (p1, q1, u1) (k, n, t)) = r) := mkH (by rw [HM.out, if_neg (by omega), if_neg (by omega), if_neg (by omega), if_pos rfl])
    clear HM h7 h8 h1
    have H4 := mkH (isb_any 2 k1 n1 k n t1 t)
    have H6 := mkH (isb_any 2 p1 q1 k n u1 t)
    generalize isB 2 (k1, n1, t1) (k, n, t) = x at *
    generalize isB 2 (p1, q1, u1) (k, n, t) = y at *
    cases x
    · go_enter Tryz.func111, Tryz.ntmps111
      go_wp2_with fail
      refine (H4.out _).mono ?_; rintro e w1 ⟨rfl, hb1⟩
      obtain ⟨hc, hf⟩ := bcell hb1
      have hz : w.heap.size < w.heap.size + 1 + 1 := by omega
      go_wp2_with fail
      refine (H6.out _).mono ?_; rintro e w2 ⟨rfl, hb2⟩
      go_wp2
      go_ret
      exact ⟨ret_b HR.out, Below.ups (below_a2c hb1) hb2⟩
    · go_enter Tryz.func111, Tryz.ntmps111
      go_wp2_with fail
      refine (H4.out _).mono ?_; rintro e w1 ⟨rfl, hb1⟩
      go_wp2
      go_ret
      exact ⟨ret_b HR.out, below_a2c hb1⟩
  by_cases h34 : c = 3 ∨ c = 4
  · have HR : Hid (isB c (k1, n1, t1) (k, n, t) = r) := mkH (by rw [HM.out, if_neg h7, if_neg h8, if_neg h1, if_neg h2, if_pos h34])
    clear HM h7 h8 h1 h2
    have H4 := mkH (isb_any c k1 n1 k n t1 t)
    generalize isB c (k1, n1, t1) (k, n, t) = x at *
    rcases h34 with rfl | rfl
    all_goals
      go_enter Tryz.func111, Tryz.ntmps111
      go_wp2_with fail
      refine (H4.out _).mono ?_; rintro e w1 ⟨rfl, hb1⟩
      go_wp2
      go_ret
      exact ⟨ret_b HR.out, below_a2c hb1⟩
  by_cases h56 : c = 5 ∨ c = 6
  · have HR : Hid (isB c (p1, q1, u1) (k, n, t) = r) := mkH (by rw [HM.out, if_neg h7, if_neg h8, if_neg h1, if_neg h2, if_neg h34, if_pos h56])
    clear HM h7 h8 h1 h2 h34
    have H4 := mkH (isb_any c p1 q1 k n u1 t)
    generalize isB c (p1, q1, u1) (k, n, t) = x at *
    rcases h56 with rfl | rfl
    all_goals
      go_enter Tryz.func111, Tryz.ntmps111
      go_wp2_with fail
      refine (H4.out _).mono ?_; rintro e w1 ⟨rfl, hb1⟩
      go_wp2
      go_ret
      exact ⟨ret_b HR.out, below_a2c hb1⟩
  · have HR : Hid (false = r) := mkH (by rw [HM.out, if_neg h7, if_neg h8, if_neg h1, if_neg h2, if_neg h34, if_neg h56])
    clear HM
    have b7 : (c == 7) = false := by simpa using h7
    have b8 : (c == 8) = false := by simpa using h8
    have b1 : (c == 1) = false := by simpa using h1
    have b2 : (c == 2) = false := by simpa using h2
    have b3 : (c == 3) = false := by simp; omega
    have b4 : (c == 4) = false := by simp; omega
    have b5 : (c == 5) = false := by simp; omega
    have b6 : (c == 6) = false := by simp; omega
    clear h7 h8 h1 h2 h34 h56
    go_enter Tryz.func111, Tryz.ntmps111
    go_wp2
    go_ret
    exact ⟨ret_b HR.out, below_a2 _ _ _⟩

/-- The list of opposites. -/
def oppTab : List Int := [0, 2, 1, 6, 5, 4, 3, 8, 7]
def OppB (w : World) : Prop := Lib.TabIs Tryz.prog w "millpond/stats.opposites" .i64 oppTab
theorem gOpp : Tryz.prog.globalNamed "millpond/stats.opposites" = some 2 := by kernel_rfl
theorem OppB.below {w W : World} (h : OppB w) (hb : Below w.heap.size w W) : OppB W := Lib.tabBelow_of_tabIs h W hb
def opp (c : Int) : Int := if c = 1 then 2 else if c = 2 then 1 else if c = 3 then 6 else if c = 4 then 5 else if c = 5 then 4 else if c = 6 then 3 else if c = 7 then 8 else if c = 8 then 7 else 0

set_option maxHeartbeats 4000000 in
theorem opposite_any (c : Int) (w : World) (hw : OppB w) :
    Calls Tryz.prog 131 #[.int .i64 c] w fun e w' => e = .returned (.int .i64 (opp c)) ∧ w' = w := by
  by_cases h0 : c < 0
  · have HR : Hid (0 = opp c) := mkH (by unfold opp; simp only [show ¬ c = 1 by omega, show ¬ c = 2 by omega, show ¬ c = 3 by omega, show ¬ c = 4 by omega, show ¬ c = 5 by omega, show ¬ c = 6 by omega, show ¬ c = 7 by omega, show ¬ c = 8 by omega, if_false])
    clear hw
    go_enter Tryz.func131, Tryz.ntmps131
    go_wp2
    go_ret
    exact ⟨ret_int HR.out, rfl⟩
  by_cases h9 : 9 ≤ c
  · have HR : Hid (0 = opp c) := mkH (by unfold opp; simp only [show ¬ c = 1 by omega, show ¬ c = 2 by omega, show ¬ c = 3 by omega, show ¬ c = 4 by omega, show ¬ c = 5 by omega, show ¬ c = 6 by omega, show ¬ c = 7 by omega, show ¬ c = 8 by omega, if_false])
    clear hw
    go_enter Tryz.func131, Tryz.ntmps131
    go_wp2
    go_ret
    exact ⟨ret_int HR.out, rfl⟩
  rcases (show c = 0 ∨ c = 1 ∨ c = 2 ∨ c = 3 ∨ c = 4 ∨ c = 5 ∨ c = 6 ∨ c = 7 ∨ c = 8 by omega) with rfl | rfl | rfl | rfl | rfl | rfl | rfl | rfl | rfl
  · have hc : w.cell? ⟨2, 0, none⟩ = some (.int .i64 0) := hw.cell gOpp 0 (by decide)
    clear hw h0 h9
    go_enter Tryz.func131, Tryz.ntmps131
    go_wp2
    go_ret
    exact ⟨ret_int (by decide), rfl⟩
  · have hc : w.cell? ⟨2, 1, none⟩ = some (.int .i64 2) := hw.cell gOpp 1 (by decide)
    clear hw h0 h9
    go_enter Tryz.func131, Tryz.ntmps131
    go_wp2
    go_ret
    exact ⟨ret_int (by decide), rfl⟩
  · have hc : w.cell? ⟨2, 2, none⟩ = some (.int .i64 1) := hw.cell gOpp 2 (by decide)
    clear hw h0 h9
    go_enter Tryz.func131, Tryz.ntmps131
    go_wp2
    go_ret
    exact ⟨ret_int (by decide), rfl⟩
  · have hc : w.cell? ⟨2, 3, none⟩ = some (.int .i64 6) := hw.cell gOpp 3 (by decide)
    clear hw h0 h9
    go_enter Tryz.func131, Tryz.ntmps131
    go_wp2
    go_ret
    exact ⟨ret_int (by decide), rfl⟩
  · have hc : w.cell? ⟨2, 4, none⟩ = some (.int .i64 5) := hw.cell gOpp 4 (by decide)
    clear hw h0 h9
    go_enter Tryz.func131, Tryz.ntmps131
    go_wp2
    go_ret
    exact ⟨ret_int (by decide), rfl⟩
  · have hc : w.cell? ⟨2, 5, none⟩ = some (.int .i64 4) := hw.cell gOpp 5 (by decide)
    clear hw h0 h9
    go_enter Tryz.func131, Tryz.ntmps131
    go_wp2
    go_ret
    exact ⟨ret_int (by decide), rfl⟩
  · have hc : w.cell? ⟨2, 6, none⟩ = some (.int .i64 3) := hw.cell gOpp 6 (by decide)
    clear hw h0 h9
    go_enter Tryz.func131, Tryz.ntmps131
    go_wp2
    go_ret
    exact ⟨ret_int (by decide), rfl⟩
  · have hc : w.cell? ⟨2, 7, none⟩ = some (.int .i64 8) := hw.cell gOpp 7 (by decide)
    clear hw h0 h9
    go_enter Tryz.func131, Tryz.ntmps131
    go_wp2
    go_ret
    exact ⟨ret_int (by decide), rfl⟩
  · have hc : w.cell? ⟨2, 8, none⟩ = some (.int .i64 7) := hw.cell gOpp 8 (by decide)
    clear hw h0 h9
    go_enter Tryz.func131, Tryz.ntmps131
    go_wp2
    go_ret
    exact ⟨ret_int (by decide), rfl⟩
end Go.Proofs.YtodemklghajdeaaGreatDoor.S

namespace Go.Proofs.YtodemklghajdeaaGreatDoor.S
open Go.RowKit Go.Proofs
open Go.Sort (grow)

theorem mkHid {p : Prop} (h : p) : Hid p := h
theorem nt {b : Bool} (h : (!b) = true) : b = false := by simpa using h
theorem nf {b : Bool} (h : (!b) = false) : b = true := by simpa using h
theorem Below.up {a b c : World} (h : Below a.heap.size a b) (k : Below b.heap.size b c) : Below a.heap.size a c := h.trans (k.mono h.size)
def notI (n : Int) : Int := if n = -1 then -1 else 1 - n
def andI (a b : Int) : Int := if a = 0 ∨ b = 0 then 0 else min a b
def orJ (a b : Int) : Int := if a = 1 ∨ b = 1 then 1 else min a b
theorem nj1 {n : Int} (h : (n == -1) = true) : -1 = notI n := by simp at h; simp [notI, h]
theorem nj2 {n : Int} (h : (n == -1) = false) : 1 - n = notI n := by simp at h; simp [notI, h]

set_option maxHeartbeats 1000000 in
theorem not_any (n : Int) (h1 : -1 ≤ n) (h2 : n ≤ 1) (w : World) :
    Calls Tryz.prog 81 #[.int .i64 n] w fun e w' => e = .returned (.int .i64 (notI n)) ∧ w' = w := by
  go_enter Tryz.func81, Tryz.ntmps81
  go_wp2
  all_goals go_ret
  · exact ⟨ret_int (nj1 ‹_›), rfl⟩
  · exact ⟨ret_int (nj2 ‹_›), rfl⟩

set_option maxHeartbeats 1000000 in
theorem and_any (a b : Int) (w : World) :
    Calls Tryz.prog 82 #[.int .i64 a, .int .i64 b] w fun e w' => e = .returned (.int .i64 (andI a b)) ∧ w' = w := by
  have HR : Hid (andI a b = if a = 0 ∨ b = 0 then 0 else min a b) := rfl
  by_cases h1 : a = 0
  · have HQ : Hid (0 = andI a b) := mkHid (by rw [HR.out, if_pos (.inl h1)])
    have hb : (a == 0) = true := by simpa using h1
    clear h1 HR
    go_enter Tryz.func82, Tryz.ntmps82
    go_wp2
    go_ret
    exact ⟨ret_int HQ.out, rfl⟩
  · by_cases h2 : b = 0
    · have HQ : Hid (0 = andI a b) := mkHid (by rw [HR.out, if_pos (.inr h2)])
      have hb : (a == 0) = false := by simpa using h1
      have hb2 : (b == 0) = true := by simpa using h2
      clear h1 h2 HR
      go_enter Tryz.func82, Tryz.ntmps82
      go_wp2
      go_ret
      exact ⟨ret_int HQ.out, rfl⟩
    · have HQ : Hid (min a b = andI a b) := mkHid (by rw [HR.out, if_neg (by omega)])
      have hb : (a == 0) = false := by simpa using h1
      have hb2 : (b == 0) = false := by simpa using h2
      clear h1 h2 HR
      go_enter Tryz.func82, Tryz.ntmps82
      go_wp2
      go_ret
      exact ⟨ret_int HQ.out, rfl⟩

set_option maxHeartbeats 1000000 in
theorem or_any2 (a b : Int) (w : World) :
    Calls Tryz.prog 83 #[.int .i64 a, .int .i64 b] w fun e w' => e = .returned (.int .i64 (orJ a b)) ∧ w' = w := by
  have HR : Hid (orJ a b = if a = 1 ∨ b = 1 then 1 else min a b) := rfl
  by_cases h1 : a = 1
  · have HQ : Hid (1 = orJ a b) := mkHid (by rw [HR.out, if_pos (.inl h1)])
    have hb : (a == 1) = true := by simpa using h1
    clear h1 HR
    go_enter Tryz.func83, Tryz.ntmps83
    go_wp2
    go_ret
    exact ⟨ret_int HQ.out, rfl⟩
  · by_cases h2 : b = 1
    · have HQ : Hid (1 = orJ a b) := mkHid (by rw [HR.out, if_pos (.inr h2)])
      have hb : (a == 1) = false := by simpa using h1
      have hb2 : (b == 1) = true := by simpa using h2
      clear h1 h2 HR
      go_enter Tryz.func83, Tryz.ntmps83
      go_wp2
      go_ret
      exact ⟨ret_int HQ.out, rfl⟩
    · have HQ : Hid (min a b = orJ a b) := mkHid (by rw [HR.out, if_neg (by omega)])
      have hb : (a == 1) = false := by simpa using h1
      have hb2 : (b == 1) = false := by simpa using h2
      clear h1 h2 HR
      go_enter Tryz.func83, Tryz.ntmps83
      go_wp2
      go_ret
      exact ⟨ret_int HQ.out, rfl⟩

/-- What a node of a condition holds: a code, a column, a value. -/
structure Nd where
  c : Int
  col : ByteArray
  k : Int
  n : Int
  t : ByteArray
/-- A condition as a tree (the library's own trees; their numbers of addresses are not used here). -/
abbrev CT := Deep.BT Nd

/-- A tree lies in memory, a block a node. -/
def InC (w : World) : CT → Value → Prop
  | .nil, v => v = .pointer none
  | .node _ _ ⟨c, col, k, n, t⟩ l r, v => ∃ b pl pr, v = .pointer (some ⟨b, 0, none⟩) ∧ w.heap[b]? = some (.cells #[.int .i64 c, .string col, .int .i64 k, .int .i64 n, .string t, pl, pr] 110) ∧ (1 ≤ c ∧ c ≤ 11) ∧ InC w l pl ∧ InC w r pr
theorem InC.up {w W : World} (hb : Below w.heap.size w W) : ∀ {T : CT} {v : Value}, InC w T v → InC W T v
  | .nil, _, h => h
  | .node _ _ ⟨_, _, _, _, _⟩ _ _, _, ⟨b, pl, pr, e, hh, hcd, hl, hr⟩ => ⟨b, pl, pr, e, by
      rw [hb.block b (by
        rcases Nat.lt_or_ge b w.heap.size with h' | h'
        · exact h'
        · rw [Array.getElem?_eq_none h'] at hh; cases hh)]
      exact hh, hcd, InC.up hb hl, InC.up hb hr⟩
theorem cell_of_heap {w : World} {b : Nat} {cs : Array Value} {t : TypeId} (h : w.heap[b]? = some (.cells cs t)) (i : Nat) : w.cell? ⟨b, i, none⟩ = cs[i]? := by
  simp [World.cell?, h]

def withinT : CT → Int → Bool
  | .nil, _ => true
  | .node _ _ _ l r, o => decide (0 ≤ o) && (withinT l (o - 1) && withinT r (o - 1))

set_option maxHeartbeats 1000000 in
theorem within_any : ∀ (T : CT) (v : Value) (o : Int) (w : World), InC w T v → -1 ≤ o → o ≤ 1000 →
    Calls Tryz.prog 75 #[v, .int .i64 o] w fun e w' => e = .returned (.bool (withinT T o)) ∧ w' = w
  | .nil, v, o, w, h, h1, h2 => by
    obtain rfl : v = .pointer none := h
    have HQ : Hid (true = withinT .nil o) := rfl
    go_enter Tryz.func75, Tryz.ntmps75
    go_wp2
    go_ret
    exact ⟨ret_bool HQ.out, rfl⟩
  | .node a0 o0 ⟨c, col, k, n, t⟩ l r, v, o, w, h, h1, h2 => by
    obtain ⟨b, pl, pr, rfl, hh, _, hl, hr⟩ := h
    have c5 : w.cell? ⟨b, 5, none⟩ = some pl := cell_of_heap hh 5
    have c6 : w.cell? ⟨b, 6, none⟩ = some pr := cell_of_heap hh 6
    clear hh
    by_cases ho : 0 ≤ o
    · have ihl := within_any l pl (o - 1) w hl (by omega) (by omega)
      have ihr := within_any r pr (o - 1) w hr (by omega) (by omega)
      cases el : withinT l (o - 1)
      · rw [el] at ihl
        have HQ : Hid (false = withinT (.node a0 o0 ⟨c, col, k, n, t⟩ l r) o) := mkHid (by simp [withinT, el])
        have IL := mkHid ihl
        clear ihl ihr el hl hr
        go_enter Tryz.func75, Tryz.ntmps75
        go_wp2_with (go_at_call 75; refine IL.out.mono ?_; rintro e w1 ⟨rfl, rfl⟩)
        go_ret
        exact ⟨ret_bool HQ.out, rfl⟩
      · rw [el] at ihl
        have HQ : Hid (withinT r (o - 1) = withinT (.node a0 o0 ⟨c, col, k, n, t⟩ l r) o) := mkHid (by simp [withinT, el, ho])
        have IL := mkHid ihl; have IR := mkHid ihr
        clear ihl ihr el hl hr
        generalize withinT r (o - 1) = br at *
        go_enter Tryz.func75, Tryz.ntmps75
        go_wp2_with fail
        refine IL.out.mono ?_; rintro e w1 ⟨rfl, rfl⟩
        go_wp2_with fail
        refine IR.out.mono ?_; rintro e w2 ⟨rfl, rfl⟩
        go_wp2
        go_ret
        exact ⟨ret_bool HQ.out, rfl⟩
    · have HQ : Hid (false = withinT (.node a0 o0 ⟨c, col, k, n, t⟩ l r) o) := mkHid (by simp [withinT, ho])
      clear hl hr
      go_enter Tryz.func75, Tryz.ntmps75
      go_wp2
      go_ret
      exact ⟨ret_bool HQ.out, rfl⟩

theorem idle_any (p : Addr) (w : World) :
    CallsD Tryz.prog 113 #[.pointer (some p)] .returning w fun e u' w' => e = .returned (.tuple #[]) ∧ u' = .returning ∧ w' = w := by
  refine callsD_of_wpS Tryz.func113 rfl fun c₀ cs hu => ?_
  apply wpS_seq
  apply wpS_region
  simp [wpOpsS, go_sem, recoverD, hu, Tryz.ntmps113, Exit.thenS]
  refine wpS_cond (t := false) (by simp [Act.eval, Array.replicate]) ?_
  simp only [Bool.false_eq_true, if_false]
  refine wpS_of_wp (wp_skip ?_)
  cases c₀
  simp_all [bodyPostS, results, Tryz.results113]

end Go.Proofs.YtodemklghajdeaaGreatDoor.S

namespace Go.Proofs.YtodemklghajdeaaGreatDoor.S
open Go.RowKit Go.Proofs
open Go.Sort (grow)

/-- What a condition comes to. -/
def evT (gk gn : ByteArray → Int) (gt : ByteArray → ByteArray) : CT → Int
  | .nil => 1
  | .node _ _ ⟨c, col, k, n, t⟩ l r => if c = 7 then b2i (gk col == 0) else if c = 8 then b2i (gk col != 0) else if c = 11 then notI (evT gk gn gt l) else if c = 9 then andI (evT gk gn gt l) (evT gk gn gt r) else if c = 10 then orJ (evT gk gn gt l) (evT gk gn gt r) else isV c (gk col) (gn col) (gt col) k n t
theorem b2i_range (b : Bool) : -1 ≤ b2i b ∧ b2i b ≤ 1 := by cases b <;> simp [b2i]
theorem isV_range (c k1 n1 : Int) (t1 : ByteArray) (k2 n2 : Int) (t2 : ByteArray) : -1 ≤ isV c k1 n1 t1 k2 n2 t2 ∧ isV c k1 n1 t1 k2 n2 t2 ≤ 1 := by
  unfold isV; split
  · omega
  · exact b2i_range _
theorem evT_range (gk gn : ByteArray → Int) (gt : ByteArray → ByteArray) : ∀ T : CT, -1 ≤ evT gk gn gt T ∧ evT gk gn gt T ≤ 1
  | .nil => by simp [evT]
  | .node a0 o0 ⟨c, col, k, n, t⟩ l r => by
    have hl := evT_range gk gn gt l
    have hr := evT_range gk gn gt r
    unfold evT
    split
    · exact b2i_range _
    split
    · exact b2i_range _
    split
    · unfold notI; split <;> omega
    split
    · unfold andI; split <;> omega
    split
    · unfold orJ; split <;> omega
    · exact isV_range _ _ _ _ _ _ _

theorem e7 {gk gn : ByteArray → Int} {gt : ByteArray → ByteArray} {c : Int} {col : ByteArray} {k n : Int} {t : ByteArray} {l r : CT} {a0 o0 : Nat} (h : c = 7) : b2i (gk col == 0) = evT gk gn gt (.node a0 o0 ⟨c, col, k, n, t⟩ l r) := by rw [evT, if_pos h]
theorem e8 {gk gn : ByteArray → Int} {gt : ByteArray → ByteArray} {c : Int} {col : ByteArray} {k n : Int} {t : ByteArray} {l r : CT} {a0 o0 : Nat} (h : c = 8) : b2i (gk col != 0) = evT gk gn gt (.node a0 o0 ⟨c, col, k, n, t⟩ l r) := by rw [evT, if_neg (by omega), if_pos h]
theorem e11 {gk gn : ByteArray → Int} {gt : ByteArray → ByteArray} {c : Int} {col : ByteArray} {k n : Int} {t : ByteArray} {l r : CT} {a0 o0 : Nat} (h : c = 11) : notI (evT gk gn gt l) = evT gk gn gt (.node a0 o0 ⟨c, col, k, n, t⟩ l r) := by rw [evT, if_neg (by omega), if_neg (by omega), if_pos h]
theorem e9 {gk gn : ByteArray → Int} {gt : ByteArray → ByteArray} {c : Int} {col : ByteArray} {k n : Int} {t : ByteArray} {l r : CT} {a0 o0 : Nat} (h : c = 9) : andI (evT gk gn gt l) (evT gk gn gt r) = evT gk gn gt (.node a0 o0 ⟨c, col, k, n, t⟩ l r) := by rw [evT, if_neg (by omega), if_neg (by omega), if_neg (by omega), if_pos h]
theorem e10 {gk gn : ByteArray → Int} {gt : ByteArray → ByteArray} {c : Int} {col : ByteArray} {k n : Int} {t : ByteArray} {l r : CT} {a0 o0 : Nat} (h : c = 10) : orJ (evT gk gn gt l) (evT gk gn gt r) = evT gk gn gt (.node a0 o0 ⟨c, col, k, n, t⟩ l r) := by rw [evT, if_neg (by omega), if_neg (by omega), if_neg (by omega), if_neg (by omega), if_pos h]
theorem e0 {gk gn : ByteArray → Int} {gt : ByteArray → ByteArray} {c : Int} {col : ByteArray} {k n : Int} {t : ByteArray} {l r : CT} {a0 o0 : Nat} (h : ¬ c = 7 ∧ ¬ c = 8 ∧ ¬ c = 11 ∧ ¬ c = 9 ∧ ¬ c = 10) : isV c (gk col) (gn col) (gt col) k n t = evT gk gn gt (.node a0 o0 ⟨c, col, k, n, t⟩ l r) := by
  rw [evT, if_neg (by omega), if_neg (by omega), if_neg (by omega), if_neg (by omega), if_neg (by omega)]

theorem fld (k n : Int) (t : ByteArray) (W : World) : (Instr.field 45 (.agg #[.int .i64 k, .int .i64 n, .string t]) 0).run Tryz.prog W = .ok (.int .i64 k) W := by kernel_rfl

set_option maxHeartbeats 1000000 in
theorem ends_any (T : CT) (v : Value) (w : World) (h : InC w T v) :
    Calls Tryz.prog 50 #[v] w fun e w' => e = .returned (.bool (withinT T 24)) ∧ w' = w := by
  have H1 := mkHid (within_any T v 24 w h (by omega) (by omega))
  clear h
  generalize withinT T 24 = b at *
  go_enter Tryz.func50, Tryz.ntmps50
  go_wp2_with fail
  refine H1.out.mono ?_; rintro e w1 ⟨rfl, rfl⟩
  go_wp2
  go_ret
  exact ⟨rfl, rfl⟩

end Go.Proofs.YtodemklghajdeaaGreatDoor.S

namespace Go.Proofs.YtodemklghajdeaaGreatDoor.S
open Go.RowKit Go.Proofs
open Go.Sort (grow)

/-- What a function value tells of a column by way of guard.Told, in every later world. -/
def ToldOk (P : ByteArray → Prop) (fv : Value) (gk gn : ByteArray → Int) (gt : ByteArray → ByteArray) (w : World) : Prop :=
  ∀ (W : World) (s : ByteArray), P s → Below w.heap.size w W → Calls Tryz.prog 80 #[fv, .string s] W fun e w' => e = .returned (.agg #[.int .i64 (gk s), .int .i64 (gn s), .string (gt s)]) ∧ Below W.heap.size W w'
theorem ToldOk.up {P : ByteArray → Prop} {fv : Value} {gk gn : ByteArray → Int} {gt : ByteArray → ByteArray} {w W : World} (h : ToldOk P fv gk gn gt w) (hb : Below w.heap.size w W) : ToldOk P fv gk gn gt W :=
  fun W' s hp hb' => h W' s hp (Below.up hb hb')
/-- The columns that a condition asks of are such ones. -/
def Asks (P : ByteArray → Prop) : CT → Prop
  | .nil => True
  | .node _ _ ⟨c, col, _, _, _⟩ l r => if c = 11 then Asks P l else if c = 9 ∨ c = 10 then Asks P l ∧ Asks P r else P col
theorem Asks.col {P : ByteArray → Prop} {a0 o0 : Nat} {c : Int} {col : ByteArray} {k n : Int} {t : ByteArray} {l r : CT} (h : Asks P (.node a0 o0 ⟨c, col, k, n, t⟩ l r)) (hc : ¬ (c = 9 ∨ c = 10 ∨ c = 11)) : P col := by
  simp only [Asks] at h
  rwa [if_neg (by omega), if_neg (by omega)] at h
theorem Asks.left {P : ByteArray → Prop} {a0 o0 : Nat} {c : Int} {col : ByteArray} {k n : Int} {t : ByteArray} {l r : CT} (h : Asks P (.node a0 o0 ⟨c, col, k, n, t⟩ l r)) (hc : c = 9 ∨ c = 10 ∨ c = 11) : Asks P l := by
  simp only [Asks] at h
  by_cases h11 : c = 11
  · rwa [if_pos h11] at h
  · rw [if_neg h11, if_pos (by omega)] at h; exact h.1
theorem Asks.right {P : ByteArray → Prop} {a0 o0 : Nat} {c : Int} {col : ByteArray} {k n : Int} {t : ByteArray} {l r : CT} (h : Asks P (.node a0 o0 ⟨c, col, k, n, t⟩ l r)) (hc : c = 9 ∨ c = 10) : Asks P r := by
  simp only [Asks] at h
  rw [if_neg (by omega), if_pos hc] at h; exact h.2

set_option maxHeartbeats 4000000 in
theorem holdsG_any (P : ByteArray → Prop) (fv : Value) (gk gn : ByteArray → Int) (gt : ByteArray → ByteArray) : ∀ (T : CT) (v : Value) (w : World), InC w T v → Asks P T → ToldOk P fv gk gn gt w →
    Calls Tryz.prog 56 #[v, fv] w fun e w' => e = .returned (.int .i64 (evT gk gn gt T)) ∧ Below w.heap.size w w'
  | .nil, v, w, h, _, _ => by
    obtain rfl : v = .pointer none := h
    have HQ : Hid (1 = evT gk gn gt .nil) := rfl
    go_enter Tryz.func56, Tryz.ntmps56
    go_wp2
    go_ret
    exact ⟨ret_int HQ.out, Below.refl _ _⟩
  | .node a0 o0 ⟨c, col, k, n, t⟩ l r, v, w, h, ha, hg => by
    obtain ⟨b, pl, pr, rfl, hh, _, hl, hr⟩ := h
    have c0 : w.cell? ⟨b, 0, none⟩ = some (.int .i64 c) := cell_of_heap hh 0
    have c1 : w.cell? ⟨b, 1, none⟩ = some (.string col) := cell_of_heap hh 1
    have c2 : w.cell? ⟨b, 2, none⟩ = some (.int .i64 k) := cell_of_heap hh 2
    have c3 : w.cell? ⟨b, 3, none⟩ = some (.int .i64 n) := cell_of_heap hh 3
    have c4 : w.cell? ⟨b, 4, none⟩ = some (.string t) := cell_of_heap hh 4
    have c5 : w.cell? ⟨b, 5, none⟩ = some pl := cell_of_heap hh 5
    have c6 : w.cell? ⟨b, 6, none⟩ = some pr := cell_of_heap hh 6
    clear hh
    have IT : Hid (¬ (c = 9 ∨ c = 10 ∨ c = 11) → ∀ W, Below w.heap.size w W → Calls Tryz.prog 80 #[fv, .string col] W fun e w' => e = .returned (.agg #[.int .i64 (gk col), .int .i64 (gn col), .string (gt col)]) ∧ Below W.heap.size W w') := fun hc W hb => hg W col (ha.col hc) hb
    have IL : Hid ((c = 9 ∨ c = 10 ∨ c = 11) → ∀ W, Below w.heap.size w W → Calls Tryz.prog 56 #[pl, fv] W fun e w' => e = .returned (.int .i64 (evT gk gn gt l)) ∧ Below W.heap.size W w') := fun hc W hb => holdsG_any P fv gk gn gt l pl W (hl.up hb) (ha.left hc) (hg.up hb)
    have IR : Hid ((c = 9 ∨ c = 10) → ∀ W, Below w.heap.size w W → Calls Tryz.prog 56 #[pr, fv] W fun e w' => e = .returned (.int .i64 (evT gk gn gt r)) ∧ Below W.heap.size W w') := fun hc W hb => holdsG_any P fv gk gn gt r pr W (hr.up hb) (ha.right hc) (hg.up hb)
    have rl := evT_range gk gn gt l
    have rr := evT_range gk gn gt r
    clear hl hr hg ha
    by_cases h7 : c = 7
    · have HQ : Hid (b2i (gk col == 0) = evT gk gn gt (.node a0 o0 ⟨c, col, k, n, t⟩ l r)) := e7 h7
      replace IT := mkHid (IT.out (by omega))
      subst h7
      clear IL IR
      generalize evT gk gn gt (.node a0 o0 ⟨7, col, k, n, t⟩ l r) = ee at *
      generalize gk col = kk, gn col = nn, gt col = tt at *
      clear rl rr
      have hfl := fld kk nn tt
      go_enter Tryz.func56, Tryz.ntmps56
      go_wp2_with fail
      refine (IT.out _ (Below.refl _ _)).mono ?_
      rintro e w1 ⟨rfl, hb1⟩
      go_wp2_with (go_at_call 79; refine (number_any _ _).mono ?_; rintro e w2 ⟨rfl, rfl⟩)
      go_ret
      exact ⟨ret_int HQ.out, hb1⟩
    by_cases h8 : c = 8
    · have HQ : Hid (b2i (gk col != 0) = evT gk gn gt (.node a0 o0 ⟨c, col, k, n, t⟩ l r)) := e8 h8
      replace IT := mkHid (IT.out (by omega))
      subst h8
      clear IL IR h7
      generalize evT gk gn gt (.node a0 o0 ⟨8, col, k, n, t⟩ l r) = ee at *
      generalize gk col = kk, gn col = nn, gt col = tt at *
      clear rl rr
      have hfl := fld kk nn tt
      go_enter Tryz.func56, Tryz.ntmps56
      go_wp2_with fail
      refine (IT.out _ (Below.refl _ _)).mono ?_
      rintro e w1 ⟨rfl, hb1⟩
      go_wp2_with (go_at_call 79; refine (number_any _ _).mono ?_; rintro e w2 ⟨rfl, rfl⟩)
      go_ret
      exact ⟨ret_int HQ.out, hb1⟩
    by_cases h11 : c = 11
    · have HQ : Hid (notI (evT gk gn gt l) = evT gk gn gt (.node a0 o0 ⟨c, col, k, n, t⟩ l r)) := e11 h11
      replace IL := mkHid (IL.out (by omega))
      subst h11
      clear IT IR h7 h8 rr
      generalize evT gk gn gt (.node a0 o0 ⟨11, col, k, n, t⟩ l r) = ee at *
      generalize evT gk gn gt l = el at *
      go_enter Tryz.func56, Tryz.ntmps56
      go_wp2_with fail
      refine (IL.out _ (Below.refl _ _)).mono ?_
      rintro e w1 ⟨rfl, hb1⟩
      go_wp2_with (go_at_call 81; refine (not_any _ rl.1 rl.2 _).mono ?_; rintro e w2 ⟨rfl, rfl⟩)
      go_ret
      exact ⟨ret_int HQ.out, hb1⟩
    by_cases h9 : c = 9
    · have HQ : Hid (andI (evT gk gn gt l) (evT gk gn gt r) = evT gk gn gt (.node a0 o0 ⟨c, col, k, n, t⟩ l r)) := e9 h9
      replace IL := mkHid (IL.out (by omega))
      replace IR := mkHid (IR.out (by omega))
      subst h9
      clear IT h7 h8 h11 rl rr
      generalize evT gk gn gt (.node a0 o0 ⟨9, col, k, n, t⟩ l r) = ee at *
      generalize evT gk gn gt l = el, evT gk gn gt r = er at *
      go_enter Tryz.func56, Tryz.ntmps56
      go_wp2_with fail
      replace c0 := cell_regrown c0; replace c5 := cell_regrown c5; replace c6 := cell_regrown c6
      clear c1 c2 c3 c4
      have HA1 : Hid (∀ d os, Calls Tryz.prog 56 #[pl, fv] (grow (redrawn w d) os) fun e w'' => e = .returned (.int .i64 el) ∧ ∃ p : Regrown, w'' = grow (redrawn w p.d) p.os) := fun d os => Calls.regrown_of (IL.out _ (below_regrown w d os))
      have HA2 : Hid (∀ d os, Calls Tryz.prog 56 #[pr, fv] (grow (redrawn w d) os) fun e w'' => e = .returned (.int .i64 er) ∧ ∃ p : Regrown, w'' = grow (redrawn w p.d) p.os) := fun d os => Calls.regrown_of (IR.out _ (below_regrown w d os))
      have HA3 : Hid (∀ d os, Calls Tryz.prog 82 #[.int .i64 el, .int .i64 er] (grow (redrawn w d) os) fun e w'' => e = .returned (.int .i64 (andI el er)) ∧ ∃ p : Regrown, w'' = grow (redrawn w p.d) p.os) := fun d os => (and_any el er _).mono fun _ _ ⟨he, hw⟩ => ⟨he, ⟨⟨d, os⟩, hw⟩⟩
      refine wp_region_quiet_below (by kernel_rfl) (by kernel_rfl) ?_
      repeat (go_big_quiet_step (first
        | (go_at_call_of 56 (#[pl, fv] : Array Value); exact HA1.out _ _)
        | (go_at_call_of 56 (#[pr, fv] : Array Value); exact HA2.out _ _)
        | (go_at_call_of 82 (#[.int .i64 el, .int .i64 er] : Array Value); exact HA3.out _ _)))
      refine wpQuiet_nil ?_
      intro _ hw'
      obtain ⟨⟨dq, osq⟩, hw''⟩ := hw'
      subst hw''
      go_wp2
      go_ret
      exact ⟨ret_int HQ.out, below_regrown w dq osq⟩
    by_cases h10 : c = 10
    · have HQ : Hid (orJ (evT gk gn gt l) (evT gk gn gt r) = evT gk gn gt (.node a0 o0 ⟨c, col, k, n, t⟩ l r)) := e10 h10
      replace IL := mkHid (IL.out (by omega))
      replace IR := mkHid (IR.out (by omega))
      subst h10
      clear IT h7 h8 h11 h9 rl rr
      generalize evT gk gn gt (.node a0 o0 ⟨10, col, k, n, t⟩ l r) = ee at *
      generalize evT gk gn gt l = el, evT gk gn gt r = er at *
      go_enter Tryz.func56, Tryz.ntmps56
      go_wp2_with fail
      replace c0 := cell_regrown c0; replace c5 := cell_regrown c5; replace c6 := cell_regrown c6
      clear c1 c2 c3 c4
      have HA1 : Hid (∀ d os, Calls Tryz.prog 56 #[pl, fv] (grow (redrawn w d) os) fun e w'' => e = .returned (.int .i64 el) ∧ ∃ p : Regrown, w'' = grow (redrawn w p.d) p.os) := fun d os => Calls.regrown_of (IL.out _ (below_regrown w d os))
      have HA2 : Hid (∀ d os, Calls Tryz.prog 56 #[pr, fv] (grow (redrawn w d) os) fun e w'' => e = .returned (.int .i64 er) ∧ ∃ p : Regrown, w'' = grow (redrawn w p.d) p.os) := fun d os => Calls.regrown_of (IR.out _ (below_regrown w d os))
      have HA3 : Hid (∀ d os, Calls Tryz.prog 83 #[.int .i64 el, .int .i64 er] (grow (redrawn w d) os) fun e w'' => e = .returned (.int .i64 (orJ el er)) ∧ ∃ p : Regrown, w'' = grow (redrawn w p.d) p.os) := fun d os => (or_any2 el er _).mono fun _ _ ⟨he, hw⟩ => ⟨he, ⟨⟨d, os⟩, hw⟩⟩
      refine wp_region_quiet_below (by kernel_rfl) (by kernel_rfl) ?_
      repeat (go_big_quiet_step (first
        | (go_at_call_of 56 (#[pl, fv] : Array Value); exact HA1.out _ _)
        | (go_at_call_of 56 (#[pr, fv] : Array Value); exact HA2.out _ _)
        | (go_at_call_of 83 (#[.int .i64 el, .int .i64 er] : Array Value); exact HA3.out _ _)))
      refine wpQuiet_nil ?_
      intro _ hw'
      obtain ⟨⟨dq, osq⟩, hw''⟩ := hw'
      subst hw''
      go_wp2
      go_ret
      exact ⟨ret_int HQ.out, below_regrown w dq osq⟩
    · have HQ : Hid (isV c (gk col) (gn col) (gt col) k n t = evT gk gn gt (.node a0 o0 ⟨c, col, k, n, t⟩ l r)) := e0 ⟨h7, h8, h11, h9, h10⟩
      replace IT := mkHid (IT.out (by omega))
      have b7 : (c == 7) = false := by simpa using h7
      have b8 : (c == 8) = false := by simpa using h8
      have b11 : (c == 11) = false := by simpa using h11
      have b9 : (c == 9) = false := by simpa using h9
      have b10 : (c == 10) = false := by simpa using h10
      clear IL IR h7 h8 h11 h9 h10 rl rr
      generalize evT gk gn gt (.node a0 o0 ⟨c, col, k, n, t⟩ l r) = ee at *
      generalize gk col = kk, gn col = nn, gt col = tt at *
      go_enter Tryz.func56, Tryz.ntmps56
      go_wp2_with fail
      replace c0 := cell_regrown c0; replace c1 := cell_regrown c1; replace c2 := cell_regrown c2; replace c3 := cell_regrown c3; replace c4 := cell_regrown c4
      clear c5 c6
      have HA1 : Hid (∀ d os, Calls Tryz.prog 80 #[fv, .string col] (grow (redrawn w d) os) fun e w'' => e = .returned (.agg #[.int .i64 kk, .int .i64 nn, .string tt]) ∧ ∃ p : Regrown, w'' = grow (redrawn w p.d) p.os) := fun d os => Calls.regrown_of (IT.out _ (below_regrown w d os))
      have HA2 : Hid (∀ d os, Calls Tryz.prog 84 #[.int .i64 c, .agg #[.int .i64 kk, .int .i64 nn, .string tt], .agg #[.int .i64 k, .int .i64 n, .string t]] (grow (redrawn w d) os) fun e w'' => e = .returned (.int .i64 (isV c kk nn tt k n t)) ∧ ∃ p : Regrown, w'' = grow (redrawn w p.d) p.os) := fun d os => Calls.regrown_of (is_any c kk nn k n tt t _)
      refine wp_region_quiet_below (by kernel_rfl) (by kernel_rfl) ?_
      repeat (go_big_quiet_step (first
        | (go_at_call_of 80 (#[fv, .string col] : Array Value); exact HA1.out _ _)
        | (go_at_call_of 84 (#[.int .i64 c, .agg #[.int .i64 kk, .int .i64 nn, .string tt], .agg #[.int .i64 k, .int .i64 n, .string t]] : Array Value); exact HA2.out _ _)))
      refine wpQuiet_nil ?_
      intro _ hw'
      obtain ⟨⟨dq, osq⟩, hw''⟩ := hw'
      subst hw''
      go_wp2
      go_ret
      exact ⟨ret_int HQ.out, below_regrown w dq osq⟩

set_option maxHeartbeats 1000000 in
theorem HoldsG_any (P : ByteArray → Prop) (fv : Value) (gk gn : ByteArray → Int) (gt : ByteArray → ByteArray) (T : CT) (v : Value) (w : World) (h : InC w T v) (ha : Asks P T) (hg : ToldOk P fv gk gn gt w) (hd : withinT T 24 = true) :
    Calls Tryz.prog 25 #[v, fv] w fun e w' => e = .returned (.int .i64 (evT gk gn gt T)) ∧ Below w.heap.size w w' := by
  have H1 : Hid (Calls Tryz.prog 50 #[v] w fun e w' => e = .returned (.bool true) ∧ w' = w) := by
    have := ends_any T v w h
    rw [hd] at this
    exact this
  have H2 := mkHid (holdsG_any P fv gk gn gt T v w h ha hg)
  generalize evT gk gn gt T = ee at *
  clear h hg hd ha
  go_enter Tryz.func25, Tryz.ntmps25
  go_wp2_with fail
  refine H1.out.mono ?_; rintro e w1 ⟨rfl, rfl⟩
  go_wp2_with fail
  refine H2.out.mono ?_; rintro e w2 ⟨rfl, hb2⟩
  go_wp2
  go_ret
  exact ⟨rfl, hb2⟩

set_option maxHeartbeats 1000000 in
theorem told22_any (pa pi pb : Value) (gk gn : ByteArray → Int) (gt : ByteArray → ByteArray) (s : ByteArray) (w : World) (hg : ∀ (W : World) (s : ByteArray), Below w.heap.size w W → Calls Tryz.prog 26 #[.string s, pa, pi, pb] W fun e w' => e = .returned (.agg #[.int .i64 (gk s), .int .i64 (gn s), .string (gt s)]) ∧ Below W.heap.size W w') :
    Calls Tryz.prog 80 #[.func (.func 26) #[] #[pa, pi, pb], .string s] w fun e w' => e = .returned (.agg #[.int .i64 (gk s), .int .i64 (gn s), .string (gt s)]) ∧ Below w.heap.size w w' := by
  have HC : Hid (∀ W, Below w.heap.size w W → Calls Tryz.prog 26 #[.string s, pa, pi, pb] W fun e w' => e = .returned (.agg #[.int .i64 (gk s), .int .i64 (gn s), .string (gt s)]) ∧ Below W.heap.size W w') := fun W hb => hg W s hb
  clear hg
  have hmf : ∀ (fn : Fn) (first cap : Array Value) (w : World), (Instr.makeFunc fn first cap).run Tryz.prog w = .ok (.func fn first cap) w := fun _ _ _ _ => rfl
  generalize gk s = k, gn s = n, gt s = t at *
  go_enter_defers Tryz.func80, Tryz.ntmps80
  go_wp2_with fail
  refine (HC.out _ ((Below.refl _ _).alloc (Nat.le_refl _) _)).mono ?_
  rintro e w1 ⟨rfl, hb1⟩
  have c0 : w1.cell? ⟨w.heap.size, 0, none⟩ = some (.int .i64 0) := (hb1.cell (p := ⟨w.heap.size, 0, none⟩) (by simp)).trans (by go_simp)
  have c1 : w1.cell? ⟨w.heap.size, 1, none⟩ = some (.int .i64 0) := (hb1.cell (p := ⟨w.heap.size, 1, none⟩) (by simp)).trans (by go_simp)
  have c2 : w1.cell? ⟨w.heap.size, 2, none⟩ = some (.string ⟨#[]⟩) := (hb1.cell (p := ⟨w.heap.size, 2, none⟩) (by simp)).trans (by go_simp)
  have f0 : w1.frozen? ⟨w.heap.size, 0, none⟩ = false := (hb1.frozen (p := ⟨w.heap.size, 0, none⟩) (by simp)).trans (by go_simp)
  have f1 : w1.frozen? ⟨w.heap.size, 1, none⟩ = false := (hb1.frozen (p := ⟨w.heap.size, 1, none⟩) (by simp)).trans (by go_simp)
  have f2 : w1.frozen? ⟨w.heap.size, 2, none⟩ = false := (hb1.frozen (p := ⟨w.heap.size, 2, none⟩) (by simp)).trans (by go_simp)
  have B1 : Hid (Below w.heap.size w w1) := ((Below.refl _ w).alloc (Nat.le_refl _) _).trans (hb1.mono (by simp))
  clear hb1
  go_wp2
  refine leaves_cons (f := 113) (args := #[.pointer (some ⟨w.heap.size, 0, none⟩)]) (by simp) (by simp [go_sem]) ?_
  refine (idle_any ⟨w.heap.size, 0, none⟩ _).mono ?_
  rintro e u' w'' ⟨rfl, rfl, rfl⟩
  simp [Leaves, settle, results, Tryz.results80, go_sem, c0, c1, c2]
  exact ((B1.out.setCell (Nat.le_refl _) _).setCell (Nat.le_refl _) _).setCell (Nat.le_refl _) _

theorem idleS_any (p : Addr) (w : World) :
    CallsD Tryz.prog 133 #[.pointer (some p)] .returning w fun e u' w' => e = .returned (.tuple #[]) ∧ u' = .returning ∧ w' = w := by
  refine callsD_of_wpS Tryz.func133 rfl fun c₀ cs hu => ?_
  apply wpS_seq
  apply wpS_region
  simp [wpOpsS, go_sem, recoverD, hu, Tryz.ntmps133, Exit.thenS]
  refine wpS_cond (t := false) (by simp [Act.eval, Array.replicate]) ?_
  simp only [Bool.false_eq_true, if_false]
  refine wpS_of_wp (wp_skip ?_)
  cases c₀
  simp_all [bodyPostS, results, Tryz.results133]

set_option maxHeartbeats 2000000 in
theorem toldMay_any (pa pb pc : Value) (gs : ByteArray → St) (s : ByteArray) (w : World) (hg : ∀ (W : World) (s : ByteArray), Below w.heap.size w W → Calls Tryz.prog 55 #[.string s, pa, pb, pc] W fun e w' => e = .returned (.agg (cellsS (gs s))) ∧ Below W.heap.size W w') :
    Calls Tryz.prog 112 #[.func (.func 55) #[] #[pa, pb, pc], .string s] w fun e w' => e = .returned (.agg (cellsS (gs s))) ∧ Below w.heap.size w w' := by
  have HC := mkHid (fun W hb => hg W s hb)
  clear hg
  have hmf : ∀ (fn : Fn) (first cap : Array Value) (w : World), (Instr.makeFunc fn first cap).run Tryz.prog w = .ok (.func fn first cap) w := fun _ _ _ _ => rfl
  generalize gs s = st at *
  obtain ⟨sc, sm, ⟨sk, sn, stx⟩, ⟨sk', sn', stx'⟩⟩ := st
  unfold cellsS at HC ⊢
  simp only at HC ⊢
  go_enter_defers Tryz.func112, Tryz.ntmps112
  go_wp2_with fail
  refine (HC.out _ ((Below.refl _ _).alloc (Nat.le_refl _) _)).mono ?_
  rintro e w1 ⟨rfl, hb1⟩
  have K1 : KAt w1 w.heap.size zeroS := KAt.up (heap_alloc_new _ _) hb1
  obtain ⟨c0, c1, c2, c3, c4, c5, c6, c7⟩ := KAt.cells (c := 0) (m := 0) (k := 0) (n := 0) (t := ⟨#[]⟩) (k' := 0) (n' := 0) (t' := ⟨#[]⟩) K1
  obtain ⟨f0, f1, f2, f3, f4, f5, f6, f7⟩ := K1.free
  have B1 : Hid (Below w.heap.size w w1) := ((Below.refl _ w).alloc (Nat.le_refl _) _).trans (hb1.mono (by simp))
  clear hb1 K1
  go_wp2
  refine leaves_cons (f := 133) (args := #[.pointer (some ⟨w.heap.size, 0, none⟩)]) (by simp) (by simp [go_sem]) ?_
  refine (idleS_any ⟨w.heap.size, 0, none⟩ _).mono ?_
  rintro e u' w'' ⟨rfl, rfl, rfl⟩
  simp [Leaves, settle, results, Tryz.results112, go_sem, c0, c1, c2, c3, c4, c5, c6, c7]
  exact b8c B1.out (Nat.le_refl _) _ _ _ _ _ _ _ _

end Go.Proofs.YtodemklghajdeaaGreatDoor.S

namespace Go.Proofs.YtodemklghajdeaaGreatDoor.S
open Go.RowKit Go.Proofs
open Go.Sort (grow)

/-- What a function value tells is known of a column by way of guard.Told, in every later world. -/
def ToldS (fv : Value) (gs : ByteArray → St) (w : World) : Prop :=
  ∀ (W : World) (s : ByteArray), Below w.heap.size w W → Calls Tryz.prog 112 #[fv, .string s] W fun e w' => e = .returned (.agg (cellsS (gs s))) ∧ Below W.heap.size W w'
theorem ToldS.up {fv : Value} {gs : ByteArray → St} {w W : World} (h : ToldS fv gs w) (hb : Below w.heap.size w W) : ToldS fv gs W :=
  fun W' s hb' => h W' s (Below.up hb hb')

/-- Whether a condition (or, at true, its Not) may hold of what is known. -/
def mayT (gs : ByteArray → St) : Bool → CT → Bool
  | b, .nil => !b
  | b, .node _ _ ⟨c, col, k, n, t⟩ l r => if c = 9 then (if b then mayT gs b l || mayT gs b r else mayT gs b l && mayT gs b r) else if c = 10 then (if b then mayT gs b l && mayT gs b r else mayT gs b l || mayT gs b r) else if c = 11 then mayT gs (!b) l else mayCol (if b then opp c else c) (gs col) (k, n, t)
theorem m9f {gs : ByteArray → St} {a0 o0 : Nat} {c : Int} {col : ByteArray} {k n : Int} {t : ByteArray} {l r : CT} (h : c = 9) : (mayT gs false l && mayT gs false r) = mayT gs false (.node a0 o0 ⟨c, col, k, n, t⟩ l r) := by rw [mayT, if_pos h]; rfl
theorem m9t {gs : ByteArray → St} {a0 o0 : Nat} {c : Int} {col : ByteArray} {k n : Int} {t : ByteArray} {l r : CT} (h : c = 9) : (mayT gs true l || mayT gs true r) = mayT gs true (.node a0 o0 ⟨c, col, k, n, t⟩ l r) := by rw [mayT, if_pos h]; rfl
theorem m10f {gs : ByteArray → St} {a0 o0 : Nat} {c : Int} {col : ByteArray} {k n : Int} {t : ByteArray} {l r : CT} (h : c = 10) : (mayT gs false l || mayT gs false r) = mayT gs false (.node a0 o0 ⟨c, col, k, n, t⟩ l r) := by rw [mayT, if_neg (by omega), if_pos h]; rfl
theorem m10t {gs : ByteArray → St} {a0 o0 : Nat} {c : Int} {col : ByteArray} {k n : Int} {t : ByteArray} {l r : CT} (h : c = 10) : (mayT gs true l && mayT gs true r) = mayT gs true (.node a0 o0 ⟨c, col, k, n, t⟩ l r) := by rw [mayT, if_neg (by omega), if_pos h]; rfl
theorem m11f {gs : ByteArray → St} {a0 o0 : Nat} {c : Int} {col : ByteArray} {k n : Int} {t : ByteArray} {l r : CT} (h : c = 11) : mayT gs true l = mayT gs false (.node a0 o0 ⟨c, col, k, n, t⟩ l r) := by rw [mayT, if_neg (by omega), if_neg (by omega), if_pos h]; rfl
theorem m11t {gs : ByteArray → St} {a0 o0 : Nat} {c : Int} {col : ByteArray} {k n : Int} {t : ByteArray} {l r : CT} (h : c = 11) : mayT gs false l = mayT gs true (.node a0 o0 ⟨c, col, k, n, t⟩ l r) := by rw [mayT, if_neg (by omega), if_neg (by omega), if_pos h]; rfl
theorem m0f {gs : ByteArray → St} {a0 o0 : Nat} {c : Int} {col : ByteArray} {k n : Int} {t : ByteArray} {l r : CT} (h : ¬ c = 9 ∧ ¬ c = 10 ∧ ¬ c = 11) : mayCol c (gs col) (k, n, t) = mayT gs false (.node a0 o0 ⟨c, col, k, n, t⟩ l r) := by rw [mayT, if_neg h.1, if_neg h.2.1, if_neg h.2.2]; rfl
theorem m0t {gs : ByteArray → St} {a0 o0 : Nat} {c : Int} {col : ByteArray} {k n : Int} {t : ByteArray} {l r : CT} (h : ¬ c = 9 ∧ ¬ c = 10 ∧ ¬ c = 11) : mayCol (opp c) (gs col) (k, n, t) = mayT gs true (.node a0 o0 ⟨c, col, k, n, t⟩ l r) := by rw [mayT, if_neg h.1, if_neg h.2.1, if_neg h.2.2]; rfl

set_option maxHeartbeats 8000000 in
theorem may38_node (fv : Value) (gs : ByteArray → St) (a0 o0 : Nat) (c : Int) (col : ByteArray) (k n : Int) (t : ByteArray) (l r : CT) (b : Nat) (pl pr : Value) (w : World)
    (hh : w.heap[b]? = some (.cells #[.int .i64 c, .string col, .int .i64 k, .int .i64 n, .string t, pl, pr] 110)) (hg : ToldS fv gs w) (ho : OppB w)
    (hl : ∀ W, Below w.heap.size w W → Calls Tryz.prog 78 #[pl, fv] W fun e w' => e = .returned (.bool (mayT gs false l)) ∧ Below W.heap.size W w')
    (hr : ∀ W, Below w.heap.size w W → Calls Tryz.prog 78 #[pr, fv] W fun e w' => e = .returned (.bool (mayT gs false r)) ∧ Below W.heap.size W w')
    (hn : ∀ W, Below w.heap.size w W → Calls Tryz.prog 110 #[pl, fv] W fun e w' => e = .returned (.bool (mayT gs true l)) ∧ Below W.heap.size W w') :
    Calls Tryz.prog 78 #[.pointer (some ⟨b, 0, none⟩), fv] w fun e w' => e = .returned (.bool (mayT gs false (.node a0 o0 ⟨c, col, k, n, t⟩ l r))) ∧ Below w.heap.size w w' := by
  have c0 : w.cell? ⟨b, 0, none⟩ = some (.int .i64 c) := cell_of_heap hh 0
  have c1 : w.cell? ⟨b, 1, none⟩ = some (.string col) := cell_of_heap hh 1
  have c2 : w.cell? ⟨b, 2, none⟩ = some (.int .i64 k) := cell_of_heap hh 2
  have c3 : w.cell? ⟨b, 3, none⟩ = some (.int .i64 n) := cell_of_heap hh 3
  have c4 : w.cell? ⟨b, 4, none⟩ = some (.string t) := cell_of_heap hh 4
  have c5 : w.cell? ⟨b, 5, none⟩ = some pl := cell_of_heap hh 5
  have c6 : w.cell? ⟨b, 6, none⟩ = some pr := cell_of_heap hh 6
  have hlt : b < w.heap.size := block_lt_of_cell c0
  have IT : Hid (∀ W, Below w.heap.size w W → Calls Tryz.prog 112 #[fv, .string col] W fun e w' => e = .returned (.agg (cellsS (gs col))) ∧ Below W.heap.size W w') := fun W hb => hg W col hb
  have HO := mkHid ho
  have IL := mkHid hl
  have IR := mkHid hr
  have IN := mkHid hn
  clear hh hg ho hl hr hn
  by_cases h9 : c = 9
  · have HQ : Hid ((mayT gs false l && mayT gs false r) = mayT gs false (.node a0 o0 ⟨c, col, k, n, t⟩ l r)) := m9f h9
    subst h9
    clear IT HO IN
    generalize mayT gs false (.node a0 o0 ⟨9, col, k, n, t⟩ l r) = ee at *
    generalize mayT gs false l = el at *
    generalize mayT gs false r = er at *
    cases hel : el
    · subst hel
      go_enter Tryz.func78, Tryz.ntmps78
      go_wp2_with fail
      refine (IL.out _ (Below.refl _ _)).mono ?_
      rintro e w1 ⟨rfl, hb1⟩
      go_wp2
      go_ret
      exact ⟨ret_bool HQ.out, hb1⟩
    · subst hel
      go_enter Tryz.func78, Tryz.ntmps78
      go_wp2_with fail
      refine (IL.out _ (Below.refl _ _)).mono ?_
      rintro e w1 ⟨rfl, hb1⟩
      replace c6 : w1.cell? ⟨b, 6, none⟩ = some pr := (hb1.cell (p := ⟨b, 6, none⟩) hlt).trans c6
      go_wp2_with fail
      refine (IR.out _ hb1).mono ?_
      rintro e w2 ⟨rfl, hb2⟩
      go_wp2
      go_ret
      exact ⟨ret_bool HQ.out, Below.up hb1 hb2⟩
  by_cases h10 : c = 10
  · have HQ : Hid ((mayT gs false l || mayT gs false r) = mayT gs false (.node a0 o0 ⟨c, col, k, n, t⟩ l r)) := m10f h10
    subst h10
    clear IT HO IN
    generalize mayT gs false (.node a0 o0 ⟨10, col, k, n, t⟩ l r) = ee at *
    generalize mayT gs false l = el at *
    generalize mayT gs false r = er at *
    cases hel : el
    · subst hel
      go_enter Tryz.func78, Tryz.ntmps78
      go_wp2_with fail
      refine (IL.out _ (Below.refl _ _)).mono ?_
      rintro e w1 ⟨rfl, hb1⟩
      replace c6 : w1.cell? ⟨b, 6, none⟩ = some pr := (hb1.cell (p := ⟨b, 6, none⟩) hlt).trans c6
      go_wp2_with fail
      refine (IR.out _ hb1).mono ?_
      rintro e w2 ⟨rfl, hb2⟩
      go_wp2
      go_ret
      exact ⟨ret_bool HQ.out, Below.up hb1 hb2⟩
    · subst hel
      go_enter Tryz.func78, Tryz.ntmps78
      go_wp2_with fail
      refine (IL.out _ (Below.refl _ _)).mono ?_
      rintro e w1 ⟨rfl, hb1⟩
      go_wp2
      go_ret
      exact ⟨ret_bool HQ.out, hb1⟩
  by_cases h11 : c = 11
  · have HQ : Hid (mayT gs true l = mayT gs false (.node a0 o0 ⟨c, col, k, n, t⟩ l r)) := m11f h11
    subst h11
    clear IT HO IL IR
    generalize mayT gs false (.node a0 o0 ⟨11, col, k, n, t⟩ l r) = ee at *
    generalize mayT gs true l = el at *
    go_enter Tryz.func78, Tryz.ntmps78
    go_wp2_with fail
    refine (IN.out _ (Below.refl _ _)).mono ?_
    rintro e w1 ⟨rfl, hb1⟩
    go_wp2
    go_ret
    exact ⟨ret_bool HQ.out, hb1⟩
  · have HQ : Hid (mayCol c (gs col) (k, n, t) = mayT gs false (.node a0 o0 ⟨c, col, k, n, t⟩ l r)) := m0f ⟨h9, h10, h11⟩
    have b9 : (c == 9) = false := by simpa using h9
    have b10 : (c == 10) = false := by simpa using h10
    have b11 : (c == 11) = false := by simpa using h11
    clear IL IR IN h9 h10 h11
    generalize mayT gs false (.node a0 o0 ⟨c, col, k, n, t⟩ l r) = ee at *
    generalize gs col = st at *
    obtain ⟨sc, sm, ⟨sk, sn, stx⟩, ⟨sk', sn', stx'⟩⟩ := st
    unfold cellsS at IT
    simp only at IT
    have HA1 : Hid (∀ d os, Calls Tryz.prog 112 #[fv, .string col] (grow (redrawn w d) os) fun e w'' => e = .returned (.agg #[.int .i64 sc, .int .i64 sm, .int .i64 sk, .int .i64 sn, .string stx, .int .i64 sk', .int .i64 sn', .string stx']) ∧ ∃ p : Regrown, w'' = grow (redrawn w p.d) p.os) := fun d os => Calls.regrown_of (IT.out _ (below_regrown w d os))
    have HA2 : Hid (∀ d os, Calls Tryz.prog 111 #[.int .i64 c, .agg #[.int .i64 sc, .int .i64 sm, .int .i64 sk, .int .i64 sn, .string stx, .int .i64 sk', .int .i64 sn', .string stx'], .agg #[.int .i64 k, .int .i64 n, .string t]] (grow (redrawn w d) os) fun e w'' => e = .returned (.bool (mayCol c (sc, sm, (sk, sn, stx), (sk', sn', stx')) (k, n, t))) ∧ ∃ p : Regrown, w'' = grow (redrawn w p.d) p.os) := fun d os => Calls.regrown_of (mayColumn_any c sc sm sk sn stx sk' sn' stx' k n t _)
    generalize mayCol c (sc, sm, (sk, sn, stx), (sk', sn', stx')) (k, n, t) = mc at *
    go_enter Tryz.func78, Tryz.ntmps78
    go_wp2_with fail
    replace c0 := cell_regrown c0; replace c1 := cell_regrown c1; replace c2 := cell_regrown c2; replace c3 := cell_regrown c3; replace c4 := cell_regrown c4
    clear c5 c6
    refine wp_region_quiet_below (by kernel_rfl) (by kernel_rfl) ?_
    repeat (go_big_quiet_step (first
      | (go_at_call_of 112 (#[fv, .string col] : Array Value); exact HA1.out _ _)
      | (go_at_call_of 111 (#[.int .i64 c, .agg #[.int .i64 sc, .int .i64 sm, .int .i64 sk, .int .i64 sn, .string stx, .int .i64 sk', .int .i64 sn', .string stx'], .agg #[.int .i64 k, .int .i64 n, .string t]] : Array Value); exact HA2.out _ _)))
    refine wpQuiet_nil ?_
    intro _ hw'
    obtain ⟨⟨dq, osq⟩, hw''⟩ := hw'
    subst hw''
    go_wp2
    go_ret
    exact ⟨ret_bool HQ.out, below_regrown w dq osq⟩

set_option maxHeartbeats 1000000 in
theorem may38_nil (fv : Value) (gs : ByteArray → St) (w : World) :
    Calls Tryz.prog 78 #[.pointer none, fv] w fun e w' => e = .returned (.bool (mayT gs false .nil)) ∧ Below w.heap.size w w' := by
  have HQ : Hid (true = mayT gs false .nil) := rfl
  go_enter Tryz.func78, Tryz.ntmps78
  go_wp2
  go_ret
  exact ⟨ret_bool HQ.out, Below.refl _ _⟩

set_option maxHeartbeats 8000000 in
theorem may51_node (fv : Value) (gs : ByteArray → St) (a0 o0 : Nat) (c : Int) (col : ByteArray) (k n : Int) (t : ByteArray) (l r : CT) (b : Nat) (pl pr : Value) (w : World)
    (hh : w.heap[b]? = some (.cells #[.int .i64 c, .string col, .int .i64 k, .int .i64 n, .string t, pl, pr] 110)) (hg : ToldS fv gs w) (ho : OppB w)
    (hl : ∀ W, Below w.heap.size w W → Calls Tryz.prog 110 #[pl, fv] W fun e w' => e = .returned (.bool (mayT gs true l)) ∧ Below W.heap.size W w')
    (hr : ∀ W, Below w.heap.size w W → Calls Tryz.prog 110 #[pr, fv] W fun e w' => e = .returned (.bool (mayT gs true r)) ∧ Below W.heap.size W w')
    (hn : ∀ W, Below w.heap.size w W → Calls Tryz.prog 78 #[pl, fv] W fun e w' => e = .returned (.bool (mayT gs false l)) ∧ Below W.heap.size W w') :
    Calls Tryz.prog 110 #[.pointer (some ⟨b, 0, none⟩), fv] w fun e w' => e = .returned (.bool (mayT gs true (.node a0 o0 ⟨c, col, k, n, t⟩ l r))) ∧ Below w.heap.size w w' := by
  have c0 : w.cell? ⟨b, 0, none⟩ = some (.int .i64 c) := cell_of_heap hh 0
  have c1 : w.cell? ⟨b, 1, none⟩ = some (.string col) := cell_of_heap hh 1
  have c2 : w.cell? ⟨b, 2, none⟩ = some (.int .i64 k) := cell_of_heap hh 2
  have c3 : w.cell? ⟨b, 3, none⟩ = some (.int .i64 n) := cell_of_heap hh 3
  have c4 : w.cell? ⟨b, 4, none⟩ = some (.string t) := cell_of_heap hh 4
  have c5 : w.cell? ⟨b, 5, none⟩ = some pl := cell_of_heap hh 5
  have c6 : w.cell? ⟨b, 6, none⟩ = some pr := cell_of_heap hh 6
  have hlt : b < w.heap.size := block_lt_of_cell c0
  have IT : Hid (∀ W, Below w.heap.size w W → Calls Tryz.prog 112 #[fv, .string col] W fun e w' => e = .returned (.agg (cellsS (gs col))) ∧ Below W.heap.size W w') := fun W hb => hg W col hb
  have HO := mkHid ho
  have IL := mkHid hl
  have IR := mkHid hr
  have IN := mkHid hn
  clear hh hg ho hl hr hn
  by_cases h9 : c = 9
  · have HQ : Hid ((mayT gs true l || mayT gs true r) = mayT gs true (.node a0 o0 ⟨c, col, k, n, t⟩ l r)) := m9t h9
    subst h9
    clear IT HO IN
    generalize mayT gs true (.node a0 o0 ⟨9, col, k, n, t⟩ l r) = ee at *
    generalize mayT gs true l = el at *
    generalize mayT gs true r = er at *
    cases hel : el
    · subst hel
      go_enter Tryz.func110, Tryz.ntmps110
      go_wp2_with fail
      refine (IL.out _ (Below.refl _ _)).mono ?_
      rintro e w1 ⟨rfl, hb1⟩
      replace c6 : w1.cell? ⟨b, 6, none⟩ = some pr := (hb1.cell (p := ⟨b, 6, none⟩) hlt).trans c6
      go_wp2_with fail
      refine (IR.out _ hb1).mono ?_
      rintro e w2 ⟨rfl, hb2⟩
      go_wp2
      go_ret
      exact ⟨ret_bool HQ.out, Below.up hb1 hb2⟩
    · subst hel
      go_enter Tryz.func110, Tryz.ntmps110
      go_wp2_with fail
      refine (IL.out _ (Below.refl _ _)).mono ?_
      rintro e w1 ⟨rfl, hb1⟩
      go_wp2
      go_ret
      exact ⟨ret_bool HQ.out, hb1⟩
  by_cases h10 : c = 10
  · have HQ : Hid ((mayT gs true l && mayT gs true r) = mayT gs true (.node a0 o0 ⟨c, col, k, n, t⟩ l r)) := m10t h10
    subst h10
    clear IT HO IN
    generalize mayT gs true (.node a0 o0 ⟨10, col, k, n, t⟩ l r) = ee at *
    generalize mayT gs true l = el at *
    generalize mayT gs true r = er at *
    cases hel : el
    · subst hel
      go_enter Tryz.func110, Tryz.ntmps110
      go_wp2_with fail
      refine (IL.out _ (Below.refl _ _)).mono ?_
      rintro e w1 ⟨rfl, hb1⟩
      go_wp2
      go_ret
      exact ⟨ret_bool HQ.out, hb1⟩
    · subst hel
      go_enter Tryz.func110, Tryz.ntmps110
      go_wp2_with fail
      refine (IL.out _ (Below.refl _ _)).mono ?_
      rintro e w1 ⟨rfl, hb1⟩
      replace c6 : w1.cell? ⟨b, 6, none⟩ = some pr := (hb1.cell (p := ⟨b, 6, none⟩) hlt).trans c6
      go_wp2_with fail
      refine (IR.out _ hb1).mono ?_
      rintro e w2 ⟨rfl, hb2⟩
      go_wp2
      go_ret
      exact ⟨ret_bool HQ.out, Below.up hb1 hb2⟩
  by_cases h11 : c = 11
  · have HQ : Hid (mayT gs false l = mayT gs true (.node a0 o0 ⟨c, col, k, n, t⟩ l r)) := m11t h11
    subst h11
    clear IT HO IL IR
    generalize mayT gs true (.node a0 o0 ⟨11, col, k, n, t⟩ l r) = ee at *
    generalize mayT gs false l = el at *
    go_enter Tryz.func110, Tryz.ntmps110
    go_wp2_with fail
    refine (IN.out _ (Below.refl _ _)).mono ?_
    rintro e w1 ⟨rfl, hb1⟩
    go_wp2
    go_ret
    exact ⟨ret_bool HQ.out, hb1⟩
  · have HQ : Hid (mayCol (opp c) (gs col) (k, n, t) = mayT gs true (.node a0 o0 ⟨c, col, k, n, t⟩ l r)) := m0t ⟨h9, h10, h11⟩
    have b9 : (c == 9) = false := by simpa using h9
    have b10 : (c == 10) = false := by simpa using h10
    have b11 : (c == 11) = false := by simpa using h11
    clear IL IR IN h9 h10 h11
    generalize mayT gs true (.node a0 o0 ⟨c, col, k, n, t⟩ l r) = ee at *
    generalize gs col = st at *
    obtain ⟨sc, sm, ⟨sk, sn, stx⟩, ⟨sk', sn', stx'⟩⟩ := st
    unfold cellsS at IT
    simp only at IT
    have HA0 : Hid (∀ d os, Calls Tryz.prog 131 #[.int .i64 c] (grow (redrawn w d) os) fun e w'' => e = .returned (.int .i64 (opp c)) ∧ ∃ p : Regrown, w'' = grow (redrawn w p.d) p.os) := fun d os => (opposite_any c _ (HO.out.below (below_regrown w d os))).mono fun _ _ ⟨he, hw⟩ => ⟨he, ⟨⟨d, os⟩, hw⟩⟩
    have HA1 : Hid (∀ d os, Calls Tryz.prog 112 #[fv, .string col] (grow (redrawn w d) os) fun e w'' => e = .returned (.agg #[.int .i64 sc, .int .i64 sm, .int .i64 sk, .int .i64 sn, .string stx, .int .i64 sk', .int .i64 sn', .string stx']) ∧ ∃ p : Regrown, w'' = grow (redrawn w p.d) p.os) := fun d os => Calls.regrown_of (IT.out _ (below_regrown w d os))
    have HA2 : Hid (∀ d os, Calls Tryz.prog 111 #[.int .i64 (opp c), .agg #[.int .i64 sc, .int .i64 sm, .int .i64 sk, .int .i64 sn, .string stx, .int .i64 sk', .int .i64 sn', .string stx'], .agg #[.int .i64 k, .int .i64 n, .string t]] (grow (redrawn w d) os) fun e w'' => e = .returned (.bool (mayCol (opp c) (sc, sm, (sk, sn, stx), (sk', sn', stx')) (k, n, t))) ∧ ∃ p : Regrown, w'' = grow (redrawn w p.d) p.os) := fun d os => Calls.regrown_of (mayColumn_any (opp c) sc sm sk sn stx sk' sn' stx' k n t _)
    generalize opp c = oc at *
    generalize mayCol oc (sc, sm, (sk, sn, stx), (sk', sn', stx')) (k, n, t) = mc at *
    go_enter Tryz.func110, Tryz.ntmps110
    go_wp2_with fail
    replace c0 := cell_regrown c0; replace c1 := cell_regrown c1; replace c2 := cell_regrown c2; replace c3 := cell_regrown c3; replace c4 := cell_regrown c4
    clear c5 c6
    refine wp_region_quiet_below (by kernel_rfl) (by kernel_rfl) ?_
    repeat (go_big_quiet_step (first
      | (go_at_call_of 131 (#[.int .i64 c] : Array Value); exact HA0.out _ _)
      | (go_at_call_of 112 (#[fv, .string col] : Array Value); exact HA1.out _ _)
      | (go_at_call_of 111 (#[.int .i64 oc, .agg #[.int .i64 sc, .int .i64 sm, .int .i64 sk, .int .i64 sn, .string stx, .int .i64 sk', .int .i64 sn', .string stx'], .agg #[.int .i64 k, .int .i64 n, .string t]] : Array Value); exact HA2.out _ _)))
    refine wpQuiet_nil ?_
    intro _ hw'
    obtain ⟨⟨dq, osq⟩, hw''⟩ := hw'
    subst hw''
    go_wp2
    go_ret
    exact ⟨ret_bool HQ.out, below_regrown w dq osq⟩

set_option maxHeartbeats 1000000 in
theorem may51_nil (fv : Value) (gs : ByteArray → St) (w : World) :
    Calls Tryz.prog 110 #[.pointer none, fv] w fun e w' => e = .returned (.bool (mayT gs true .nil)) ∧ Below w.heap.size w w' := by
  have HQ : Hid (false = mayT gs true .nil) := rfl
  go_enter Tryz.func110, Tryz.ntmps110
  go_wp2
  go_ret
  exact ⟨ret_bool HQ.out, Below.refl _ _⟩

theorem may_both (fv : Value) (gs : ByteArray → St) : ∀ (T : CT) (v : Value) (w : World), InC w T v → ToldS fv gs w → OppB w →
    (Calls Tryz.prog 78 #[v, fv] w fun e w' => e = .returned (.bool (mayT gs false T)) ∧ Below w.heap.size w w') ∧ (Calls Tryz.prog 110 #[v, fv] w fun e w' => e = .returned (.bool (mayT gs true T)) ∧ Below w.heap.size w w')
  | .nil, v, w, h, _, _ => by
    obtain rfl : v = .pointer none := h
    exact ⟨may38_nil fv gs w, may51_nil fv gs w⟩
  | .node a0 o0 ⟨c, col, k, n, t⟩ l r, v, w, h, hg, ho => by
    obtain ⟨b, pl, pr, rfl, hh, _, hl, hr⟩ := h
    have IL := fun W hb => may_both fv gs l pl W (hl.up hb) (hg.up hb) (ho.below hb)
    have IR := fun W hb => may_both fv gs r pr W (hr.up hb) (hg.up hb) (ho.below hb)
    exact ⟨may38_node fv gs a0 o0 c col k n t l r b pl pr w hh hg ho (fun W hb => (IL W hb).1) (fun W hb => (IR W hb).1) (fun W hb => (IL W hb).2),
      may51_node fv gs a0 o0 c col k n t l r b pl pr w hh hg ho (fun W hb => (IL W hb).2) (fun W hb => (IR W hb).2) (fun W hb => (IL W hb).1)⟩

set_option maxHeartbeats 1000000 in
theorem May_any (fv : Value) (gs : ByteArray → St) (T : CT) (v : Value) (w : World) (h : InC w T v) (hg : ToldS fv gs w) (ho : OppB w) (hd : withinT T 24 = true) :
    Calls Tryz.prog 54 #[v, fv] w fun e w' => e = .returned (.bool (mayT gs false T)) ∧ Below w.heap.size w w' := by
  have H1 : Hid (Calls Tryz.prog 50 #[v] w fun e w' => e = .returned (.bool true) ∧ w' = w) := by
    have := ends_any T v w h
    rw [hd] at this
    exact this
  have H2 := mkHid (may_both fv gs T v w h hg ho).1
  generalize mayT gs false T = ee at *
  clear h hg ho hd
  go_enter Tryz.func54, Tryz.ntmps54
  go_wp2_with fail
  refine H1.out.mono ?_; rintro e w1 ⟨rfl, rfl⟩
  go_wp2_with fail
  refine H2.out.mono ?_; rintro e w2 ⟨rfl, hb2⟩
  go_wp2
  go_ret
  exact ⟨rfl, hb2⟩
end Go.Proofs.YtodemklghajdeaaGreatDoor.S

namespace Go.Proofs.YtodemklghajdeaaGreatDoor.S
open Go.RowKit Go.Proofs

/-- Every code of the tree is one. -/
def okT : CT → Prop
  | .nil => True
  | .node _ _ ⟨c, _, _, _, _⟩ l r => (1 ≤ c ∧ c ≤ 11) ∧ okT l ∧ okT r
theorem InC.ok {w : World} : ∀ {T : CT} {v : Value}, InC w T v → okT T
  | .nil, _, _ => trivial
  | .node _ _ ⟨_, _, _, _, _⟩ _ _, _, ⟨_, _, _, _, _, hcd, hl, hr⟩ => ⟨hcd, InC.ok hl, InC.ok hr⟩

/-- A value is one of those of which this is known. -/
def Link (s : St) (x : V) : Prop := ∃ l, IsSt l s ∧ Alone l ∧ x ∈ l

/-- What a condition of a column comes to, of its value. -/
def leafI (c : Int) (x v : V) : Int := if c = 7 then b2i (x.1 == 0) else if c = 8 then b2i (x.1 != 0) else isV c x.1 x.2.1 x.2.2 v.1 v.2.1 v.2.2
theorem isV_one {c : Int} {x v : V} (h : isV c x.1 x.2.1 x.2.2 v.1 v.2.1 v.2.2 = 1) : ¬ x.1 = 0 ∧ x.1 = v.1 ∧ standsB c (cmpW x v) = true := by
  unfold isV at h
  split at h
  · omega
  · rename_i hk
    refine ⟨fun e => hk (.inl e), Classical.byContradiction fun e => hk (.inr e), ?_⟩
    cases hs : standsB c (cmpW x v) with
    | true => rfl
    | false => unfold cmpW at hs; rw [hs] at h; simp [b2i] at h
theorem isV_nought {c : Int} {x v : V} (h : isV c x.1 x.2.1 x.2.2 v.1 v.2.1 v.2.2 = 0) : ¬ x.1 = 0 ∧ x.1 = v.1 ∧ standsB c (cmpW x v) = false := by
  unfold isV at h
  split at h
  · omega
  · rename_i hk
    refine ⟨fun e => hk (.inl e), Classical.byContradiction fun e => hk (.inr e), ?_⟩
    cases hs : standsB c (cmpW x v) with
    | false => rfl
    | true => unfold cmpW at hs; rw [hs] at h; simp [b2i] at h
theorem isV_of {c : Int} {x v : V} (h1 : ¬ x.1 = 0) (h2 : x.1 = v.1) (h3 : standsB c (cmpW x v) = true) : isV c x.1 x.2.1 x.2.2 v.1 v.2.1 v.2.2 = 1 := by
  unfold isV
  rw [if_neg (by rintro (e | e); exact h1 e; exact e h2)]
  unfold cmpW at h3
  rw [h3]; rfl
theorem isB_of {c : Int} {x v : V} (h1 : ¬ x.1 = 0) (h2 : x.1 = v.1) (h3 : standsB c (cmpW x v) = true) : isB c x v = true := by
  unfold isB; rw [isV_of h1 h2 h3]; rfl
theorem stands1 (o : Int) : standsB 1 o = true ↔ o = 0 := by simp [standsB]
theorem stands2 (o : Int) : standsB 2 o = true ↔ ¬ o = 0 := by simp [standsB]
theorem stands3 (o : Int) : standsB 3 o = true ↔ o < 0 := by simp [standsB]
theorem stands4 (o : Int) : standsB 4 o = true ↔ o ≤ 0 := by simp [standsB]
theorem stands5 (o : Int) : standsB 5 o = true ↔ 0 < o := by simp [standsB]
theorem stands6 (o : Int) : standsB 6 o = true ↔ 0 ≤ o := by simp [standsB]
theorem stands_opp {c o : Int} (hc : 1 ≤ c) (hc' : c ≤ 6) (h : standsB c o = false) : standsB (opp c) o = true := by
  rcases (show c = 1 ∨ c = 2 ∨ c = 3 ∨ c = 4 ∨ c = 5 ∨ c = 6 by omega) with rfl | rfl | rfl | rfl | rfl | rfl
  · rw [show opp 1 = 2 from rfl, stands2]; intro e; rw [(stands1 o).2 e] at h; cases h
  · rw [show opp 2 = 1 from rfl, stands1]; exact Classical.byContradiction fun e => by rw [(stands2 o).2 e] at h; cases h
  · rw [show opp 3 = 6 from rfl, stands6]; exact Classical.byContradiction fun e => by rw [(stands3 o).2 (by omega)] at h; cases h
  · rw [show opp 4 = 5 from rfl, stands5]; exact Classical.byContradiction fun e => by rw [(stands4 o).2 (by omega)] at h; cases h
  · rw [show opp 5 = 4 from rfl, stands4]; exact Classical.byContradiction fun e => by rw [(stands5 o).2 (by omega)] at h; cases h
  · rw [show opp 6 = 3 from rfl, stands3]; exact Classical.byContradiction fun e => by rw [(stands6 o).2 (by omega)] at h; cases h
theorem opp_range {c : Int} (hc : 1 ≤ c) (hc' : c ≤ 8) : 1 ≤ opp c ∧ opp c ≤ 8 := by
  rcases (show c = 1 ∨ c = 2 ∨ c = 3 ∨ c = 4 ∨ c = 5 ∨ c = 6 ∨ c = 7 ∨ c = 8 by omega) with rfl | rfl | rfl | rfl | rfl | rfl | rfl | rfl <;> decide
theorem opp_low {c : Int} (hc : 1 ≤ c) (hc' : c ≤ 6) : ¬ opp c = 7 ∧ ¬ opp c = 8 := by
  rcases (show c = 1 ∨ c = 2 ∨ c = 3 ∨ c = 4 ∨ c = 5 ∨ c = 6 by omega) with rfl | rfl | rfl | rfl | rfl | rfl <;> decide
theorem leaf_opp {c : Int} {x v : V} (hc : 1 ≤ c) (hc' : c ≤ 8) (h : leafI c x v = 0) : leafI (opp c) x v = 1 := by
  by_cases h7 : c = 7
  · subst h7
    have hx : (x.1 == 0) = false := by
      cases e : (x.1 == 0) with
      | false => rfl
      | true => simp [leafI, e, b2i] at h
    rw [show opp 7 = 8 from rfl]
    have hx' : ¬ x.1 = 0 := by simpa using hx
    simp [leafI, b2i, hx']
  by_cases h8 : c = 8
  · subst h8
    have hx : x.1 = 0 := Classical.byContradiction fun e => by simp [leafI, b2i, e] at h
    rw [show opp 8 = 7 from rfl]
    simp [leafI, b2i, hx]
  · have hl : isV c x.1 x.2.1 x.2.2 v.1 v.2.1 v.2.2 = 0 := by simpa [leafI, h7, h8] using h
    obtain ⟨a1, a2, a3⟩ := isV_nought hl
    have ho := opp_low hc (by omega)
    unfold leafI
    rw [if_neg ho.1, if_neg ho.2]
    exact isV_of a1 a2 (stands_opp hc (by omega) a3)

/-- A condition of a column that is 1 of one of its values may hold of what is known of them. -/
theorem leaf_may {c : Int} {s : St} {x v : V} (hc : 1 ≤ c) (hc' : c ≤ 8) (hk : Link s x) (h : leafI c x v = 1) : mayCol c s v = true := by
  obtain ⟨l, hs, ha, hx⟩ := hk
  by_cases h7 : c = 7
  · subst h7
    have hx0 : x.1 = 0 := Classical.byContradiction fun e => by simp [leafI, b2i, e] at h
    have := hs.null hx hx0
    simp [mayCol, this]
  by_cases h8 : c = 8
  · subst h8
    have hx0 : ¬ x.1 = 0 := fun e => by simp [leafI, b2i, e] at h
    have := (hs.some ha hx hx0).1
    simp [mayCol, this]
  have hl : isV c x.1 x.2.1 x.2.2 v.1 v.2.1 v.2.2 = 1 := by simpa [leafI, h7, h8] using h
  obtain ⟨a1, a2, a3⟩ := isV_one hl
  obtain ⟨_, d1, d2, d3, d4⟩ := hs.some ha hx a1
  have m1 : ¬ s.2.2.1.1 = 0 := by rw [d1]; exact a1
  have m2 : s.2.2.1.1 = v.1 := d1.trans a2
  have x1 : ¬ s.2.2.2.1 = 0 := by rw [d2]; exact a1
  have x2 : s.2.2.2.1 = v.1 := d2.trans a2
  have sw1 := cmpW_swap s.2.2.1 v
  have sw2 := cmpW_swap s.2.2.2 v
  have sw3 := cmpW_swap x v
  have sw4 := cmpW_swap x s.2.2.2
  have sw5 := cmpW_swap s.2.2.1 x
  rcases (show c = 1 ∨ c = 2 ∨ c = 3 ∨ c = 4 ∨ c = 5 ∨ c = 6 by omega) with rfl | rfl | rfl | rfl | rfl | rfl
  · rw [stands1] at a3
    have e := cmpW_zero.1 a3
    subst e
    have b1 : isB 4 s.2.2.1 x = true := isB_of m1 m2 ((stands4 _).2 d3)
    have b2 : isB 6 s.2.2.2 x = true := isB_of x1 x2 ((stands6 _).2 (by omega))
    simp [mayCol, b1, b2]
  · rw [stands2] at a3
    have : ¬ cmpW s.2.2.1 v = 0 ∨ ¬ cmpW s.2.2.2 v = 0 := Classical.byContradiction fun e => by
      have e1 : cmpW s.2.2.1 v = 0 := Classical.byContradiction fun f => e (.inl f)
      have e2 : cmpW s.2.2.2 v = 0 := Classical.byContradiction fun f => e (.inr f)
      rw [cmpW_zero] at e1 e2
      rw [e1] at d3
      rw [e2] at d4
      exact a3 (cmpW_zero.2 (cmpW_anti d4 d3))
    rcases this with e | e
    · have b1 : isB 2 s.2.2.1 v = true := isB_of m1 m2 ((stands2 _).2 e)
      simp [mayCol, b1]
    · have b1 : isB 2 s.2.2.2 v = true := isB_of x1 x2 ((stands2 _).2 e)
      simp [mayCol, b1]
  · rw [stands3] at a3
    have : cmpW s.2.2.1 v < 0 := Classical.byContradiction fun e => by
      have : cmpW v x ≤ 0 := cmpW_trans (y := s.2.2.1) (by omega) d3
      omega
    have b1 : isB 3 s.2.2.1 v = true := isB_of m1 m2 ((stands3 _).2 this)
    simp [mayCol, b1]
  · rw [stands4] at a3
    have b1 : isB 4 s.2.2.1 v = true := isB_of m1 m2 ((stands4 _).2 (cmpW_trans d3 a3))
    simp [mayCol, b1]
  · rw [stands5] at a3
    have : 0 < cmpW s.2.2.2 v := Classical.byContradiction fun e => by
      have : cmpW x v ≤ 0 := cmpW_trans d4 (by omega)
      omega
    have b1 : isB 5 s.2.2.2 v = true := isB_of x1 x2 ((stands5 _).2 this)
    simp [mayCol, b1]
  · rw [stands6] at a3
    have : cmpW v s.2.2.2 ≤ 0 := cmpW_trans (y := x) (by omega) d4
    have b1 : isB 6 s.2.2.2 v = true := isB_of x1 x2 ((stands6 _).2 (by omega))
    simp [mayCol, b1]

theorem notI_one {n : Int} (h : notI n = 1) : n = 0 := by unfold notI at h; split at h <;> omega
theorem notI_nought {n : Int} (h : notI n = 0) : n = 1 := by unfold notI at h; split at h <;> omega
theorem andI_one {a b : Int} (ha : -1 ≤ a ∧ a ≤ 1) (hb : -1 ≤ b ∧ b ≤ 1) (h : andI a b = 1) : a = 1 ∧ b = 1 := by unfold andI at h; split at h <;> omega
theorem andI_nought {a b : Int} (h : andI a b = 0) : a = 0 ∨ b = 0 := by unfold andI at h; split at h <;> omega
theorem orJ_one {a b : Int} (ha : -1 ≤ a ∧ a ≤ 1) (hb : -1 ≤ b ∧ b ≤ 1) (h : orJ a b = 1) : a = 1 ∨ b = 1 := by unfold orJ at h; split at h <;> omega
theorem orJ_nought {a b : Int} (ha : -1 ≤ a ∧ a ≤ 1) (hb : -1 ≤ b ∧ b ≤ 1) (h : orJ a b = 0) : a = 0 ∧ b = 0 := by
  unfold orJ at h; split at h
  · omega
  · constructor <;> omega

theorem sound (P : ByteArray → Prop) (gs : ByteArray → St) (gv : ByteArray → V) (hk : ∀ col, P col → Link (gs col) (gv col)) : ∀ T : CT, okT T → Asks P T →
    (evT (fun s => (gv s).1) (fun s => (gv s).2.1) (fun s => (gv s).2.2) T = 1 → mayT gs false T = true) ∧ (evT (fun s => (gv s).1) (fun s => (gv s).2.1) (fun s => (gv s).2.2) T = 0 → mayT gs true T = true)
  | .nil, _, _ => ⟨fun _ => rfl, fun h => by simp [evT] at h⟩
  | .node a0 o0 ⟨c, col, k, n, t⟩ l r, h, ha => by
    obtain ⟨hc, hl, hr⟩ := h
    have il := fun hx => sound P gs gv hk l hl (ha.left hx)
    have ir := fun hx => sound P gs gv hk r hr (ha.right hx)
    have rl := evT_range (fun s => (gv s).1) (fun s => (gv s).2.1) (fun s => (gv s).2.2) l
    have rr := evT_range (fun s => (gv s).1) (fun s => (gv s).2.1) (fun s => (gv s).2.2) r
    by_cases h9 : c = 9
    · replace il := il (by omega)
      replace ir := ir (by omega)
      rw [← m9f h9, ← m9t h9, ← e9 h9]
      constructor
      · intro e
        obtain ⟨e1, e2⟩ := andI_one rl rr e
        rw [il.1 e1, ir.1 e2]; rfl
      · intro e
        rcases andI_nought e with e1 | e1
        · rw [il.2 e1]; rfl
        · rw [ir.2 e1]; simp
    by_cases h10 : c = 10
    · replace il := il (by omega)
      replace ir := ir (by omega)
      rw [← m10f h10, ← m10t h10, ← e10 h10]
      constructor
      · intro e
        rcases orJ_one rl rr e with e1 | e1
        · rw [il.1 e1]; rfl
        · rw [ir.1 e1]; simp
      · intro e
        obtain ⟨e1, e2⟩ := orJ_nought rl rr e
        rw [il.2 e1, ir.2 e2]; rfl
    by_cases h11 : c = 11
    · replace il := il (by omega)
      rw [← m11f h11, ← m11t h11, ← e11 h11]
      exact ⟨fun e => il.2 (notI_one e), fun e => il.1 (notI_nought e)⟩
    · have he : evT (fun s => (gv s).1) (fun s => (gv s).2.1) (fun s => (gv s).2.2) (.node a0 o0 ⟨c, col, k, n, t⟩ l r) = leafI c (gv col) (k, n, t) := by
        by_cases h7 : c = 7
        · rw [← e7 h7]; simp [leafI, h7]
        by_cases h8 : c = 8
        · rw [← e8 h8]; simp [leafI, h8]
        · rw [← e0 ⟨h7, h8, h11, h9, h10⟩]; simp [leafI, h7, h8]
      rw [he, ← m0f ⟨h9, h10, h11⟩, ← m0t ⟨h9, h10, h11⟩]
      refine ⟨fun e => leaf_may (by omega) (by omega) (hk col (ha.col (by omega))) e, fun e => ?_⟩
      have ho := opp_range (c := c) (by omega) (by omega)
      exact leaf_may ho.1 ho.2 (hk col (ha.col (by omega))) (leaf_opp (by omega) (by omega) e)
end Go.Proofs.YtodemklghajdeaaGreatDoor.S

namespace Go.Proofs.YtodemklghajdeaaGreatDoor.S
open Go.RowKit Go.Proofs
open Go.Sort (grow)

set_option maxHeartbeats 1000000 in
theorem toldSkip_any (pa pi pb : Value) (gk gn : ByteArray → Int) (gt : ByteArray → ByteArray) (s : ByteArray) (w : World) (hg : ∀ (W : World), Below w.heap.size w W → Calls Tryz.prog 26 #[.string s, pa, pi, pb] W fun e w' => e = .returned (.agg #[.int .i64 (gk s), .int .i64 (gn s), .string (gt s)]) ∧ Below W.heap.size W w') :
    Calls Tryz.prog 80 #[.func (.func 26) #[] #[pa, pi, pb], .string s] w fun e w' => e = .returned (.agg #[.int .i64 (gk s), .int .i64 (gn s), .string (gt s)]) ∧ Below w.heap.size w w' := by
  have HC : Hid (∀ W, Below w.heap.size w W → Calls Tryz.prog 26 #[.string s, pa, pi, pb] W fun e w' => e = .returned (.agg #[.int .i64 (gk s), .int .i64 (gn s), .string (gt s)]) ∧ Below W.heap.size W w') := fun W hb => hg W hb
  clear hg
  have hmf : ∀ (fn : Fn) (first cap : Array Value) (w : World), (Instr.makeFunc fn first cap).run Tryz.prog w = .ok (.func fn first cap) w := fun _ _ _ _ => rfl
  generalize gk s = k, gn s = n, gt s = t at *
  go_enter_defers Tryz.func80, Tryz.ntmps80
  go_wp2_with fail
  refine (HC.out _ ((Below.refl _ _).alloc (Nat.le_refl _) _)).mono ?_
  rintro e w1 ⟨rfl, hb1⟩
  have c0 : w1.cell? ⟨w.heap.size, 0, none⟩ = some (.int .i64 0) := (hb1.cell (p := ⟨w.heap.size, 0, none⟩) (by simp)).trans (by go_simp)
  have c1 : w1.cell? ⟨w.heap.size, 1, none⟩ = some (.int .i64 0) := (hb1.cell (p := ⟨w.heap.size, 1, none⟩) (by simp)).trans (by go_simp)
  have c2 : w1.cell? ⟨w.heap.size, 2, none⟩ = some (.string ⟨#[]⟩) := (hb1.cell (p := ⟨w.heap.size, 2, none⟩) (by simp)).trans (by go_simp)
  have f0 : w1.frozen? ⟨w.heap.size, 0, none⟩ = false := (hb1.frozen (p := ⟨w.heap.size, 0, none⟩) (by simp)).trans (by go_simp)
  have f1 : w1.frozen? ⟨w.heap.size, 1, none⟩ = false := (hb1.frozen (p := ⟨w.heap.size, 1, none⟩) (by simp)).trans (by go_simp)
  have f2 : w1.frozen? ⟨w.heap.size, 2, none⟩ = false := (hb1.frozen (p := ⟨w.heap.size, 2, none⟩) (by simp)).trans (by go_simp)
  have B1 : Hid (Below w.heap.size w w1) := ((Below.refl _ w).alloc (Nat.le_refl _) _).trans (hb1.mono (by simp))
  clear hb1
  go_wp2
  refine leaves_cons (f := 113) (args := #[.pointer (some ⟨w.heap.size, 0, none⟩)]) (by simp) (by simp [go_sem]) ?_
  refine (idle_any ⟨w.heap.size, 0, none⟩ _).mono ?_
  rintro e u' w'' ⟨rfl, rfl, rfl⟩
  simp [Leaves, settle, results, Tryz.results80, go_sem, c0, c1, c2]
  exact ((B1.out.setCell (Nat.le_refl _) _).setCell (Nat.le_refl _) _).setCell (Nat.le_refl _) _
end Go.Proofs.YtodemklghajdeaaGreatDoor.S

namespace Go.Proofs.YtodemklghajdeaaGreatDoor.S
open Go.RowKit Go.Proofs

def depthT : CT → Nat
  | .nil => 0
  | .node _ _ _ l r => 1 + max (depthT l) (depthT r)
theorem withinT_of_depth : ∀ (T : CT) (o : Nat), depthT T ≤ o + 1 → withinT T o = true
  | .nil, _, _ => rfl
  | .node _ _ _ l r, o, h => by
    simp only [depthT] at h
    have hl : withinT l ((o : Int) - 1) = true := by
      cases o with
      | zero =>
        have : depthT l = 0 := by omega
        cases l with
        | nil => rfl
        | node => simp [depthT] at this
      | succ o => rw [show ((o + 1 : Nat) : Int) - 1 = (o : Int) by omega]; exact withinT_of_depth l o (by omega)
    have hr : withinT r ((o : Int) - 1) = true := by
      cases o with
      | zero =>
        have : depthT r = 0 := by omega
        cases r with
        | nil => rfl
        | node => simp [depthT] at this
      | succ o => rw [show ((o + 1 : Nat) : Int) - 1 = (o : Int) by omega]; exact withinT_of_depth r o (by omega)
    simp [withinT, hl, hr]
theorem InC.grown {w w' : World} {row : Option Nat} (hg : w.grownBy w' row) (hrow : ∀ g, row = some g → ∃ cur, w.heap[g]? = some (.cells cur 60)) : ∀ {T : CT} {v : Value}, InC w T v → InC w' T v
  | .nil, _, h => h
  | .node _ _ ⟨_, _, _, _, _⟩ _ _, _, ⟨b, pl, pr, e, hh, hcd, hl, hr⟩ => ⟨b, pl, pr, e, by
      rw [hg.block b (by
        rcases Nat.lt_or_ge b w.heap.size with h' | h'
        · exact h'
        · rw [Array.getElem?_eq_none h'] at hh; cases hh) (fun e' => by
          obtain ⟨cur, hc⟩ := hrow b e'.symm
          rw [hh] at hc
          injection hc with hc
          injection hc with _ hc
          exact absurd hc (by decide))]
      exact hh, hcd, InC.grown hg hrow hl, InC.grown hg hrow hr⟩

/-- A stack of trees: its pointers lie in a row of the call's own. -/
structure Stack (w0 wr : World) (i : Nat) (v : Value) (n : Nat) (vs : List Value) (Ts : List CT) : Prop where
  own : wr.ownsRow w0.heap.size 60 1 v n vs
  len : Ts.length = n
  ins : ∀ (j : Nat) (T : CT) (u : Value), Ts[j]? = some T → vs[j]? = some u → InC wr T u ∧ 0 < depthT T
  dep : (Ts.map depthT).sum ≤ i
  bel : Below w0.heap.size w0 wr


theorem ownsRow_up {w W : World} {B e z n : Nat} {v : Value} {xs : List Value} (h : w.ownsRow B e z v n xs) (hb : Below w.heap.size w W) : W.ownsRow B e z v n xs := by
  refine ⟨h.1, ?_⟩
  rcases h.2 with h' | ⟨g, cap, cur, e1, e2, e3, e4⟩
  · exact .inl h'
  · refine .inr ⟨g, cap, cur, e1, e2, ?_, e4⟩
    rw [hb.block g (by
      rcases Nat.lt_or_ge g w.heap.size with h' | h'
      · exact h'
      · rw [Array.getElem?_eq_none h'] at e3; cases e3)]
    exact e3
theorem ownsRow_base {w : World} {B B' e z n : Nat} {v : Value} {xs : List Value} (h : w.ownsRow B e z v n xs) (hB : B' ≤ B) : w.ownsRow B' e z v n xs := by
  refine ⟨h.1, ?_⟩
  rcases h.2 with h' | ⟨g, cap, cur, e1, e2, e3⟩
  · exact .inl h'
  · exact .inr ⟨g, cap, cur, e1, Nat.le_trans hB e2, e3⟩
theorem ownsRow_slice {w : World} {B e z n : Nat} {v : Value} {xs : List Value} (h : w.ownsRow B e z v n xs) : ∃ ao cp, v = .slice ao n cp ∧ n ≤ cp ∧ cp ≤ maxLen := by
  rcases h.2 with ⟨rfl, rfl⟩ | ⟨g, cap, cur, e1, e2, e3, e4, e5, _⟩
  · exact ⟨none, 0, rfl, Nat.le_refl _, by unfold maxLen; omega⟩
  · exact ⟨_, _, e1, e4, e5⟩
theorem below_grown {w w' : World} (hg : w.grownBy w' none) : Below w.heap.size w w' :=
  ⟨hg.os, hg.tape, hg.output, hg.size, fun k hk => hg.block k hk (by simp)⟩

theorem sum_ge : ∀ (Ts : List CT), (∀ T ∈ Ts, 0 < depthT T) → Ts.length ≤ (Ts.map depthT).sum
  | [], _ => by simp
  | T :: Ts, h => by
    have h1 := h T (by simp)
    have h2 := sum_ge Ts (fun T' hT' => h T' (by simp [hT']))
    simp only [List.map_cons, List.sum_cons, List.length_cons]; omega
theorem Stack.vlen {w0 wr : World} {i : Nat} {v : Value} {n : Nat} {vs : List Value} {Ts : List CT} (h : Stack w0 wr i v n vs Ts) : vs.length = n := by
  have := h.own.1; omega
theorem Stack.pos {w0 wr : World} {i : Nat} {v : Value} {n : Nat} {vs : List Value} {Ts : List CT} (h : Stack w0 wr i v n vs Ts) : ∀ T ∈ Ts, 0 < depthT T := by
  intro T hT
  obtain ⟨j, hj, e⟩ := List.mem_iff_getElem.1 hT
  have hv : j < vs.length := by rw [h.vlen, ← h.len]; exact hj
  exact (h.ins j T vs[j] (by rw [List.getElem?_eq_getElem hj, e]) (List.getElem?_eq_getElem hv)).2
theorem Stack.n_le {w0 wr : World} {i : Nat} {v : Value} {n : Nat} {vs : List Value} {Ts : List CT} (h : Stack w0 wr i v n vs Ts) : n ≤ i := by
  have h1 := sum_ge Ts h.pos
  have h2 := h.dep
  have h3 := h.len
  omega
theorem Stack.up {w0 wr W : World} {i i' : Nat} {v : Value} {n : Nat} {vs : List Value} {Ts : List CT} (h : Stack w0 wr i v n vs Ts) (hb : Below wr.heap.size wr W) (hi : i ≤ i') : Stack w0 W i' v n vs Ts :=
  ⟨ownsRow_up h.own hb, h.len, fun j T u h1 h2 => ⟨(h.ins j T u h1 h2).1.up hb, (h.ins j T u h1 h2).2⟩, Nat.le_trans h.dep hi, Below.up h.bel hb⟩
theorem own_row {w : World} {B n : Nat} {v : Value} {xs : List Value} (h : w.ownsRow B 60 1 v n xs) : ∀ g, v.ownBlock = some g → ∃ cur, w.heap[g]? = some (.cells cur 60) := by
  intro g hg
  rcases h.2 with ⟨rfl, _⟩ | ⟨g', cap, cur, rfl, e2, e3, e4⟩
  · cases hg
  · cases hg; exact ⟨cur, e3⟩
theorem Stack.push {w0 wr w1 : World} {i : Nat} {v v' : Value} {n : Nat} {vs : List Value} {Ts : List CT} {T : CT} {u : Value} (h : Stack w0 wr i v n vs Ts) (hT : InC wr T u) (hd : depthT T = 1)
    (hg : wr.grownBy w1 v.ownBlock) (ho : w1.ownsRow w0.heap.size 60 1 v' (n + 1) (vs ++ [u])) : Stack w0 w1 (i + 1) v' (n + 1) (vs ++ [u]) (Ts ++ [T]) := by
  have hrow := own_row h.own
  refine ⟨ho, by simp [h.len], ?_, ?_, ?_⟩
  · intro j T' u' h1 h2
    have hl : Ts.length = vs.length := by rw [h.len, h.vlen]
    by_cases hj : j < Ts.length
    · rw [List.getElem?_append_left hj] at h1
      rw [List.getElem?_append_left (by omega)] at h2
      exact ⟨(h.ins j T' u' h1 h2).1.grown hg hrow, (h.ins j T' u' h1 h2).2⟩
    · rw [List.getElem?_append_right (by omega)] at h1
      rw [List.getElem?_append_right (by omega)] at h2
      have e : j - Ts.length = 0 := by
        rcases Nat.eq_zero_or_pos (j - Ts.length) with h0 | h0
        · exact h0
        · rw [List.getElem?_eq_none (by simp; omega)] at h1; cases h1
      rw [e] at h1
      rw [← hl, e] at h2
      simp at h1 h2
      subst h1 h2
      exact ⟨hT.grown hg hrow, by omega⟩
  · have := h.dep; simp; omega
  · exact Below.grown h.bel hg h.bel.size (fun k hk => (h.own.lt k hk).1)
theorem Stack.replace {w0 wr w1 : World} {i : Nat} {v v' : Value} {n : Nat} {vs : List Value} {Ts : List CT} {T : CT} {u : Value} (h : Stack w0 wr i v n vs Ts) (m : Nat) (hm : m ≤ n) (hT : InC wr T u) (hp : 0 < depthT T)
    (hd : ((Ts.take m).map depthT).sum + depthT T ≤ i + 1) (hg : wr.grownBy w1 none) (ho : w1.ownsRow wr.heap.size 60 1 v' (m + 1) (vs.take m ++ [u])) : Stack w0 w1 (i + 1) v' (m + 1) (vs.take m ++ [u]) (Ts.take m ++ [T]) := by
  have hb := below_grown hg
  have hl : (Ts.take m).length = m := by simp [h.len]; omega
  have hv : (vs.take m).length = m := by simp [h.vlen]; omega
  refine ⟨ownsRow_base ho h.bel.size, by simp [h.len]; omega, ?_, by rw [List.map_append, List.sum_append]; simp only [List.map_cons, List.map_nil, List.sum_cons, List.sum_nil]; omega, Below.up h.bel hb⟩
  intro j T' u' h1 h2
  by_cases hj : j < m
  · rw [List.getElem?_append_left (by omega), List.getElem?_take_of_lt hj] at h1
    rw [List.getElem?_append_left (by omega), List.getElem?_take_of_lt hj] at h2
    exact ⟨(h.ins j T' u' h1 h2).1.up hb, (h.ins j T' u' h1 h2).2⟩
  · rw [List.getElem?_append_right (by omega)] at h1
    rw [List.getElem?_append_right (by omega)] at h2
    have e : j - m = 0 := by
      rcases Nat.eq_zero_or_pos (j - m) with h0 | h0
      · exact h0
      · rw [List.getElem?_eq_none (by simp; omega)] at h1; cases h1
    rw [hl, e] at h1
    rw [hv, e] at h2
    simp at h1 h2
    subst h1 h2
    exact ⟨hT.up hb, hp⟩
theorem Stack.top1 {w0 wr : World} {i : Nat} {v : Value} {m : Nat} {vs : List Value} {Ts : List CT} (h : Stack w0 wr i v (m + 1) vs Ts) : ∃ u T, vs[m]? = some u ∧ InC wr T u ∧ ((Ts.take m).map depthT).sum + depthT T ≤ i := by
  have hv : m < vs.length := by rw [h.vlen]; omega
  have ht : m < Ts.length := by rw [h.len]; omega
  refine ⟨vs[m], Ts[m], List.getElem?_eq_getElem hv, (h.ins m _ _ (List.getElem?_eq_getElem ht) (List.getElem?_eq_getElem hv)).1, ?_⟩
  have e : Ts = Ts.take m ++ [Ts[m]] := by
    rw [← List.take_succ_eq_append_getElem ht, List.take_of_length_le (by rw [h.len]; omega)]
  have hd := h.dep
  have hs := congrArg (fun l => (l.map depthT).sum) e
  simp only [List.map_append, List.sum_append, List.map_cons, List.map_nil, List.sum_cons, List.sum_nil] at hs
  omega
theorem Stack.top2 {w0 wr : World} {i : Nat} {v : Value} {m : Nat} {vs : List Value} {Ts : List CT} (h : Stack w0 wr i v (m + 2) vs Ts) : ∃ u1 u2 T1 T2, vs[m]? = some u1 ∧ vs[m + 1]? = some u2 ∧ InC wr T1 u1 ∧ InC wr T2 u2 ∧ 0 < depthT T1 ∧ 0 < depthT T2 ∧ ((Ts.take m).map depthT).sum + depthT T1 + depthT T2 ≤ i := by
  have hv : m + 1 < vs.length := by rw [h.vlen]; omega
  have ht : m + 1 < Ts.length := by rw [h.len]; omega
  have g1 := h.ins m _ _ (List.getElem?_eq_getElem (Nat.lt_of_succ_lt ht)) (List.getElem?_eq_getElem (Nat.lt_of_succ_lt hv))
  have g2 := h.ins (m + 1) _ _ (List.getElem?_eq_getElem ht) (List.getElem?_eq_getElem hv)
  refine ⟨vs[m], vs[m + 1], Ts[m], Ts[m + 1], List.getElem?_eq_getElem _, List.getElem?_eq_getElem hv, g1.1, g2.1, g1.2, g2.2, ?_⟩
  have e : Ts = Ts.take m ++ [Ts[m]] ++ [Ts[m + 1]] := by
    rw [← List.take_succ_eq_append_getElem (Nat.lt_of_succ_lt ht), ← List.take_succ_eq_append_getElem ht, List.take_of_length_le (by rw [h.len]; omega)]
  have hd := h.dep
  have hs := congrArg (fun l => (l.map depthT).sum) e
  simp only [List.map_append, List.sum_append, List.map_cons, List.map_nil, List.sum_cons, List.sum_nil] at hs
  omega
theorem Stack.cells {w0 wr : World} {i : Nat} {g cp : Nat} {n : Nat} {vs : List Value} {Ts : List CT} (h : Stack w0 wr i (.slice (some ⟨g, 0, none⟩) n cp) n vs Ts) {j : Nat} {u : Value} (hu : vs[j]? = some u) : wr.cell? ⟨g, j, none⟩ = some u := by
  have := h.own.cells (g := g) rfl j u hu
  have hadd : (⟨g, 0, none⟩ : Addr).add j = ⟨g, j, none⟩ := by unfold Addr.add; split <;> simp_all
  rwa [hadd] at this
theorem Stack.some_of {w0 wr : World} {i : Nat} {ao : Option Addr} {cp n : Nat} {vs : List Value} {Ts : List CT} (h : Stack w0 wr i (.slice ao n cp) n vs Ts) (hn : 0 < n) : ∃ g, ao = some ⟨g, 0, none⟩ ∧ w0.heap.size ≤ g ∧ g < wr.heap.size := by
  rcases h.own.2 with ⟨e, e'⟩ | ⟨g, cap, cur, e1, e2, e3, _⟩
  · omega
  · injection e1 with e1 _ _
    refine ⟨g, e1, e2, ?_⟩
    rcases Nat.lt_or_ge g wr.heap.size with h' | h'
    · exact h'
    · rw [Array.getElem?_eq_none h'] at e3; cases e3
theorem Stack.last {w0 wr : World} {i : Nat} {v : Value} {n : Nat} {vs : List Value} {Ts : List CT} (h : Stack w0 wr i v n vs Ts) {j : Nat} (hj : j < n) : ∃ u T, vs[j]? = some u ∧ Ts[j]? = some T ∧ InC wr T u ∧ 0 < depthT T := by
  have hv : j < vs.length := by rw [h.vlen]; omega
  have ht : j < Ts.length := by rw [h.len]; omega
  exact ⟨vs[j], Ts[j], List.getElem?_eq_getElem hv, List.getElem?_eq_getElem ht, h.ins j _ _ (List.getElem?_eq_getElem ht) (List.getElem?_eq_getElem hv)⟩
end Go.Proofs.YtodemklghajdeaaGreatDoor.S
