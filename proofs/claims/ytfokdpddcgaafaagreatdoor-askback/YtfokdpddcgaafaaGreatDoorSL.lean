/- What value.told, not, and, or, within and holds do at every condition that lies in memory as a tree, said of every call. -/
import Derived.Test.YtfokdpddcgaafaaGreatDoorSW
import Derived.Lib.QuietBelow
import Derived.BigQuiet
import Derived.Deep.RegionWith
import Derived.Defers
import Derived.Recover
import Derived.Deep.Trees
namespace Go.Proofs.YtfokdpddcgaafaaGreatDoor.S
open Go.RowKit Go.Proofs
open Go.Sort (grow)

theorem mkHid {p : Prop} (h : p) : Hid p := h
theorem nt {b : Bool} (h : (!b) = true) : b = false := by simpa using h
theorem nf {b : Bool} (h : (!b) = false) : b = true := by simpa using h
theorem Below.up {a b c : World} (h : Below a.heap.size a b) (k : Below b.heap.size b c) : Below a.heap.size a c := h.trans (k.mono h.size)
def notI (n : Int) : Int := if n = -1 then -1 else 1 - n
def andI (a b : Int) : Int := if a = 0 ∨ b = 0 then 0 else min a b
def orJ (a b : Int) : Int := if a = 1 ∨ b = 1 then 1 else min a b
theorem nj1 {n : Int} (h : (n == -1) = true) : -1 = notI n := by simp at h; simp [notI, h]
theorem nj2 {n : Int} (h : (n == -1) = false) : 1 - n = notI n := by simp at h; simp [notI, h]

set_option maxHeartbeats 1000000 in
theorem not_any (n : Int) (h1 : -1 ≤ n) (h2 : n ≤ 1) (w : World) :
    Calls Tryz.prog 38 #[.int .i64 n] w fun e w' => e = .returned (.int .i64 (notI n)) ∧ w' = w := by
  go_enter Tryz.func38, Tryz.ntmps38
  go_wp2
  all_goals go_ret
  · exact ⟨ret_int (nj1 ‹_›), rfl⟩
  · exact ⟨ret_int (nj2 ‹_›), rfl⟩

set_option maxHeartbeats 1000000 in
theorem and_any (a b : Int) (w : World) :
    Calls Tryz.prog 39 #[.int .i64 a, .int .i64 b] w fun e w' => e = .returned (.int .i64 (andI a b)) ∧ w' = w := by
  have HR : Hid (andI a b = if a = 0 ∨ b = 0 then 0 else min a b) := rfl
  by_cases h1 : a = 0
  · have HQ : Hid (0 = andI a b) := mkHid (by rw [HR.out, if_pos (.inl h1)])
    have hb : (a == 0) = true := by simpa using h1
    clear h1 HR
    go_enter Tryz.func39, Tryz.ntmps39
    go_wp2
    go_ret
    exact ⟨ret_int HQ.out, rfl⟩
  · by_cases h2 : b = 0
    · have HQ : Hid (0 = andI a b) := mkHid (by rw [HR.out, if_pos (.inr h2)])
      have hb : (a == 0) = false := by simpa using h1
      have hb2 : (b == 0) = true := by simpa using h2
      clear h1 h2 HR
      go_enter Tryz.func39, Tryz.ntmps39
      go_wp2
      go_ret
      exact ⟨ret_int HQ.out, rfl⟩
    · have HQ : Hid (min a b = andI a b) := mkHid (by rw [HR.out, if_neg (by omega)])
      have hb : (a == 0) = false := by simpa using h1
      have hb2 : (b == 0) = false := by simpa using h2
      clear h1 h2 HR
      go_enter Tryz.func39, Tryz.ntmps39
      go_wp2
      go_ret
      exact ⟨ret_int HQ.out, rfl⟩

set_option maxHeartbeats 1000000 in
theorem or_any2 (a b : Int) (w : World) :
    Calls Tryz.prog 40 #[.int .i64 a, .int .i64 b] w fun e w' => e = .returned (.int .i64 (orJ a b)) ∧ w' = w := by
  have HR : Hid (orJ a b = if a = 1 ∨ b = 1 then 1 else min a b) := rfl
  by_cases h1 : a = 1
  · have HQ : Hid (1 = orJ a b) := mkHid (by rw [HR.out, if_pos (.inl h1)])
    have hb : (a == 1) = true := by simpa using h1
    clear h1 HR
    go_enter Tryz.func40, Tryz.ntmps40
    go_wp2
    go_ret
    exact ⟨ret_int HQ.out, rfl⟩
  · by_cases h2 : b = 1
    · have HQ : Hid (1 = orJ a b) := mkHid (by rw [HR.out, if_pos (.inr h2)])
      have hb : (a == 1) = false := by simpa using h1
      have hb2 : (b == 1) = true := by simpa using h2
      clear h1 h2 HR
      go_enter Tryz.func40, Tryz.ntmps40
      go_wp2
      go_ret
      exact ⟨ret_int HQ.out, rfl⟩
    · have HQ : Hid (min a b = orJ a b) := mkHid (by rw [HR.out, if_neg (by omega)])
      have hb : (a == 1) = false := by simpa using h1
      have hb2 : (b == 1) = false := by simpa using h2
      clear h1 h2 HR
      go_enter Tryz.func40, Tryz.ntmps40
      go_wp2
      go_ret
      exact ⟨ret_int HQ.out, rfl⟩

/-- What a node of a condition holds: a code, a column, a value. -/
structure Nd where
  c : Int
  col : ByteArray
  k : Int
  n : Int
  t : ByteArray
/-- A condition as a tree (the library's own trees; their numbers of addresses are not used here). -/
abbrev CT := Deep.BT Nd

/-- A tree lies in memory, a block a node. -/
def InC (w : World) : CT → Value → Prop
  | .nil, v => v = .pointer none
  | .node _ _ ⟨c, col, k, n, t⟩ l r, v => ∃ b pl pr, v = .pointer (some ⟨b, 0, none⟩) ∧ w.heap[b]? = some (.cells #[.int .i64 c, .string col, .int .i64 k, .int .i64 n, .string t, pl, pr] 63) ∧ (1 ≤ c ∧ c ≤ 11) ∧ InC w l pl ∧ InC w r pr
theorem InC.up {w W : World} (hb : Below w.heap.size w W) : ∀ {T : CT} {v : Value}, InC w T v → InC W T v
  | .nil, _, h => h
  | .node _ _ ⟨_, _, _, _, _⟩ _ _, _, ⟨b, pl, pr, e, hh, hcd, hl, hr⟩ => ⟨b, pl, pr, e, by
      rw [hb.block b (by
        rcases Nat.lt_or_ge b w.heap.size with h' | h'
        · exact h'
        · rw [Array.getElem?_eq_none h'] at hh; cases hh)]
      exact hh, hcd, InC.up hb hl, InC.up hb hr⟩
theorem cell_of_heap {w : World} {b : Nat} {cs : Array Value} {t : TypeId} (h : w.heap[b]? = some (.cells cs t)) (i : Nat) : w.cell? ⟨b, i, none⟩ = cs[i]? := by
  simp [World.cell?, h]

def withinT : CT → Int → Bool
  | .nil, _ => true
  | .node _ _ _ l r, o => decide (0 ≤ o) && (withinT l (o - 1) && withinT r (o - 1))

set_option maxHeartbeats 1000000 in
theorem within_any : ∀ (T : CT) (v : Value) (o : Int) (w : World), InC w T v → -1 ≤ o → o ≤ 1000 →
    Calls Tryz.prog 32 #[v, .int .i64 o] w fun e w' => e = .returned (.bool (withinT T o)) ∧ w' = w
  | .nil, v, o, w, h, h1, h2 => by
    obtain rfl : v = .pointer none := h
    have HQ : Hid (true = withinT .nil o) := rfl
    go_enter Tryz.func32, Tryz.ntmps32
    go_wp2
    go_ret
    exact ⟨ret_bool HQ.out, rfl⟩
  | .node a0 o0 ⟨c, col, k, n, t⟩ l r, v, o, w, h, h1, h2 => by
    obtain ⟨b, pl, pr, rfl, hh, _, hl, hr⟩ := h
    have c5 : w.cell? ⟨b, 5, none⟩ = some pl := cell_of_heap hh 5
    have c6 : w.cell? ⟨b, 6, none⟩ = some pr := cell_of_heap hh 6
    clear hh
    by_cases ho : 0 ≤ o
    · have ihl := within_any l pl (o - 1) w hl (by omega) (by omega)
      have ihr := within_any r pr (o - 1) w hr (by omega) (by omega)
      cases el : withinT l (o - 1)
      · rw [el] at ihl
        have HQ : Hid (false = withinT (.node a0 o0 ⟨c, col, k, n, t⟩ l r) o) := mkHid (by simp [withinT, el])
        have IL := mkHid ihl
        clear ihl ihr el hl hr
        go_enter Tryz.func32, Tryz.ntmps32
        go_wp2_with (go_at_call 32; refine IL.out.mono ?_; rintro e w1 ⟨rfl, rfl⟩)
        go_ret
        exact ⟨ret_bool HQ.out, rfl⟩
      · rw [el] at ihl
        have HQ : Hid (withinT r (o - 1) = withinT (.node a0 o0 ⟨c, col, k, n, t⟩ l r) o) := mkHid (by simp [withinT, el, ho])
        have IL := mkHid ihl; have IR := mkHid ihr
        clear ihl ihr el hl hr
        generalize withinT r (o - 1) = br at *
        go_enter Tryz.func32, Tryz.ntmps32
        go_wp2_with fail
        refine IL.out.mono ?_; rintro e w1 ⟨rfl, rfl⟩
        go_wp2_with fail
        refine IR.out.mono ?_; rintro e w2 ⟨rfl, rfl⟩
        go_wp2
        go_ret
        exact ⟨ret_bool HQ.out, rfl⟩
    · have HQ : Hid (false = withinT (.node a0 o0 ⟨c, col, k, n, t⟩ l r) o) := mkHid (by simp [withinT, ho])
      clear hl hr
      go_enter Tryz.func32, Tryz.ntmps32
      go_wp2
      go_ret
      exact ⟨ret_bool HQ.out, rfl⟩

theorem idle_any (p : Addr) (w : World) :
    CallsD Tryz.prog 56 #[.pointer (some p)] .returning w fun e u' w' => e = .returned (.tuple #[]) ∧ u' = .returning ∧ w' = w := by
  refine callsD_of_wpS Tryz.func56 rfl fun c₀ cs hu => ?_
  apply wpS_seq
  apply wpS_region
  simp [wpOpsS, go_sem, recoverD, hu, Tryz.ntmps56, Exit.thenS]
  refine wpS_cond (t := false) (by simp [Act.eval, Array.replicate]) ?_
  simp only [Bool.false_eq_true, if_false]
  refine wpS_of_wp (wp_skip ?_)
  cases c₀
  simp_all [bodyPostS, results, Tryz.results56]

end Go.Proofs.YtfokdpddcgaafaaGreatDoor.S
