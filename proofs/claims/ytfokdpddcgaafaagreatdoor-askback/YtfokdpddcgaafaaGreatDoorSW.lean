/- What the small functions under value.Compare do, said of every call. -/
import Derived.Test.YtfokdpddcgaafaaGreatDoorRows
import Derived.Test.YtfokdpddcgaafaaGreatDoorSM
import Derived.WalkKit
import Derived.WalkSpells
import Derived.WalkLawsBesides
import Derived.Deep.RegionHeld3
namespace Go.Proofs.YtfokdpddcgaafaaGreatDoor.S
open Go.RowKit

theorem ret_int {k : IntKind} {a b : Int} (h : a = b) : Ending.returned (.int k a) = .returned (.int k b) := by rw [h]

set_option maxHeartbeats 400000 in
theorem cmpInt_any (x y : Int) (w : World) :
    Calls Tryz.prog 73 #[.int .i64 x, .int .i64 y] w fun e w' => e = .returned (.int .i64 (cmpI x y)) ∧ w' = w := by
  have H : Hid (cmpI x y = if x < y then -1 else if y < x then 1 else 0) := rfl
  go_enter Tryz.func73, Tryz.ntmps73
  go_wp2
  all_goals
    go_ret
    exact ⟨ret_int (by rw [H.out]; split <;> (try split) <;> omega), rfl⟩

set_option maxHeartbeats 400000 in
theorem cmpInt64_any (x y : Int) (w : World) :
    Calls Tryz.prog 74 #[.int .i64 x, .int .i64 y] w fun e w' => e = .returned (.int .i64 (cmpI x y)) ∧ w' = w := by
  have H : Hid (cmpI x y = if x < y then -1 else if y < x then 1 else 0) := rfl
  go_enter Tryz.func74, Tryz.ntmps74
  go_wp2
  all_goals
    go_ret
    exact ⟨ret_int (by rw [H.out]; split <;> (try split) <;> omega), rfl⟩

theorem cs1 {x y : ByteArray} (h : Op.bytesLess x.toList y.toList = true) : -1 = cmpS x y := by
  rw [bytesLess_data] at h
  have h := of_decide_eq_true h
  rcases cmpS_cases x y with ⟨g, f⟩ | ⟨g, f⟩ | ⟨g, f⟩
  · exact g.symm
  · subst f; exact (List.lt_irrefl _ h).elim
  · exact (no_lt h f).elim
theorem cs2 {x y : ByteArray} (h : Op.bytesLess x.toList y.toList = false) (h2 : (!x.toList == y.toList) = true) : 1 = cmpS x y := by
  rw [bytesLess_data] at h
  have h := of_decide_eq_false h
  rcases cmpS_cases x y with ⟨g, f⟩ | ⟨g, f⟩ | ⟨g, f⟩
  · exact (h f).elim
  · subst f; simp at h2
  · exact g.symm
theorem cs3 {x y : ByteArray} (h2 : (!x.toList == y.toList) = false) : 0 = cmpS x y := by
  have : x.data.toList = y.data.toList := by simpa [ByteArray.toList_eq] using h2
  have : x = y := ByteArray.ext (Array.toList_inj.mp this)
  rw [this, cmpS_self]

set_option maxHeartbeats 400000 in
theorem cmpStr_any (x y : ByteArray) (w : World) :
    Calls Tryz.prog 75 #[.string x, .string y] w fun e w' => e = .returned (.int .i64 (cmpS x y)) ∧ w' = w := by
  go_enter Tryz.func75, Tryz.ntmps75
  go_wp2
  all_goals
    go_ret
    exact ⟨ret_int (by first | exact cs1 ‹_› | exact cs2 ‹_› ‹_› | exact cs3 ‹_›), rfl⟩

theorem or1 {x : Int} (y z : Int) (h : ¬ x = 0) : x = orI x y z := by unfold orI; rw [if_neg h]
theorem or2 {y : Int} (z : Int) (h : ¬ y = 0) : y = orI 0 y z := by unfold orI; rw [if_pos rfl, if_neg h]
theorem or3 (z : Int) : z = orI 0 0 z := by unfold orI; rw [if_pos rfl, if_pos rfl]

set_option maxHeartbeats 1000000 in
theorem or_any (b : Nat) (x y z : Int) (w : World) (h0 : w.cell? ⟨b, 0, none⟩ = some (.int .i64 x)) (h1 : w.cell? ⟨b, 1, none⟩ = some (.int .i64 y)) (h2 : w.cell? ⟨b, 2, none⟩ = some (.int .i64 z)) :
    Calls Tryz.prog 72 #[.slice (some ⟨b, 0, none⟩) 3 3] w fun e w' => e = .returned (.int .i64 (orI x y z)) ∧ w' = w := by
  go_enter Tryz.func72, Tryz.ntmps72
  go_wp2
  go_loop [8] (fun i => (i = .int .i64 0) ∨ (i = .int .i64 1 ∧ x = 0) ∨ (i = .int .i64 2 ∧ x = 0 ∧ y = 0) ∨ (i = .int .i64 3 ∧ x = 0 ∧ y = 0 ∧ z = 0)) (fun i => 3 - (intOf i).toNat)
  case atStart => exact .inl rfl
  case round =>
    rcases hrel with rfl | ⟨rfl, rfl⟩ | ⟨rfl, rfl, rfl⟩ | ⟨rfl, rfl, rfl, rfl⟩
    · by_cases hx : x = 0
      · subst hx
        go_wp2
        go_round
        case rel => simp
        case measure => simp [intOf]
      · have hb : (x == 0) = false := by simpa using hx
        go_wp2
        go_ret
        exact ⟨ret_int (or1 _ _ hx), rfl⟩
    · by_cases hx : y = 0
      · subst hx
        go_wp2
        go_round
        case rel => simp
        case measure => simp [intOf]
      · have hb : (y == 0) = false := by simpa using hx
        go_wp2
        go_ret
        exact ⟨ret_int (or2 _ hx), rfl⟩
    · by_cases hx : z = 0
      · subst hx
        go_wp2
        go_round
        case rel => simp
        case measure => simp [intOf]
      · have hb : (z == 0) = false := by simpa using hx
        go_wp2
        go_ret
        exact ⟨ret_int (or3 _), rfl⟩
    · go_wp2
      go_ret
      exact ⟨ret_int (or3 _), rfl⟩

set_option maxHeartbeats 4000000 in
theorem compare_any (k1 n1 k2 n2 : Int) (t1 t2 : ByteArray) (w : World) :
    Calls Tryz.prog 58 #[.agg #[.int .i64 k1, .int .i64 n1, .string t1], .agg #[.int .i64 k2, .int .i64 n2, .string t2]] w fun e w' => e = .returned (.int .i64 (cmpV k1 n1 t1 k2 n2 t2)) ∧ Below w.heap.size w w' := by
  go_enter Tryz.func58, Tryz.ntmps58
  go_wp2
  go_region_held3 (fun w' => w'.cell? ⟨w.heap.size, 0, none⟩ = some (.int .i64 k1) ∧ w'.cell? ⟨w.heap.size, 1, none⟩ = some (.int .i64 n1) ∧ w'.cell? ⟨w.heap.size, 2, none⟩ = some (.string t1) ∧ w'.cell? ⟨w.heap.size + 1, 0, none⟩ = some (.int .i64 k2) ∧ w'.cell? ⟨w.heap.size + 1, 1, none⟩ = some (.int .i64 n2) ∧ w'.cell? ⟨w.heap.size + 1, 2, none⟩ = some (.string t2)) (go_keep)
    (first
      | (go_at_call 73; refine (cmpInt_any _ _ _).mono ?_; rintro e w' ⟨rfl, rfl⟩)
      | (go_at_call 74; refine (cmpInt64_any _ _ _).mono ?_; rintro e w' ⟨rfl, rfl⟩)
      | (go_at_call 75; refine (cmpStr_any _ _ _).mono ?_; rintro e w' ⟨rfl, rfl⟩)
      | (go_at_call 72; refine (or_any (w.heap.size + 1 + 1) (cmpI k1 k2) (cmpI n1 n2) (cmpS t1 t2) _ (by simp [World.cell?_alloc_at]) (by simp [World.cell?_alloc_at]) (by simp [World.cell?_alloc_at])).mono ?_; rintro e w' ⟨rfl, rfl⟩))
  go_wp2
  go_ret
  exact ⟨rfl, ((((Below.refl _ _).alloc (Nat.le_refl _) _).alloc (by simp) _).alloc (by simp; omega) _).drew⟩

def b2i (b : Bool) : Int := if b then 1 else 0
def standsB (c o : Int) : Bool := if c = 1 then o == 0 else if c = 2 then !(o == 0) else if c = 3 then decide (o < 0) else if c = 4 then decide (o ≤ 0) else if c = 5 then decide (0 < o) else if c = 6 then decide (0 ≤ o) else false

theorem ret_bool {a b : Bool} (h : a = b) : Ending.returned (.bool a) = .returned (.bool b) := by rw [h]

theorem st1 {c o : Int} (h : (c == 1) = true) : (o == 0) = standsB c o := by simp at h; subst h; rfl
theorem st2 {c o : Int} (_ : (c == 1) = false) (h : (c == 2) = true) : (o != 0) = standsB c o := by simp at h; subst h; rfl
theorem st3 {c o : Int} (h : (c == 3) = true) : decide (o < 0) = standsB c o := by simp at h; subst h; rfl
theorem st4 {c o : Int} (h : (c == 4) = true) : decide (o ≤ 0) = standsB c o := by simp at h; subst h; rfl
theorem st5 {c o : Int} (h : (c == 5) = true) : decide (0 < o) = standsB c o := by simp at h; subst h; rfl
theorem st6 {c o : Int} (h : (c == 6) = true) : decide (0 ≤ o) = standsB c o := by simp at h; subst h; rfl
theorem st7 {c o : Int} (h1 : (c == 1) = false) (h2 : (c == 2) = false) (h3 : (c == 3) = false) (h4 : (c == 4) = false) (h5 : (c == 5) = false) (h6 : (c == 6) = false) : false = standsB c o := by
  simp at h1 h2 h3 h4 h5 h6; simp [standsB, h1, h2, h3, h4, h5, h6]

set_option maxHeartbeats 1000000 in
theorem stands_any (c o : Int) (w : World) :
    Calls Tryz.prog 57 #[.int .i64 c, .int .i64 o] w fun e w' => e = .returned (.bool (standsB c o)) ∧ w' = w := by
  go_enter Tryz.func57, Tryz.ntmps57
  go_wp2
  all_goals go_ret
  · exact ⟨ret_bool (st1 ‹_›), rfl⟩
  · exact ⟨ret_bool (st2 ‹_› ‹_›), rfl⟩
  · exact ⟨ret_bool (st3 ‹_›), rfl⟩
  · exact ⟨ret_bool (st4 ‹_›), rfl⟩
  · exact ⟨ret_bool (st5 ‹_›), rfl⟩
  · exact ⟨ret_bool (st6 ‹_›), rfl⟩
  · rename_i h1 h2 h3 h4 h5 h6
    exact ⟨ret_bool (st7 h1 h2 h3 h4 h5 h6), rfl⟩

set_option maxHeartbeats 1000000 in
theorem number_any (b : Bool) (w : World) :
    Calls Tryz.prog 36 #[.bool b] w fun e w' => e = .returned (.int .i64 (b2i b)) ∧ w' = w := by
  cases b
  · go_enter Tryz.func36, Tryz.ntmps36
    go_wp2
    go_ret
    exact ⟨rfl, rfl⟩
  · go_enter Tryz.func36, Tryz.ntmps36
    go_wp2
    go_ret
    exact ⟨rfl, rfl⟩


def isV (c k1 n1 : Int) (t1 : ByteArray) (k2 n2 : Int) (t2 : ByteArray) : Int := if k1 = 0 ∨ ¬ k1 = k2 then -1 else b2i (standsB c (cmpV k1 n1 t1 k2 n2 t2))
theorem is0 {c k1 n1 : Int} {t1 : ByteArray} {k2 n2 : Int} {t2 : ByteArray} (h : k1 = 0 ∨ ¬ k1 = k2) : -1 = isV c k1 n1 t1 k2 n2 t2 := by unfold isV; rw [if_pos h]
theorem is1 {c k1 n1 : Int} {t1 : ByteArray} {k2 n2 : Int} {t2 : ByteArray} (h : ¬ (k1 = 0 ∨ ¬ k1 = k2)) : (b2i (standsB c (cmpV k1 n1 t1 k2 n2 t2))) = isV c k1 n1 t1 k2 n2 t2 := by unfold isV; rw [if_neg h]

set_option maxHeartbeats 1000000 in
theorem is_none (c k1 n1 k2 n2 : Int) (t1 t2 : ByteArray) (w : World) (h : k1 = 0 ∨ ¬ k1 = k2) :
    Calls Tryz.prog 41 #[.int .i64 c, .agg #[.int .i64 k1, .int .i64 n1, .string t1], .agg #[.int .i64 k2, .int .i64 n2, .string t2]] w fun e w' => e = .returned (.int .i64 (isV c k1 n1 t1 k2 n2 t2)) ∧ Below w.heap.size w w' := by
  have hr := is0 (c := c) (n1 := n1) (n2 := n2) (t1 := t1) (t2 := t2) h
  have HR : Hid (-1 = isV c k1 n1 t1 k2 n2 t2) := hr
  clear hr
  rcases Classical.em (k1 = 0) with hk | hk
  · have hb : (k1 == 0) = true := by simpa using hk
    clear hk h
    go_enter Tryz.func41, Tryz.ntmps41
    go_wp2
    go_ret
    exact ⟨ret_int HR.out, ((Below.refl _ _).alloc (Nat.le_refl _) _).alloc (by simp) _⟩
  · have hb : (k1 == 0) = false := by simpa using hk
    have hb2 : (k1 == k2) = false := by simpa using h.resolve_left hk
    clear hk h
    go_enter Tryz.func41, Tryz.ntmps41
    go_wp2
    go_ret
    exact ⟨ret_int HR.out, ((Below.refl _ _).alloc (Nat.le_refl _) _).alloc (by simp) _⟩

set_option maxHeartbeats 1000000 in
theorem is_some (c k1 n1 k2 n2 : Int) (t1 t2 : ByteArray) (w : World) (h : ¬ (k1 = 0 ∨ ¬ k1 = k2)) :
    Calls Tryz.prog 41 #[.int .i64 c, .agg #[.int .i64 k1, .int .i64 n1, .string t1], .agg #[.int .i64 k2, .int .i64 n2, .string t2]] w fun e w' => e = .returned (.int .i64 (isV c k1 n1 t1 k2 n2 t2)) ∧ Below w.heap.size w w' := by
  have HR : Hid ((b2i (standsB c (cmpV k1 n1 t1 k2 n2 t2))) = isV c k1 n1 t1 k2 n2 t2) := is1 h
  have hb : (k1 == 0) = false := by simp; exact fun hh => h (.inl hh)
  have hb2 : (k1 == k2) = true := by simp; exact Classical.byContradiction fun hh => h (.inr hh)
  clear h
  go_enter Tryz.func41, Tryz.ntmps41
  go_wp2_with (first
    | (go_at_call 58; refine (compare_any _ _ _ _ _ _ _).mono ?_; rintro e w1 ⟨rfl, hb1⟩)
    | (go_at_call 57; refine (stands_any _ _ _).mono ?_; rintro e w2 ⟨rfl, rfl⟩)
    | (go_at_call 36; refine (number_any _ _).mono ?_; rintro e w3 ⟨rfl, rfl⟩))
  go_ret
  exact ⟨ret_int HR.out, (((Below.refl _ _).alloc (Nat.le_refl _) _).alloc (by simp) _).trans (hb1.mono (by simp; omega))⟩

theorem is_any (c k1 n1 k2 n2 : Int) (t1 t2 : ByteArray) (w : World) :
    Calls Tryz.prog 41 #[.int .i64 c, .agg #[.int .i64 k1, .int .i64 n1, .string t1], .agg #[.int .i64 k2, .int .i64 n2, .string t2]] w fun e w' => e = .returned (.int .i64 (isV c k1 n1 t1 k2 n2 t2)) ∧ Below w.heap.size w w' := by
  rcases Classical.em (k1 = 0 ∨ ¬ k1 = k2) with h | h
  · exact is_none c k1 n1 k2 n2 t1 t2 w h
  · exact is_some c k1 n1 k2 n2 t1 t2 w h

end Go.Proofs.YtfokdpddcgaafaaGreatDoor.S
