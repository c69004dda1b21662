/- Plain mathematics: what is known of a list of values (how many, how many are nothing, the least and the greatest of the others) is one thing alone, and that of two lists together comes of that of each. -/
import Derived.WalkKit
import Derived.Sort.Walk0
import Derived.Test.YtodemklghajdeaaGreatDoorRows
import Derived.WalkSpells
import Derived.WalkLawsBesides
import Derived.Deep.RegionHeld3
namespace Go.Proofs.YtodemklghajdeaaGreatDoor.S
open Go Go.Sort

def cmpI (x y : Int) : Int := if x < y then -1 else if y < x then 1 else 0
def cmpL (x y : List UInt8) : Int := if x < y then -1 else if y < x then 1 else 0
def cmpS (x y : ByteArray) : Int := cmpL x.data.toList y.data.toList
def orI (a b c : Int) : Int := if a = 0 then (if b = 0 then c else b) else a
def cmpV (k1 n1 : Int) (t1 : ByteArray) (k2 n2 : Int) (t2 : ByteArray) : Int := orI (cmpI k1 k2) (cmpI n1 n2) (cmpS t1 t2)

theorem cmpI_swap (x y : Int) : cmpI y x = -cmpI x y := by
  unfold cmpI; split <;> split <;> (try split) <;> omega
theorem cmpI_cases (x y : Int) : cmpI x y = -1 ∧ x < y ∨ cmpI x y = 0 ∧ x = y ∨ cmpI x y = 1 ∧ y < x := by
  unfold cmpI; split <;> (try split) <;> omega
theorem lt_tri (x y : List UInt8) : x < y ∨ x = y ∨ y < x := by
  rcases Classical.em (x < y) with h | h
  · exact .inl h
  · rcases Classical.em (y < x) with h' | h'
    · exact .inr (.inr h')
    · exact .inr (.inl (List.le_antisymm (List.not_lt.mp h') (List.not_lt.mp h)))
theorem cmpL_cases (x y : List UInt8) : cmpL x y = -1 ∧ x < y ∨ cmpL x y = 0 ∧ x = y ∨ cmpL x y = 1 ∧ y < x := by
  unfold cmpL
  rcases lt_tri x y with h | h | h
  · exact .inl ⟨if_pos h, h⟩
  · subst h; exact .inr (.inl ⟨by rw [if_neg (List.lt_irrefl x), if_neg (List.lt_irrefl x)], rfl⟩)
  · exact .inr (.inr ⟨by rw [if_neg (List.lt_asymm h), if_pos h], h⟩)
theorem cmpS_cases (x y : ByteArray) : cmpS x y = -1 ∧ x.data.toList < y.data.toList ∨ cmpS x y = 0 ∧ x = y ∨ cmpS x y = 1 ∧ y.data.toList < x.data.toList := by
  rcases cmpL_cases x.data.toList y.data.toList with h | ⟨h, e⟩ | h
  · exact .inl h
  · exact .inr (.inl ⟨h, ByteArray.ext (Array.toList_inj.mp e)⟩)
  · exact .inr (.inr h)
theorem no_lt {x y : List UInt8} (h : x < y) (h' : y < x) : False := List.lt_asymm h h'
theorem cmpS_swap (x y : ByteArray) : cmpS y x = -cmpS x y := by
  rcases cmpS_cases x y with ⟨h, e⟩ | ⟨h, e⟩ | ⟨h, e⟩ <;> rcases cmpS_cases y x with ⟨h', e'⟩ | ⟨h', e'⟩ | ⟨h', e'⟩ <;> rw [h, h'] <;> first
    | rfl
    | exact (no_lt e e').elim
    | (subst e; exact (List.lt_irrefl _ e').elim)
    | (subst e'; exact (List.lt_irrefl _ e).elim)
theorem cmpS_self (x : ByteArray) : cmpS x x = 0 := by
  rcases cmpS_cases x x with ⟨_, e⟩ | ⟨h, _⟩ | ⟨_, e⟩
  · exact (List.lt_irrefl _ e).elim
  · exact h
  · exact (List.lt_irrefl _ e).elim
theorem cmpS_trans (x y z : ByteArray) (m : Int) (h1 : cmpS x y = m) (h2 : cmpS y z = m) : cmpS x z = m := by
  rcases cmpS_cases x y with ⟨h, e⟩ | ⟨h, e⟩ | ⟨h, e⟩ <;> rcases cmpS_cases y z with ⟨h', e'⟩ | ⟨h', e'⟩ | ⟨h', e'⟩ <;> first
    | (exfalso; omega)
    | (subst e; subst e'; exact h1)
    | skip
  · have := List.lt_trans e e'
    rcases cmpS_cases x z with ⟨g, f⟩ | ⟨g, f⟩ | ⟨g, f⟩
    · omega
    · subst f; exact (List.lt_irrefl _ this).elim
    · exact (no_lt this f).elim
  · have := List.lt_trans e' e
    rcases cmpS_cases x z with ⟨g, f⟩ | ⟨g, f⟩ | ⟨g, f⟩
    · exact (no_lt this f).elim
    · subst f; exact (List.lt_irrefl _ this).elim
    · omega
theorem cmpV_range (k1 n1 : Int) (t1 : ByteArray) (k2 n2 : Int) (t2 : ByteArray) : cmpV k1 n1 t1 k2 n2 t2 = -1 ∨ cmpV k1 n1 t1 k2 n2 t2 = 0 ∨ cmpV k1 n1 t1 k2 n2 t2 = 1 := by
  unfold cmpV orI
  have := cmpI_cases k1 k2; have := cmpI_cases n1 n2; have := cmpS_cases t1 t2
  split <;> (try split) <;> omega
theorem cmpV_swap (k1 n1 : Int) (t1 : ByteArray) (k2 n2 : Int) (t2 : ByteArray) : cmpV k2 n2 t2 k1 n1 t1 = -cmpV k1 n1 t1 k2 n2 t2 := by
  unfold cmpV orI
  rw [cmpI_swap k1 k2, cmpI_swap n1 n2, cmpS_swap t1 t2]
  split <;> (try split) <;> (try split) <;> (try split) <;> omega
theorem cmpV_zero (k1 n1 : Int) (t1 : ByteArray) (k2 n2 : Int) (t2 : ByteArray) : cmpV k1 n1 t1 k2 n2 t2 = 0 ↔ k1 = k2 ∧ n1 = n2 ∧ t1 = t2 := by
  constructor
  · intro h
    unfold cmpV orI at h
    rcases cmpI_cases k1 k2 with ⟨a, a'⟩ | ⟨a, a'⟩ | ⟨a, a'⟩ <;> rcases cmpI_cases n1 n2 with ⟨b, b'⟩ | ⟨b, b'⟩ | ⟨b, b'⟩ <;> rcases cmpS_cases t1 t2 with ⟨c, c'⟩ | ⟨c, c'⟩ | ⟨c, c'⟩ <;> simp [a, b, c] at h
    exact ⟨a', b', c'⟩
  · rintro ⟨rfl, rfl, rfl⟩
    unfold cmpV orI
    rw [cmpS_self]
    simp [cmpI]
theorem cmpV_trans (k1 n1 : Int) (t1 : ByteArray) (k2 n2 : Int) (t2 : ByteArray) (k3 n3 : Int) (t3 : ByteArray) (m : Int) (h1 : cmpV k1 n1 t1 k2 n2 t2 = m) (h2 : cmpV k2 n2 t2 k3 n3 t3 = m) : cmpV k1 n1 t1 k3 n3 t3 = m := by
  unfold cmpV orI at *
  have a := cmpI_cases k1 k2; have b := cmpI_cases k2 k3; have c := cmpI_cases k1 k3
  have d := cmpI_cases n1 n2; have e := cmpI_cases n2 n3; have f := cmpI_cases n1 n3
  have g := cmpS_trans t1 t2 t3 m
  split at h1 <;> split at h2 <;> (try split at h1) <;> (try split at h2) <;> split <;> (try split) <;> first
    | omega
    | exact g h1 h2
    | (exfalso; omega)
theorem cmpV_zero_left (k1 n1 : Int) (t1 : ByteArray) (k2 n2 : Int) (t2 : ByteArray) (k3 n3 : Int) (t3 : ByteArray) (h1 : cmpV k1 n1 t1 k2 n2 t2 = 0) : cmpV k1 n1 t1 k3 n3 t3 = cmpV k2 n2 t2 k3 n3 t3 := by
  obtain ⟨rfl, rfl, rfl⟩ := (cmpV_zero ..).1 h1
  rfl
theorem bytesLess_data (x y : ByteArray) : Op.bytesLess x.toList y.toList = decide (x.data.toList < y.data.toList) := by
  rw [ByteArray.toList_eq, ByteArray.toList_eq, bytesLess_eq]
end Go.Proofs.YtodemklghajdeaaGreatDoor.S

namespace Go.Proofs.YtodemklghajdeaaGreatDoor.S
open Go.RowKit

theorem ret_int {k : IntKind} {a b : Int} (h : a = b) : Ending.returned (.int k a) = .returned (.int k b) := by rw [h]

set_option maxHeartbeats 400000 in
theorem cmpInt_any (x y : Int) (w : World) :
    Calls Tryz.prog 135 #[.int .i64 x, .int .i64 y] w fun e w' => e = .returned (.int .i64 (cmpI x y)) ∧ w' = w := by
  have H : Hid (cmpI x y = if x < y then -1 else if y < x then 1 else 0) := rfl
  go_enter Tryz.func135, Tryz.ntmps135
  go_wp2
  all_goals
    go_ret
    exact ⟨ret_int (by rw [H.out]; split <;> (try split) <;> omega), rfl⟩

set_option maxHeartbeats 400000 in
theorem cmpInt64_any (x y : Int) (w : World) :
    Calls Tryz.prog 136 #[.int .i64 x, .int .i64 y] w fun e w' => e = .returned (.int .i64 (cmpI x y)) ∧ w' = w := by
  have H : Hid (cmpI x y = if x < y then -1 else if y < x then 1 else 0) := rfl
  go_enter Tryz.func136, Tryz.ntmps136
  go_wp2
  all_goals
    go_ret
    exact ⟨ret_int (by rw [H.out]; split <;> (try split) <;> omega), rfl⟩

theorem cs1 {x y : ByteArray} (h : Op.bytesLess x.toList y.toList = true) : -1 = cmpS x y := by
  rw [bytesLess_data] at h
  have h := of_decide_eq_true h
  rcases cmpS_cases x y with ⟨g, f⟩ | ⟨g, f⟩ | ⟨g, f⟩
  · exact g.symm
  · subst f; exact (List.lt_irrefl _ h).elim
  · exact (no_lt h f).elim
theorem cs2 {x y : ByteArray} (h : Op.bytesLess x.toList y.toList = false) (h2 : (!x.toList == y.toList) = true) : 1 = cmpS x y := by
  rw [bytesLess_data] at h
  have h := of_decide_eq_false h
  rcases cmpS_cases x y with ⟨g, f⟩ | ⟨g, f⟩ | ⟨g, f⟩
  · exact (h f).elim
  · subst f; simp at h2
  · exact g.symm
theorem cs3 {x y : ByteArray} (h2 : (!x.toList == y.toList) = false) : 0 = cmpS x y := by
  have : x.data.toList = y.data.toList := by simpa [ByteArray.toList_eq] using h2
  have : x = y := ByteArray.ext (Array.toList_inj.mp this)
  rw [this, cmpS_self]

set_option maxHeartbeats 400000 in
theorem cmpStr_any (x y : ByteArray) (w : World) :
    Calls Tryz.prog 137 #[.string x, .string y] w fun e w' => e = .returned (.int .i64 (cmpS x y)) ∧ w' = w := by
  go_enter Tryz.func137, Tryz.ntmps137
  go_wp2
  all_goals
    go_ret
    exact ⟨ret_int (by first | exact cs1 ‹_› | exact cs2 ‹_› ‹_› | exact cs3 ‹_›), rfl⟩

theorem or1 {x : Int} (y z : Int) (h : ¬ x = 0) : x = orI x y z := by unfold orI; rw [if_neg h]
theorem or2 {y : Int} (z : Int) (h : ¬ y = 0) : y = orI 0 y z := by unfold orI; rw [if_pos rfl, if_neg h]
theorem or3 (z : Int) : z = orI 0 0 z := by unfold orI; rw [if_pos rfl, if_pos rfl]

set_option maxHeartbeats 1000000 in
theorem or_any (b : Nat) (x y z : Int) (w : World) (h0 : w.cell? ⟨b, 0, none⟩ = some (.int .i64 x)) (h1 : w.cell? ⟨b, 1, none⟩ = some (.int .i64 y)) (h2 : w.cell? ⟨b, 2, none⟩ = some (.int .i64 z)) :
    Calls Tryz.prog 134 #[.slice (some ⟨b, 0, none⟩) 3 3] w fun e w' => e = .returned (.int .i64 (orI x y z)) ∧ w' = w := by
  go_enter Tryz.func134, Tryz.ntmps134
  go_wp2
  go_loop [8] (fun i => (i = .int .i64 0) ∨ (i = .int .i64 1 ∧ x = 0) ∨ (i = .int .i64 2 ∧ x = 0 ∧ y = 0) ∨ (i = .int .i64 3 ∧ x = 0 ∧ y = 0 ∧ z = 0)) (fun i => 3 - (intOf i).toNat)
  case atStart => exact .inl rfl
  case round =>
    rcases hrel with rfl | ⟨rfl, rfl⟩ | ⟨rfl, rfl, rfl⟩ | ⟨rfl, rfl, rfl, rfl⟩
    · by_cases hx : x = 0
      · subst hx
        go_wp2
        go_round
        case rel => simp
        case measure => simp [intOf]
      · have hb : (x == 0) = false := by simpa using hx
        go_wp2
        go_ret
        exact ⟨ret_int (or1 _ _ hx), rfl⟩
    · by_cases hx : y = 0
      · subst hx
        go_wp2
        go_round
        case rel => simp
        case measure => simp [intOf]
      · have hb : (y == 0) = false := by simpa using hx
        go_wp2
        go_ret
        exact ⟨ret_int (or2 _ hx), rfl⟩
    · by_cases hx : z = 0
      · subst hx
        go_wp2
        go_round
        case rel => simp
        case measure => simp [intOf]
      · have hb : (z == 0) = false := by simpa using hx
        go_wp2
        go_ret
        exact ⟨ret_int (or3 _), rfl⟩
    · go_wp2
      go_ret
      exact ⟨ret_int (or3 _), rfl⟩

set_option maxHeartbeats 4000000 in
theorem compare_any (k1 n1 k2 n2 : Int) (t1 t2 : ByteArray) (w : World) :
    Calls Tryz.prog 115 #[.agg #[.int .i64 k1, .int .i64 n1, .string t1], .agg #[.int .i64 k2, .int .i64 n2, .string t2]] w fun e w' => e = .returned (.int .i64 (cmpV k1 n1 t1 k2 n2 t2)) ∧ Below w.heap.size w w' := by
  go_enter Tryz.func115, Tryz.ntmps115
  go_wp2
  go_region_held3 (fun w' => w'.cell? ⟨w.heap.size, 0, none⟩ = some (.int .i64 k1) ∧ w'.cell? ⟨w.heap.size, 1, none⟩ = some (.int .i64 n1) ∧ w'.cell? ⟨w.heap.size, 2, none⟩ = some (.string t1) ∧ w'.cell? ⟨w.heap.size + 1, 0, none⟩ = some (.int .i64 k2) ∧ w'.cell? ⟨w.heap.size + 1, 1, none⟩ = some (.int .i64 n2) ∧ w'.cell? ⟨w.heap.size + 1, 2, none⟩ = some (.string t2)) (go_keep)
    (first
      | (go_at_call 135; refine (cmpInt_any _ _ _).mono ?_; rintro e w' ⟨rfl, rfl⟩)
      | (go_at_call 136; refine (cmpInt64_any _ _ _).mono ?_; rintro e w' ⟨rfl, rfl⟩)
      | (go_at_call 137; refine (cmpStr_any _ _ _).mono ?_; rintro e w' ⟨rfl, rfl⟩)
      | (go_at_call 134; refine (or_any (w.heap.size + 1 + 1) (cmpI k1 k2) (cmpI n1 n2) (cmpS t1 t2) _ (by simp [World.cell?_alloc_at]) (by simp [World.cell?_alloc_at]) (by simp [World.cell?_alloc_at])).mono ?_; rintro e w' ⟨rfl, rfl⟩))
  go_wp2
  go_ret
  exact ⟨rfl, ((((Below.refl _ _).alloc (Nat.le_refl _) _).alloc (by simp) _).alloc (by simp; omega) _).drew⟩

def b2i (b : Bool) : Int := if b then 1 else 0
def standsB (c o : Int) : Bool := if c = 1 then o == 0 else if c = 2 then !(o == 0) else if c = 3 then decide (o < 0) else if c = 4 then decide (o ≤ 0) else if c = 5 then decide (0 < o) else if c = 6 then decide (0 ≤ o) else false

theorem ret_bool {a b : Bool} (h : a = b) : Ending.returned (.bool a) = .returned (.bool b) := by rw [h]

theorem st1 {c o : Int} (h : (c == 1) = true) : (o == 0) = standsB c o := by simp at h; subst h; rfl
theorem st2 {c o : Int} (_ : (c == 1) = false) (h : (c == 2) = true) : (o != 0) = standsB c o := by simp at h; subst h; rfl
theorem st3 {c o : Int} (h : (c == 3) = true) : decide (o < 0) = standsB c o := by simp at h; subst h; rfl
theorem st4 {c o : Int} (h : (c == 4) = true) : decide (o ≤ 0) = standsB c o := by simp at h; subst h; rfl
theorem st5 {c o : Int} (h : (c == 5) = true) : decide (0 < o) = standsB c o := by simp at h; subst h; rfl
theorem st6 {c o : Int} (h : (c == 6) = true) : decide (0 ≤ o) = standsB c o := by simp at h; subst h; rfl
theorem st7 {c o : Int} (h1 : (c == 1) = false) (h2 : (c == 2) = false) (h3 : (c == 3) = false) (h4 : (c == 4) = false) (h5 : (c == 5) = false) (h6 : (c == 6) = false) : false = standsB c o := by
  simp at h1 h2 h3 h4 h5 h6; simp [standsB, h1, h2, h3, h4, h5, h6]

set_option maxHeartbeats 1000000 in
theorem stands_any (c o : Int) (w : World) :
    Calls Tryz.prog 114 #[.int .i64 c, .int .i64 o] w fun e w' => e = .returned (.bool (standsB c o)) ∧ w' = w := by
  go_enter Tryz.func114, Tryz.ntmps114
  go_wp2
  all_goals go_ret
  · exact ⟨ret_bool (st1 ‹_›), rfl⟩
  · exact ⟨ret_bool (st2 ‹_› ‹_›), rfl⟩
  · exact ⟨ret_bool (st3 ‹_›), rfl⟩
  · exact ⟨ret_bool (st4 ‹_›), rfl⟩
  · exact ⟨ret_bool (st5 ‹_›), rfl⟩
  · exact ⟨ret_bool (st6 ‹_›), rfl⟩
  · rename_i h1 h2 h3 h4 h5 h6
    exact ⟨ret_bool (st7 h1 h2 h3 h4 h5 h6), rfl⟩

set_option maxHeartbeats 1000000 in
theorem number_any (b : Bool) (w : World) :
    Calls Tryz.prog 79 #[.bool b] w fun e w' => e = .returned (.int .i64 (b2i b)) ∧ w' = w := by
  cases b
  · go_enter Tryz.func79, Tryz.ntmps79
    go_wp2
    go_ret
    exact ⟨rfl, rfl⟩
  · go_enter Tryz.func79, Tryz.ntmps79
    go_wp2
    go_ret
    exact ⟨rfl, rfl⟩


set_option maxHeartbeats 1000000 in
theorem num_any (n : Int) (w : World) :
    Calls Tryz.prog 30 #[.int .i64 n] w fun e w' => e = .returned (.agg #[.int .i64 1, .int .i64 n, .string ⟨#[]⟩]) ∧ Below w.heap.size w w' := by
  go_enter Tryz.func30, Tryz.ntmps30
  go_wp2
  exact bodyPost_ret (v := .agg #[.int .i64 1, .int .i64 n, .string ⟨#[]⟩]) (by simp [results, Tryz.results30, go_sem]) rfl ⟨rfl, (Below.refl _ _).alloc (Nat.le_refl _) _⟩

def isV (c k1 n1 : Int) (t1 : ByteArray) (k2 n2 : Int) (t2 : ByteArray) : Int := if k1 = 0 ∨ ¬ k1 = k2 then -1 else b2i (standsB c (cmpV k1 n1 t1 k2 n2 t2))
theorem is0 {c k1 n1 : Int} {t1 : ByteArray} {k2 n2 : Int} {t2 : ByteArray} (h : k1 = 0 ∨ ¬ k1 = k2) : -1 = isV c k1 n1 t1 k2 n2 t2 := by unfold isV; rw [if_pos h]
theorem is1 {c k1 n1 : Int} {t1 : ByteArray} {k2 n2 : Int} {t2 : ByteArray} (h : ¬ (k1 = 0 ∨ ¬ k1 = k2)) : (b2i (standsB c (cmpV k1 n1 t1 k2 n2 t2))) = isV c k1 n1 t1 k2 n2 t2 := by unfold isV; rw [if_neg h]

set_option maxHeartbeats 1000000 in
theorem is_none (c k1 n1 k2 n2 : Int) (t1 t2 : ByteArray) (w : World) (h : k1 = 0 ∨ ¬ k1 = k2) :
    Calls Tryz.prog 84 #[.int .i64 c, .agg #[.int .i64 k1, .int .i64 n1, .string t1], .agg #[.int .i64 k2, .int .i64 n2, .string t2]] w fun e w' => e = .returned (.int .i64 (isV c k1 n1 t1 k2 n2 t2)) ∧ Below w.heap.size w w' := by
  have hr := is0 (c := c) (n1 := n1) (n2 := n2) (t1 := t1) (t2 := t2) h
  have HR : Hid (-1 = isV c k1 n1 t1 k2 n2 t2) := hr
  clear hr
  rcases Classical.em (k1 = 0) with hk | hk
  · have hb : (k1 == 0) = true := by simpa using hk
    clear hk h
    go_enter Tryz.func84, Tryz.ntmps84
    go_wp2
    go_ret
    exact ⟨ret_int HR.out, ((Below.refl _ _).alloc (Nat.le_refl _) _).alloc (by simp) _⟩
  · have hb : (k1 == 0) = false := by simpa using hk
    have hb2 : (k1 == k2) = false := by simpa using h.resolve_left hk
    clear hk h
    go_enter Tryz.func84, Tryz.ntmps84
    go_wp2
    go_ret
    exact ⟨ret_int HR.out, ((Below.refl _ _).alloc (Nat.le_refl _) _).alloc (by simp) _⟩

set_option maxHeartbeats 1000000 in
theorem is_some (c k1 n1 k2 n2 : Int) (t1 t2 : ByteArray) (w : World) (h : ¬ (k1 = 0 ∨ ¬ k1 = k2)) :
    Calls Tryz.prog 84 #[.int .i64 c, .agg #[.int .i64 k1, .int .i64 n1, .string t1], .agg #[.int .i64 k2, .int .i64 n2, .string t2]] w fun e w' => e = .returned (.int .i64 (isV c k1 n1 t1 k2 n2 t2)) ∧ Below w.heap.size w w' := by
  have HR : Hid ((b2i (standsB c (cmpV k1 n1 t1 k2 n2 t2))) = isV c k1 n1 t1 k2 n2 t2) := is1 h
  have hb : (k1 == 0) = false := by simp; exact fun hh => h (.inl hh)
  have hb2 : (k1 == k2) = true := by simp; exact Classical.byContradiction fun hh => h (.inr hh)
  clear h
  go_enter Tryz.func84, Tryz.ntmps84
  go_wp2_with (first
    | (go_at_call 115; refine (compare_any _ _ _ _ _ _ _).mono ?_; rintro e w1 ⟨rfl, hb1⟩)
    | (go_at_call 114; refine (stands_any _ _ _).mono ?_; rintro e w2 ⟨rfl, rfl⟩)
    | (go_at_call 79; refine (number_any _ _).mono ?_; rintro e w3 ⟨rfl, rfl⟩))
  go_ret
  exact ⟨ret_int HR.out, (((Below.refl _ _).alloc (Nat.le_refl _) _).alloc (by simp) _).trans (hb1.mono (by simp; omega))⟩

theorem is_any (c k1 n1 k2 n2 : Int) (t1 t2 : ByteArray) (w : World) :
    Calls Tryz.prog 84 #[.int .i64 c, .agg #[.int .i64 k1, .int .i64 n1, .string t1], .agg #[.int .i64 k2, .int .i64 n2, .string t2]] w fun e w' => e = .returned (.int .i64 (isV c k1 n1 t1 k2 n2 t2)) ∧ Below w.heap.size w w' := by
  rcases Classical.em (k1 = 0 ∨ ¬ k1 = k2) with h | h
  · exact is_none c k1 n1 k2 n2 t1 t2 w h
  · exact is_some c k1 n1 k2 n2 t1 t2 w h

end Go.Proofs.YtodemklghajdeaaGreatDoor.S

namespace Go.Proofs.YtodemklghajdeaaGreatDoor.S
open Go

/-- A value: a kind, a number, a text. -/
abbrev V := Int × Int × ByteArray
def zeroV : V := (0, 0, ⟨#[]⟩)
def cmpW (x y : V) : Int := cmpV x.1 x.2.1 x.2.2 y.1 y.2.1 y.2.2
theorem cmpW_range (x y : V) : cmpW x y = -1 ∨ cmpW x y = 0 ∨ cmpW x y = 1 := cmpV_range ..
theorem cmpW_swap (x y : V) : cmpW y x = -cmpW x y := cmpV_swap ..
theorem cmpW_zero {x y : V} : cmpW x y = 0 ↔ x = y := by
  unfold cmpW; rw [cmpV_zero]
  constructor
  · rintro ⟨h1, h2, h3⟩; exact Prod.ext h1 (Prod.ext h2 h3)
  · rintro rfl; exact ⟨rfl, rfl, rfl⟩
theorem cmpW_self (x : V) : cmpW x x = 0 := cmpW_zero.2 rfl
theorem cmpW_trans {x y z : V} (h1 : cmpW x y ≤ 0) (h2 : cmpW y z ≤ 0) : cmpW x z ≤ 0 := by
  rcases cmpW_range x y with a | a | a <;> rcases cmpW_range y z with b | b | b
  · have : cmpW x z = -1 := cmpV_trans _ _ _ _ _ _ _ _ _ _ a b
    omega
  · rw [cmpW_zero] at b; subst b; omega
  · omega
  · rw [cmpW_zero] at a; subst a; omega
  · rw [cmpW_zero] at a; subst a; omega
  · omega
  · omega
  · omega
  · omega
theorem cmpW_anti {x y : V} (h1 : cmpW x y ≤ 0) (h2 : cmpW y x ≤ 0) : x = y := by
  rw [cmpW_swap x y] at h2
  exact cmpW_zero.1 (by omega)
theorem cmpW_kind {x y : V} (h : x.1 < y.1) : cmpW y x = 1 := by
  unfold cmpW cmpV orI
  have : cmpI y.1 x.1 = 1 := by unfold cmpI; split <;> (try split) <;> omega
  rw [this]; simp

def leastV (a b : V) : V := if a.1 = 0 ∨ (¬ b.1 = 0 ∧ cmpW b a < 0) then b else a
def greatV (a b : V) : V := if 0 < cmpW b a then b else a

/-- The least of the values that are something. -/
def IsMin (l : List V) (m : V) : Prop := (m = zeroV ∧ ∀ x ∈ l, x.1 = 0) ∨ (¬ m.1 = 0 ∧ m ∈ l ∧ ∀ x ∈ l, ¬ x.1 = 0 → cmpW m x ≤ 0)
def IsMax (l : List V) (m : V) : Prop := (m = zeroV ∧ ∀ x ∈ l, x.1 = 0) ∨ (¬ m.1 = 0 ∧ m ∈ l ∧ ∀ x ∈ l, ¬ x.1 = 0 → cmpW x m ≤ 0)
theorem IsMin.one {l : List V} {m m' : V} (h : IsMin l m) (h' : IsMin l m') : m = m' := by
  rcases h with ⟨rfl, h⟩ | ⟨h1, h2, h3⟩ <;> rcases h' with ⟨rfl, h'⟩ | ⟨h1', h2', h3'⟩
  · rfl
  · exact (h1' (h _ h2')).elim
  · exact (h1 (h' _ h2)).elim
  · exact cmpW_anti (h3 _ h2' h1') (h3' _ h2 h1)
theorem IsMax.one {l : List V} {m m' : V} (h : IsMax l m) (h' : IsMax l m') : m = m' := by
  rcases h with ⟨rfl, h⟩ | ⟨h1, h2, h3⟩ <;> rcases h' with ⟨rfl, h'⟩ | ⟨h1', h2', h3'⟩
  · rfl
  · exact (h1' (h _ h2')).elim
  · exact (h1 (h' _ h2)).elim
  · exact cmpW_anti (h3' _ h2 h1) (h3 _ h2' h1')
theorem IsMin.same {l l' : List V} {m : V} (h : IsMin l m) (hl : ∀ x, x ∈ l ↔ x ∈ l') : IsMin l' m := by
  rcases h with ⟨rfl, h⟩ | ⟨h1, h2, h3⟩
  · exact .inl ⟨rfl, fun x hx => h x ((hl x).2 hx)⟩
  · exact .inr ⟨h1, (hl _).1 h2, fun x hx => h3 x ((hl x).2 hx)⟩
theorem IsMax.same {l l' : List V} {m : V} (h : IsMax l m) (hl : ∀ x, x ∈ l ↔ x ∈ l') : IsMax l' m := by
  rcases h with ⟨rfl, h⟩ | ⟨h1, h2, h3⟩
  · exact .inl ⟨rfl, fun x hx => h x ((hl x).2 hx)⟩
  · exact .inr ⟨h1, (hl _).1 h2, fun x hx => h3 x ((hl x).2 hx)⟩
theorem IsMin.both {l l' : List V} {m m' : V} (h : IsMin l m) (h' : IsMin l' m') : IsMin (l ++ l') (leastV m m') := by
  unfold leastV
  rcases h with ⟨rfl, h⟩ | ⟨h1, h2, h3⟩
  · rw [if_pos (.inl rfl)]
    rcases h' with ⟨rfl, h'⟩ | ⟨h1', h2', h3'⟩
    · exact .inl ⟨rfl, fun x hx => (List.mem_append.1 hx).elim (h x) (h' x)⟩
    · exact .inr ⟨h1', List.mem_append.2 (.inr h2'), fun x hx hk => (List.mem_append.1 hx).elim (fun hh => (hk (h x hh)).elim) (fun hh => h3' x hh hk)⟩
  · rcases h' with ⟨rfl, h'⟩ | ⟨h1', h2', h3'⟩
    · rw [if_neg (by rintro (h | ⟨h, _⟩); exact h1 h; exact h rfl)]
      exact .inr ⟨h1, List.mem_append.2 (.inl h2), fun x hx hk => (List.mem_append.1 hx).elim (fun hh => h3 x hh hk) (fun hh => (hk (h' x hh)).elim)⟩
    · by_cases hc : cmpW m' m < 0
      · rw [if_pos (.inr ⟨h1', hc⟩)]
        exact .inr ⟨h1', List.mem_append.2 (.inr h2'), fun x hx hk => (List.mem_append.1 hx).elim (fun hh => cmpW_trans (by omega) (h3 x hh hk)) (fun hh => h3' x hh hk)⟩
      · rw [if_neg (by rintro (h | ⟨_, h⟩); exact h1 h; exact hc h)]
        have hs := cmpW_swap m' m
        exact .inr ⟨h1, List.mem_append.2 (.inl h2), fun x hx hk => (List.mem_append.1 hx).elim (fun hh => h3 x hh hk) (fun hh => cmpW_trans (by omega) (h3' x hh hk))⟩
theorem IsMax.both {l l' : List V} {m m' : V} (h : IsMax l m) (h' : IsMax l' m') (hn : ∀ x ∈ l, 0 ≤ x.1) (hn' : ∀ x ∈ l', 0 ≤ x.1) : IsMax (l ++ l') (greatV m m') := by
  unfold greatV
  rcases h with ⟨rfl, h⟩ | ⟨h1, h2, h3⟩
  · rcases h' with ⟨rfl, h'⟩ | ⟨h1', h2', h3'⟩
    · rw [cmpW_self, if_neg (by omega)]
      exact .inl ⟨rfl, fun x hx => (List.mem_append.1 hx).elim (h x) (h' x)⟩
    · have hk := hn' _ h2'
      rw [cmpW_kind (show zeroV.1 < m'.1 by simp [zeroV]; omega), if_pos (by omega)]
      exact .inr ⟨h1', List.mem_append.2 (.inr h2'), fun x hx hk => (List.mem_append.1 hx).elim (fun hh => (hk (h x hh)).elim) (fun hh => h3' x hh hk)⟩
  · rcases h' with ⟨rfl, h'⟩ | ⟨h1', h2', h3'⟩
    · have hk := hn _ h2
      rw [cmpW_swap m zeroV, cmpW_kind (show zeroV.1 < m.1 by simp [zeroV]; omega), if_neg (by omega)]
      exact .inr ⟨h1, List.mem_append.2 (.inl h2), fun x hx hk => (List.mem_append.1 hx).elim (fun hh => h3 x hh hk) (fun hh => (hk (h' x hh)).elim)⟩
    · by_cases hc : 0 < cmpW m' m
      · rw [if_pos hc]
        have hs := cmpW_swap m' m
        exact .inr ⟨h1', List.mem_append.2 (.inr h2'), fun x hx hk => (List.mem_append.1 hx).elim (fun hh => cmpW_trans (h3 x hh hk) (by omega)) (fun hh => h3' x hh hk)⟩
      · rw [if_neg hc]
        exact .inr ⟨h1, List.mem_append.2 (.inl h2), fun x hx hk => (List.mem_append.1 hx).elim (fun hh => h3 x hh hk) (fun hh => cmpW_trans (h3' x hh hk) (by omega))⟩

/-- What is known of values: how many, how many are nothing, the least, the greatest. -/
abbrev St := Int × Int × V × V
def zeroS : St := (0, 0, zeroV, zeroV)
def bothS (a b : St) : St := (a.1 + b.1, a.2.1 + b.2.1, leastV a.2.2.1 b.2.2.1, greatV a.2.2.2 b.2.2.2)
def oneS (v : V) : St := if v.1 = 0 then (1, 1, zeroV, zeroV) else (1, 0, v, v)
def nulls (l : List V) : Nat := l.countP fun x => x.1 == 0
structure IsSt (l : List V) (s : St) : Prop where
  cnt : s.1 = l.length
  nul : s.2.1 = nulls l
  mn : IsMin l s.2.2.1
  mx : IsMax l s.2.2.2
theorem IsSt.one {l : List V} {s s' : St} (h : IsSt l s) (h' : IsSt l s') : s = s' :=
  Prod.ext (h.cnt.trans h'.cnt.symm) (Prod.ext (h.nul.trans h'.nul.symm) (Prod.ext (h.mn.one h'.mn) (h.mx.one h'.mx)))
theorem IsSt.nil : IsSt [] zeroS := ⟨rfl, rfl, .inl ⟨rfl, by simp⟩, .inl ⟨rfl, by simp⟩⟩
theorem IsSt.single (v : V) : IsSt [v] (oneS v) := by
  unfold oneS
  by_cases h : v.1 = 0
  · rw [if_pos h]
    exact ⟨rfl, by simp [nulls, h], .inl ⟨rfl, by simpa using h⟩, .inl ⟨rfl, by simpa using h⟩⟩
  · rw [if_neg h]
    refine ⟨rfl, by simp [nulls, h], .inr ⟨h, by simp, ?_⟩, .inr ⟨h, by simp, ?_⟩⟩
    · intro x hx _
      rw [List.mem_singleton.1 hx, cmpW_self]; omega
    · intro x hx _
      rw [List.mem_singleton.1 hx, cmpW_self]; omega
theorem IsSt.both {l l' : List V} {s s' : St} (h : IsSt l s) (h' : IsSt l' s') (hn : ∀ x ∈ l, 0 ≤ x.1) (hn' : ∀ x ∈ l', 0 ≤ x.1) : IsSt (l ++ l') (bothS s s') :=
  ⟨by simp [bothS, h.cnt, h'.cnt], by simp [bothS, h.nul, h'.nul, nulls], h.mn.both h'.mn, h.mx.both h'.mx hn hn'⟩
theorem IsSt.turn {l l' : List V} {s : St} (h : IsSt (l ++ l') s) : IsSt (l' ++ l) s :=
  ⟨by have := h.cnt; simp at this ⊢; omega, by have := h.nul; simp [nulls] at this ⊢; omega, h.mn.same (by simp [or_comm]), h.mx.same (by simp [or_comm])⟩
theorem nulls_le (l : List V) : nulls l ≤ l.length := List.countP_le_length
theorem IsSt.cnt_le {l : List V} {s : St} (h : IsSt l s) (hl : l.length ≤ 40) : 0 ≤ s.1 ∧ s.1 ≤ 40 ∧ 0 ≤ s.2.1 ∧ s.2.1 ≤ 40 := by
  have := h.cnt; have := h.nul; have := nulls_le l
  omega

/-- Values are of one kind, but for those that are nothing. -/
def Alone (l : List V) : Prop := ∀ x ∈ l, ∀ y ∈ l, ¬ x.1 = 0 → ¬ y.1 = 0 → x.1 = y.1

theorem IsSt.null {l : List V} {s : St} (h : IsSt l s) {x : V} (hx : x ∈ l) (hk : x.1 = 0) : 0 < s.2.1 := by
  have := h.nul
  have : 0 < nulls l := List.countP_pos_iff.2 ⟨x, hx, by simpa using hk⟩
  omega
theorem nulls_lt {x : V} (hk : ¬ x.1 = 0) : ∀ (l : List V), x ∈ l → nulls l < l.length
  | [], h => by simp at h
  | y :: l, h => by
    have hl := nulls_le l
    unfold nulls at hl ⊢
    rcases List.mem_cons.1 h with rfl | h
    · rw [List.countP_cons_of_neg (by simpa using hk)]; simp only [List.length_cons]; omega
    · have := nulls_lt hk l h
      unfold nulls at this
      rw [List.countP_cons]; simp only [List.length_cons]; split <;> omega
theorem IsSt.some {l : List V} {s : St} (h : IsSt l s) (ha : Alone l) {x : V} (hx : x ∈ l) (hk : ¬ x.1 = 0) :
    s.2.1 < s.1 ∧ s.2.2.1.1 = x.1 ∧ s.2.2.2.1 = x.1 ∧ cmpW s.2.2.1 x ≤ 0 ∧ cmpW x s.2.2.2 ≤ 0 := by
  have h1 := h.cnt; have h2 := h.nul
  have h3 := nulls_lt hk l hx
  rcases h.mn with ⟨_, hz⟩ | ⟨a1, a2, a3⟩
  · exact (hk (hz x hx)).elim
  rcases h.mx with ⟨_, hz⟩ | ⟨b1, b2, b3⟩
  · exact (hk (hz x hx)).elim
  exact ⟨by omega, ha _ a2 _ hx a1 hk, ha _ b2 _ hx b1 hk, a3 x hx hk, b3 x hx hk⟩
end Go.Proofs.YtodemklghajdeaaGreatDoor.S
