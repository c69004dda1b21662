/- What ask.run does, and the closures that it is called with, said of every call. -/
import Derived.Test.YtlnkbhbpkmnkaaaGreatDoorKC
import Derived.Test.YtlnkbhbpkmnkaaaGreatDoorAKE
namespace Go.Proofs.YtlnkbhbpkmnkaaaGreatDoor
open Go.RowKit Go.Proofs Go.Lib Go.Proofs.YtlnkbhbpkmnkaaaGreatDoor.Ask

def smR (r : Nat) : Bool := decide (97 ≤ r) && decide (r ≤ 122)
def dgR (r : Nat) : Bool := decide (48 ≤ r) && decide (r ≤ 57)
def wcR (r : Nat) : Bool := smR r || dgR r || decide (r = 95)
def blR (r : Nat) : Bool := decide (r = 32)
theorem smR_hi (r : Nat) (h : 127 < r) : smR r = false := by simp [smR]; omega
theorem dgR_hi (r : Nat) (h : 127 < r) : dgR r = false := by simp [dgR]; omega
theorem wcR_hi (r : Nat) (h : 127 < r) : wcR r = false := by simp [wcR, smR_hi r h, dgR_hi r h]; omega
theorem blR_hi (r : Nat) (h : 127 < r) : blR r = false := by simp [blR]; omega

set_option maxHeartbeats 1000000 in
theorem blank_any (w : World) : PredAt Tryz.prog 101 #[] encR blR w := fun W r _ => by
  unfold FnGives
  go_enter Tryz.func101, Tryz.ntmps101
  go_wp2
  go_ret
  refine ⟨ret_bool ?_, 0, rfl⟩
  unfold blR
  by_cases h : r = 32
  · subst h; rfl
  · have : ¬ ((r : Int) = 32) := by omega
    simp [h, this]
set_option maxHeartbeats 1000000 in
theorem fsmall0 (r : Nat) (W : World) : Calls Tryz.prog 135 #[.int .i32 (r : Int)] W fun e w' => e = .returned (.bool (smR r)) ∧ w' = W := by
  by_cases h1 : 97 ≤ r <;> by_cases h2 : r ≤ 122
  all_goals
    have z1 : (97 : Int) ≤ (r : Int) ↔ 97 ≤ r := by omega
    have z2 : (r : Int) ≤ 122 ↔ r ≤ 122 := by omega
    go_enter Tryz.func135, Tryz.ntmps135
    go_wp2
    all_goals first | (exfalso; omega) | (go_ret; exact ⟨ret_bool (by simp [smR, h1, h2]), rfl⟩)
theorem fsmall_any (w : World) : PredAt Tryz.prog 135 #[] encR smR w := fun W r _ => (fsmall0 r W).mono fun _ _ ⟨he, hw⟩ => ⟨he, 0, hw⟩
set_option maxHeartbeats 1000000 in
theorem fdigit0 (r : Nat) (W : World) : Calls Tryz.prog 136 #[.int .i32 (r : Int)] W fun e w' => e = .returned (.bool (dgR r)) ∧ w' = W := by
  by_cases h1 : 48 ≤ r <;> by_cases h2 : r ≤ 57
  all_goals
    have z1 : (48 : Int) ≤ (r : Int) ↔ 48 ≤ r := by omega
    have z2 : (r : Int) ≤ 57 ↔ r ≤ 57 := by omega
    go_enter Tryz.func136, Tryz.ntmps136
    go_wp2
    all_goals first | (exfalso; omega) | (go_ret; exact ⟨ret_bool (by simp [dgR, h1, h2]), rfl⟩)
theorem fdigit_any (w : World) : PredAt Tryz.prog 136 #[] encR dgR w := fun W r _ => (fdigit0 r W).mono fun _ _ ⟨he, hw⟩ => ⟨he, 0, hw⟩
set_option maxHeartbeats 1000000 in
theorem fword_any (w : World) (B C : Nat) (hB : B < w.heap.size) (hC : C < w.heap.size) (h4 : w.cell? ⟨B, 0, none⟩ = some (.func (.func 135) #[] #[])) (h5 : w.cell? ⟨C, 0, none⟩ = some (.func (.func 136) #[] #[])) :
    PredAt Tryz.prog 137 #[.pointer (some ⟨B, 0, none⟩), .pointer (some ⟨C, 0, none⟩)] encR wcR w := fun W r hb => by
  have h4' : W.cell? ⟨B, 0, none⟩ = some (.func (.func 135) #[] #[]) := (hb.cell (p := ⟨B, 0, none⟩) hB).trans h4
  have h5' : W.cell? ⟨C, 0, none⟩ = some (.func (.func 136) #[] #[]) := (hb.cell (p := ⟨C, 0, none⟩) hC).trans h5
  clear h4 h5
  have H1 := mkH (fsmall0 r)
  have H2 := mkH (fdigit0 r)
  have HR : Hid (wcR r = (smR r || (dgR r || ((r : Int) == 95)))) := by
    show wcR r = _
    unfold wcR
    rw [Bool.or_assoc]
    congr 2
    by_cases h : r = 95
    · subst h; rfl
    · have : ¬ ((r : Int) = 95) := by omega
      simp [h, this]
  generalize smR r = b1 at *
  generalize dgR r = b2 at *
  generalize wcR r = b3 at *
  show Calls Tryz.prog 137 #[.int .i32 (r : Int), .pointer (some ⟨B, 0, none⟩), .pointer (some ⟨C, 0, none⟩)] W _
  cases b1 <;> cases b2
  all_goals
    go_enter Tryz.func137, Tryz.ntmps137
    go_wp2_with (first
      | (go_at_call 135; refine (H1.out _).mono ?_; rintro e w1 ⟨rfl, rfl⟩)
      | (go_at_call 136; refine (H2.out _).mono ?_; rintro e w2 ⟨rfl, rfl⟩))
    all_goals (go_ret; exact ⟨ret_bool (by rw [HR.out]; simp), 0, rfl⟩)

set_option maxHeartbeats 1000000 in
/-- ask.run: how many bytes the text begins with that are so. -/
theorem run_any (g : Nat) (lb : Array Value) (eg : ∀ args w, (callFunc g args).run Tryz.prog w = .ok (.enter g args) w) (p : Nat → Bool) (hp : ∀ r, 127 < r → p r = false) (s : ByteArray) (w : World) (hs : s.size ≤ maxLen) (hpa : PredAt Tryz.prog g lb encR p w) :
    Calls Tryz.prog 100 #[.string s, .func (.func g) #[] lb] w fun e w' => e = .returned (.int .i64 (runL p s.data.toList : Int)) ∧ Below w.heap.size w w' := by
  have HC : Hid (Calls Tryz.prog 134 #[.string s, .func (.func g) #[] lb] w fun e w' => e = .returned (.string (Lib.trimLeftF p s)) ∧ Below w.heap.size w w') := Any.strings_TrimLeftFunc Tryz.lays272 g lb eg p s w hpa
  have HR := mkH (trim_size (s := s) hp)
  have hle := trimLeftF_size p s
  unfold maxLen at hs
  clear hpa eg
  generalize Lib.trimLeftF p s = t at *
  generalize (runL p s.data.toList : Int) = n at *
  go_enter Tryz.func100, Tryz.ntmps100
  go_wp2_with (first
    | (go_at_call 134; refine (HC.out).mono ?_; rintro e w1 ⟨rfl, hb1⟩))
  go_ret
  exact ⟨ret_int HR.out, hb1⟩
end Go.Proofs.YtlnkbhbpkmnkaaaGreatDoor
