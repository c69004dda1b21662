/- What log.either, log.bare, value.Print, strconv.Itoa and log.right do, said of every call. -/
import Derived.Test.YtfppidnfomelpaaGreatDoorB4
import Derived.Lib.ItoaLen
import Derived.Test.YtfppidnfomelpaaGreatDoorRD
namespace Go.Proofs.YtfppidnfomelpaaGreatDoor
open Go.RowKit Go.Proofs Go.Lib Go.Joins
open Go.Sort (grow)

def TabB (w : World) : Prop := Lib.TabIs Tryz.prog w "internal/strconv.uint64pow10" .u64 Lib.pow10Tab
theorem TabB.below {w W : World} (h : TabB w) (hb : Below w.heap.size w W) : TabB W := Lib.tabBelow_of_tabIs h W hb
theorem ret_str {a b : ByteArray} (h : a = b) : Ending.returned (.string a) = .returned (.string b) := by rw [h]
def itoaB (n : Int) : ByteArray := ⟨(Lib.itoa n).toArray⟩
theorem itoa_any (n : Int) (w : World) (hn : I64 n) (ht : TabB w) : Calls Tryz.prog 36 #[.int .i64 n] w fun e w' => e = .returned (.string (itoaB n)) ∧ Below w.heap.size w w' :=
  (Tryz.strconv_Itoa n hn.1 hn.2 w ht).mono fun _ _ ⟨he, _, _, hw⟩ => ⟨he, hw ▸ below_grow _ _ (Nat.le_refl _) _ _⟩
theorem itoaB_size {n : Int} (hn : I64 n) : (itoaB n).size ≤ 21 := by
  have := itoa_length_le n hn.1 hn.2
  simpa [itoaB, ByteArray.size] using this

def eitherB (b : Bool) (x y : ByteArray) : ByteArray := if b then x else y
set_option maxHeartbeats 400000 in
theorem either_any (b : Bool) (x y : ByteArray) (w : World) : Calls Tryz.prog 24 #[.bool b, .string x, .string y] w fun e w' => e = .returned (.string (eitherB b x y)) ∧ w' = w := by
  cases b
  all_goals
    go_enter Tryz.func24, Tryz.ntmps24
    go_wp2
    all_goals (go_ret; exact ⟨rfl, rfl⟩)

def printV (k n : Int) (t : ByteArray) : ByteArray := if k = 0 then ⟨#[110, 117, 108, 108]⟩ else if k = 1 then itoaB n else if k = 2 then ⟨#[39]⟩ ++ t ++ ⟨#[39]⟩ else ⟨#[]⟩
theorem pr0 {k n : Int} {t : ByteArray} (h : (k == 0) = true) : ⟨#[110, 117, 108, 108]⟩ = printV k n t := by simp at h; subst h; rfl
theorem pr1 {k n : Int} {t : ByteArray} (h : (k == 1) = true) : itoaB n = printV k n t := by simp at h; subst h; rfl
theorem pr2 {k n : Int} {t : ByteArray} (h : (k == 2) = true) : ⟨#[39]⟩ ++ t ++ ⟨#[39]⟩ = printV k n t := by simp at h; subst h; rfl
theorem pr3 {k n : Int} {t : ByteArray} (h0 : (k == 0) = false) (h1 : (k == 1) = false) (h2 : (k == 2) = false) : ⟨#[]⟩ = printV k n t := by
  simp at h0 h1 h2; simp [printV, h0, h1, h2]
set_option maxHeartbeats 1000000 in
theorem printV_any (k n : Int) (t : ByteArray) (w : World) (ht : t.size ≤ 1000) (hn : I64 n) (htab : TabB w) :
    Calls Tryz.prog 90 #[.agg #[.int .i64 k, .int .i64 n, .string t]] w fun e w' => e = .returned (.string (printV k n t)) ∧ Below w.heap.size w w' := by
  have HT : Hid (∀ o, TabB (w.alloc o)) := fun o => htab.below ((Below.refl _ _).alloc (Nat.le_refl _) _)
  clear htab
  have HC : Hid (∀ W, TabB W → Calls Tryz.prog 119 #[.int .i64 n, .int .i64 10] W fun e w' => e = .returned (.string (itoaB n)) ∧ Below W.heap.size W w') := fun W h => (Tryz.strconv_FormatInt_10 n hn.1 hn.2 W h).mono fun _ _ ⟨he, _, _, hw⟩ => ⟨he, hw ▸ below_grow _ _ (Nat.le_refl _) _ _⟩
  have HP0 := mkH (@pr0 k n t)
  have HP1 := mkH (@pr1 k n t)
  have HP2 := mkH (@pr2 k n t)
  have HP3 := mkH (@pr3 k n t)
  clear hn
  generalize itoaB n = it at HC HP1
  generalize printV k n t = pv at *
  go_enter Tryz.func90, Tryz.ntmps90
  go_wp2_with (first
    | (go_at_call 119; refine (HC.out _ (HT.out _)).mono ?_; rintro e w1 ⟨rfl, hb1⟩))
  all_goals go_ret
  · exact ⟨ret_str (HP0.out ‹_›), (Below.refl _ _).alloc (Nat.le_refl _) _⟩
  · exact ⟨ret_str (HP1.out ‹_›), ((Below.refl _ _).alloc (Nat.le_refl _) _).trans (hb1.mono (by simp))⟩
  · exact ⟨ret_str (HP2.out ‹_›), (Below.refl _ _).alloc (Nat.le_refl _) _⟩
  · exact ⟨ret_str (HP3.out ‹_› ‹_› ‹_›), (Below.refl _ _).alloc (Nat.le_refl _) _⟩

def bareB (p : ByteArray) (r : Int) (mn cn : Nat) (nx : Int) : Bool := p.toList.isEmpty && (r == 0 && ((mn : Int) == 0 && ((cn : Int) == 0 && nx == 0)))
set_option maxHeartbeats 2000000 in
theorem bare_any (k : Int) (p : ByteArray) (r : Int) (ma : Option Addr) (mn mc : Nat) (ca : Option Addr) (cn cc : Nat) (nx : Int) (w : World) :
    Calls Tryz.prog 55 #[.agg #[.int .i64 k, .string p, .int .i64 r, .slice ma mn mc, .slice ca cn cc, .int .i64 nx]] w fun e w' => e = .returned (.bool (bareB p r mn cn nx)) ∧ Below w.heap.size w w' := by
  have HR : Hid (bareB p r mn cn nx = (p.toList.isEmpty && (r == 0 && ((mn : Int) == 0 && ((cn : Int) == 0 && nx == 0))))) := rfl
  generalize bareB p r mn cn nx = q at HR ⊢
  cases h1 : p.toList.isEmpty <;> cases h2 : (r == 0) <;> cases h3 : ((mn : Int) == 0) <;> cases h4 : ((cn : Int) == 0)
  all_goals
    rw [h1, h2, h3, h4] at HR
    have h1' := h1
    try (have e0 : p.toList = [] := by simpa using h1')
    try (have e0 : ¬ p.toList = [] := by simpa using h1')
    clear h1'
    go_enter Tryz.func55, Tryz.ntmps55
    go_wp2
    all_goals
      go_ret
      exact ⟨ret_bool (by rw [HR.out]; simp), (Below.refl _ _).alloc (Nat.le_refl _) _⟩
end Go.Proofs.YtfppidnfomelpaaGreatDoor
