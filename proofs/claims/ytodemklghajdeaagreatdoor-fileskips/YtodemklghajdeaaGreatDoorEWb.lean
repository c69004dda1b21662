/- What the closure of encode.fits does, said of every call. -/
import Derived.Test.YtodemklghajdeaaGreatDoorEW9
import Derived.Test.YtodemklghajdeaaGreatDoorShelf
namespace Go.Proofs.YtodemklghajdeaaGreatDoor.E
open Go.RowKit Go.Proofs Go.Shelf
open Go.Sort (grow)

def badLetter (r : Nat) : Bool := decide (r < 32) || (decide (126 < r) || ((r : Int) == 39))

set_option maxHeartbeats 1000000 in
theorem letter_any (w : World) : PredAt Tryz.prog 108 #[] encR badLetter w := fun W r _ => by
  unfold FnGives
  by_cases h1 : r < 32 <;> by_cases h2 : 126 < r
  all_goals
    have z1 : (r : Int) < 32 ↔ r < 32 := by omega
    have z2 : (126 : Int) < (r : Int) ↔ 126 < r := by omega
    go_enter Tryz.func108, Tryz.ntmps108
    go_wp2
    all_goals first | (exfalso; omega) | (go_ret; exact ⟨ret_bool (by simp [badLetter, h1, h2]), 0, rfl⟩)

def rtB (t : ByteArray) : Bool := decide (t.size ≤ 40) && !(decide (0 ≤ Lib.idxFunc badLetter true t))
theorem rt0 {t : ByteArray} (h : ¬ t.size ≤ 40) : false = rtB t := by simp [rtB, h]
theorem rt1 {t : ByteArray} (h : t.size ≤ 40) : (!(decide (0 ≤ Lib.idxFunc badLetter true t))) = rtB t := by simp [rtB, h]

set_option maxHeartbeats 1000000 in
theorem rightText_any (t : ByteArray) (w : World) (ht : t.size ≤ maxLen) :
    Calls Tryz.prog 74 #[.string t] w fun e w' => e = .returned (.bool (rtB t)) ∧ Below w.heap.size w w' := by
  have HC : Hid (∀ W, Calls Tryz.prog 105 #[.string t, .func (.func 108) #[] #[]] W fun e w' => e = .returned (.bool (decide (0 ≤ Lib.idxFunc badLetter true t))) ∧ Below W.heap.size W w') := fun W => Tryz.strings_ContainsFunc 108 #[] (enters_of Tryz.func108 (by kernel_rfl) rfl) badLetter t W (letter_any W)
  unfold maxLen at ht
  by_cases h : t.size ≤ 40
  · have HR : Hid ((!(decide (0 ≤ Lib.idxFunc badLetter true t))) = rtB t) := rt1 h
    generalize decide (0 ≤ Lib.idxFunc badLetter true t) = b at HC HR
    go_enter Tryz.func74, Tryz.ntmps74
    go_wp2_with (first
      | (go_at_call 105; refine (HC.out _).mono ?_; rintro e w1 ⟨rfl, hb1⟩))
    go_ret
    exact ⟨ret_bool HR.out, hb1⟩
  · have HR : Hid (false = rtB t) := rt0 h
    clear HC
    go_enter Tryz.func74, Tryz.ntmps74
    go_wp2
    go_ret
    exact ⟨ret_bool HR.out, Below.refl _ _⟩

def rightV (k n : Int) (t : ByteArray) : Bool := if k = 0 then n == 0 && t.toList.isEmpty else if k = 1 then t.toList.isEmpty else if k = 2 then n == 0 && rtB t else false
theorem rv0 {k n : Int} {t : ByteArray} (hn : (n == 0) = true) (h : (k == 0) = true) : t.toList.isEmpty = rightV k n t := by simp at h hn; subst h hn; simp [rightV]
theorem rv0' {k n : Int} {t : ByteArray} (hn : (n == 0) = false) (h : (k == 0) = true) : false = rightV k n t := by simp at h; subst h; simp [rightV, hn]
theorem rv1 {k n : Int} {t : ByteArray} (h : (k == 1) = true) : t.toList.isEmpty = rightV k n t := by simp at h; subst h; simp [rightV]
theorem rv2 {k n : Int} {t : ByteArray} (hn : (n == 0) = true) (h : (k == 2) = true) : rtB t = rightV k n t := by simp at h hn; subst h hn; simp [rightV]
theorem rv2' {k n : Int} {t : ByteArray} (hn : (n == 0) = false) (h : (k == 2) = true) : false = rightV k n t := by simp at h; subst h; simp [rightV, hn]
theorem rv3 {k n : Int} {t : ByteArray} (h0 : (k == 0) = false) (h1 : (k == 1) = false) (h2 : (k == 2) = false) : false = rightV k n t := by
  simp at h0 h1 h2; simp [rightV, h0, h1, h2]

set_option maxHeartbeats 1000000 in
theorem rightV_any (k n : Int) (t : ByteArray) (w : World) (ht : t.size ≤ maxLen) :
    Calls Tryz.prog 49 #[.agg #[.int .i64 k, .int .i64 n, .string t]] w fun e w' => e = .returned (.bool (rightV k n t)) ∧ Below w.heap.size w w' := by
  have HC : Hid (∀ W, Calls Tryz.prog 74 #[.string t] W fun e w' => e = .returned (.bool (rtB t)) ∧ Below W.heap.size W w') := fun W => rightText_any t W ht
  unfold maxLen at ht
  by_cases hn : n = 0
  · have hb : (n == 0) = true := by simpa using hn
    clear hn
    go_enter Tryz.func49, Tryz.ntmps49
    go_wp2_with (first
      | (go_at_call 74; refine (HC.out _).mono ?_; rintro e w1 ⟨rfl, hb1⟩))
    all_goals go_ret
    · exact ⟨ret_bool (rv0 hb ‹_›), (Below.refl _ _).alloc (Nat.le_refl _) _⟩
    · exact ⟨ret_bool (rv1 ‹_›), (Below.refl _ _).alloc (Nat.le_refl _) _⟩
    · exact ⟨ret_bool (rv2 hb ‹_›), ((Below.refl _ _).alloc (Nat.le_refl _) _).trans (hb1.mono (by simp))⟩
    · exact ⟨ret_bool (rv3 ‹_› ‹_› ‹_›), (Below.refl _ _).alloc (Nat.le_refl _) _⟩
  · have hb : (n == 0) = false := by simpa using hn
    clear hn
    go_enter Tryz.func49, Tryz.ntmps49
    go_wp2_with (first
      | (go_at_call 74; refine (HC.out _).mono ?_; rintro e w1 ⟨rfl, hb1⟩))
    all_goals go_ret
    · exact ⟨ret_bool (rv0' hb ‹_›), (Below.refl _ _).alloc (Nat.le_refl _) _⟩
    · exact ⟨ret_bool (rv1 ‹_›), (Below.refl _ _).alloc (Nat.le_refl _) _⟩
    · exact ⟨ret_bool (rv2' hb ‹_›), (Below.refl _ _).alloc (Nat.le_refl _) _⟩
    · exact ⟨ret_bool (rv3 ‹_› ‹_› ‹_›), (Below.refl _ _).alloc (Nat.le_refl _) _⟩


theorem nt {b : Bool} (h : (!b) = true) : b = false := by simpa using h
theorem nf {b : Bool} (h : (!b) = false) : b = true := by simpa using h
theorem bcell {W w1 : World} (hb : Below W.heap.size W w1) : (∀ b o, b < W.heap.size → w1.cell? ⟨b, o, none⟩ = W.cell? ⟨b, o, none⟩) ∧ (∀ b o, b < W.heap.size → w1.frozen? ⟨b, o, none⟩ = W.frozen? ⟨b, o, none⟩) :=
  ⟨fun b o h => hb.cell (p := ⟨b, o, none⟩) h, fun b o h => hb.frozen (p := ⟨b, o, none⟩) h⟩
set_option maxHeartbeats 1000000 in
theorem closure28_any (k n : Int) (t : ByteArray) (w : World) :
    Calls Tryz.prog 128 #[.agg #[.int .i64 k, .int .i64 n, .string t]] w fun e w' => e = .returned (.bool (k == 0)) ∧ Below w.heap.size w w' := by
  go_enter Tryz.func128, Tryz.ntmps128
  go_wp2
  go_ret
  exact ⟨rfl, (Below.refl _ _).alloc (Nat.le_refl _) _⟩

end Go.Proofs.YtodemklghajdeaaGreatDoor.E

namespace Go.Proofs.YtodemklghajdeaaGreatDoor.E
open Go.RowKit Go.Proofs Go.Shelf

/-- A value that a column of a kind may not have. -/
def badV (kind : Int) (x : V) : Bool := !rightV x.1 x.2.1 x.2.2 || (!(x.1 == 0) && !(x.1 == kind))

set_option maxHeartbeats 600000 in
set_option maxRecDepth 100000 in
theorem closure24_any (kind k n : Int) (t : ByteArray) (bx : Nat) (w : World) (hb : bx < w.heap.size) (d0 : w.cell? ⟨bx, 0, none⟩ = some (.int .i64 kind)) (ht : t.size ≤ maxLen) :
    Calls Tryz.prog 123 #[.agg #[.int .i64 k, .int .i64 n, .string t], .pointer (some ⟨bx, 0, none⟩)] w fun e w' => e = .returned (.bool (badV kind (k, n, t))) ∧ Below w.heap.size w w' := by
  have hne : ¬ w.heap.size = bx := by omega
  have HC := mkHid (fun W => rightV_any k n t W ht)
  have HR : Hid (badV kind (k, n, t) = (!rightV k n t || (!(k == 0) && !(k == kind)))) := rfl
  clear ht
  cases hr : rightV k n t with
  | false =>
    rw [hr] at HR HC
    go_enter Tryz.func123, Tryz.ntmps123
    go_wp2_with (go_at_call 49; refine (HC.out _).mono ?_; rintro e w1 ⟨rfl, hb1⟩)
    go_ret
    exact ⟨ret_bool (by rw [HR.out]; rfl), ((Below.refl _ _).alloc (Nat.le_refl _) _).trans (hb1.mono (by simp))⟩
  | true =>
    rw [hr] at HR HC
    by_cases h0 : k = 0
    · subst h0
      go_enter Tryz.func123, Tryz.ntmps123
      go_wp2_with fail
      refine (HC.out _).mono ?_
      rintro e w1 ⟨rfl, hb1⟩
      have q0 : w1.cell? ⟨w.heap.size, 0, none⟩ = some (.int .i64 0) := (hb1.cell (p := ⟨w.heap.size, 0, none⟩) (by simp)).trans (World.cell?_alloc_mark w _ 45 (0, 0) 0)
      have q1 : w1.cell? ⟨bx, 0, none⟩ = some (.int .i64 kind) := (hb1.cell (p := ⟨bx, 0, none⟩) (by simp; omega)).trans (Lib.cell?_alloc_some _ d0)
      go_wp2
      all_goals
        go_ret
        exact ⟨ret_bool (by rw [HR.out]; simp [*]), ((Below.refl _ _).alloc (Nat.le_refl _) _).trans (hb1.mono (by simp))⟩
    · have b0 : (k == 0) = false := by simpa using h0
      go_enter Tryz.func123, Tryz.ntmps123
      go_wp2_with fail
      refine (HC.out _).mono ?_
      rintro e w1 ⟨rfl, hb1⟩
      have q0 : w1.cell? ⟨w.heap.size, 0, none⟩ = some (.int .i64 k) := (hb1.cell (p := ⟨w.heap.size, 0, none⟩) (by simp)).trans (World.cell?_alloc_mark w _ 45 (0, 0) 0)
      have q1 : w1.cell? ⟨bx, 0, none⟩ = some (.int .i64 kind) := (hb1.cell (p := ⟨bx, 0, none⟩) (by simp; omega)).trans (Lib.cell?_alloc_some _ d0)
      go_wp2
      all_goals
        go_ret
        exact ⟨ret_bool (by rw [HR.out]; simp [*, bne]), ((Below.refl _ _).alloc (Nat.le_refl _) _).trans (hb1.mono (by simp))⟩
end Go.Proofs.YtodemklghajdeaaGreatDoor.E
