/- What the closure of encode.fits does, said of every call. -/
import Derived.Test.YtmbnomplckhmeaaWa
namespace Go.Proofs.Ytmbnomplckhmeaa
open Go.RowKit Go.Proofs Go.Shelf

/-- A value that a column of a kind may not have. -/
def badV (kind : Int) (x : V) : Bool := !rightV x.1 x.2.1 x.2.2 || (!(x.1 == 0) && !(x.1 == kind))

set_option maxHeartbeats 600000 in
set_option maxRecDepth 100000 in
theorem closure24_any (kind k n : Int) (t : ByteArray) (bx : Nat) (w : World) (hb : bx < w.heap.size) (d0 : w.cell? ⟨bx, 0, none⟩ = some (.int .i64 kind)) (ht : t.size ≤ maxLen) :
    Calls Try.prog 26 #[.agg #[.int .i64 k, .int .i64 n, .string t], .pointer (some ⟨bx, 0, none⟩)] w fun e w' => e = .returned (.bool (badV kind (k, n, t))) ∧ Below w.heap.size w w' := by
  have hne : ¬ w.heap.size = bx := by omega
  have HC := mkHid (fun W => rightV_any k n t W ht)
  have HR : Hid (badV kind (k, n, t) = (!rightV k n t || (!(k == 0) && !(k == kind)))) := rfl
  clear ht
  cases hr : rightV k n t with
  | false =>
    rw [hr] at HR HC
    go_enter Try.func26, Try.ntmps26
    go_wp2_with (go_at_call 10; refine (HC.out _).mono ?_; rintro e w1 ⟨rfl, hb1⟩)
    go_ret
    exact ⟨ret_bool (by rw [HR.out]; rfl), ((Below.refl _ _).alloc (Nat.le_refl _) _).trans (hb1.mono (by simp))⟩
  | true =>
    rw [hr] at HR HC
    by_cases h0 : k = 0
    · subst h0
      go_enter Try.func26, Try.ntmps26
      go_wp2_with fail
      refine (HC.out _).mono ?_
      rintro e w1 ⟨rfl, hb1⟩
      have q0 : w1.cell? ⟨w.heap.size, 0, none⟩ = some (.int .i64 0) := (hb1.cell (p := ⟨w.heap.size, 0, none⟩) (by simp)).trans (World.cell?_alloc_mark w _ 32 (0, 0) 0)
      have q1 : w1.cell? ⟨bx, 0, none⟩ = some (.int .i64 kind) := (hb1.cell (p := ⟨bx, 0, none⟩) (by simp; omega)).trans (Lib.cell?_alloc_some _ d0)
      go_wp2
      all_goals
        go_ret
        exact ⟨ret_bool (by rw [HR.out]; simp [*]), ((Below.refl _ _).alloc (Nat.le_refl _) _).trans (hb1.mono (by simp))⟩
    · have b0 : (k == 0) = false := by simpa using h0
      go_enter Try.func26, Try.ntmps26
      go_wp2_with fail
      refine (HC.out _).mono ?_
      rintro e w1 ⟨rfl, hb1⟩
      have q0 : w1.cell? ⟨w.heap.size, 0, none⟩ = some (.int .i64 k) := (hb1.cell (p := ⟨w.heap.size, 0, none⟩) (by simp)).trans (World.cell?_alloc_mark w _ 32 (0, 0) 0)
      have q1 : w1.cell? ⟨bx, 0, none⟩ = some (.int .i64 kind) := (hb1.cell (p := ⟨bx, 0, none⟩) (by simp; omega)).trans (Lib.cell?_alloc_some _ d0)
      go_wp2
      all_goals
        go_ret
        exact ⟨ret_bool (by rw [HR.out]; simp [*, bne]), ((Below.refl _ _).alloc (Nat.le_refl _) _).trans (hb1.mono (by simp))⟩
end Go.Proofs.Ytmbnomplckhmeaa
