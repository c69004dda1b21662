/- What schema.columnName, schema.fits and schema.mayBe do, said of every call. -/
import Derived.Test.YtlnkbhbpkmnkaaaGreatDoorCW2
namespace Go.Proofs.YtlnkbhbpkmnkaaaGreatDoor.C
open Go.RowKit Go.Proofs
theorem ix0 (w : World) : (Instr.index 215 (.agg #[.string ⟨#[97, 110, 100]⟩, .string ⟨#[105, 115]⟩, .string ⟨#[110, 111, 116]⟩, .string ⟨#[110, 117, 108, 108]⟩, .string ⟨#[111, 114]⟩]) (.int .i64 0)).run Tryz.prog w = .ok (.string ⟨#[97, 110, 100]⟩) w := by kernel_rfl
theorem ix1 (w : World) : (Instr.index 215 (.agg #[.string ⟨#[97, 110, 100]⟩, .string ⟨#[105, 115]⟩, .string ⟨#[110, 111, 116]⟩, .string ⟨#[110, 117, 108, 108]⟩, .string ⟨#[111, 114]⟩]) (.int .i64 1)).run Tryz.prog w = .ok (.string ⟨#[105, 115]⟩) w := by kernel_rfl
theorem ix2 (w : World) : (Instr.index 215 (.agg #[.string ⟨#[97, 110, 100]⟩, .string ⟨#[105, 115]⟩, .string ⟨#[110, 111, 116]⟩, .string ⟨#[110, 117, 108, 108]⟩, .string ⟨#[111, 114]⟩]) (.int .i64 2)).run Tryz.prog w = .ok (.string ⟨#[110, 111, 116]⟩) w := by kernel_rfl
theorem ix3 (w : World) : (Instr.index 215 (.agg #[.string ⟨#[97, 110, 100]⟩, .string ⟨#[105, 115]⟩, .string ⟨#[110, 111, 116]⟩, .string ⟨#[110, 117, 108, 108]⟩, .string ⟨#[111, 114]⟩]) (.int .i64 3)).run Tryz.prog w = .ok (.string ⟨#[110, 117, 108, 108]⟩) w := by kernel_rfl
theorem ix4 (w : World) : (Instr.index 215 (.agg #[.string ⟨#[97, 110, 100]⟩, .string ⟨#[105, 115]⟩, .string ⟨#[110, 111, 116]⟩, .string ⟨#[110, 117, 108, 108]⟩, .string ⟨#[111, 114]⟩]) (.int .i64 4)).run Tryz.prog w = .ok (.string ⟨#[111, 114]⟩) w := by kernel_rfl
set_option maxHeartbeats 4000000 in
theorem columnName_any (s : ByteArray) (w : World) (hs : s.size ≤ maxLen) (hw : NcB w) :
    Calls Tryz.prog 117 #[.string s] w fun e w' => e = .returned (.bool (colB s)) ∧ Below w.heap.size w w' := by
  have HC := mkH (fun W => name_any s W hs)
  obtain ⟨c0, c1, c2, c3, c4⟩ := hw
  have i0 := ix0
  have i1 := ix1
  have i2 := ix2
  have i3 := ix3
  have i4 := ix4
  clear hs
  go_enter Tryz.func117, Tryz.ntmps117
  go_wp2
  refine wp_loop_rounds 6 ?_
  rw [rounds_succ]
  go_wp2
  · have h : isW s [97, 110, 100] = true := by assumption
    go_ret
    exact ⟨ret_bool (by simp [colB, h]), Below.refl _ _⟩
  rw [rounds_succ]
  go_wp2
  · have h : isW s [105, 115] = true := by assumption
    go_ret
    exact ⟨ret_bool (by simp [colB, h]), Below.refl _ _⟩
  rw [rounds_succ]
  go_wp2
  · have h : isW s [110, 111, 116] = true := by assumption
    go_ret
    exact ⟨ret_bool (by simp [colB, h]), Below.refl _ _⟩
  rw [rounds_succ]
  go_wp2
  · have h : isW s [110, 117, 108, 108] = true := by assumption
    go_ret
    exact ⟨ret_bool (by simp [colB, h]), Below.refl _ _⟩
  rw [rounds_succ]
  go_wp2
  · have h : isW s [111, 114] = true := by assumption
    go_ret
    exact ⟨ret_bool (by simp [colB, h]), Below.refl _ _⟩
  rw [rounds_succ]
  go_wp2_with (first
    | (go_at_call 109; refine (HC.out _).mono ?_; rintro e w1 ⟨rfl, hb1⟩))
  have e0 : isW s [97, 110, 100] = false := by first | assumption | (apply Bool.eq_false_iff.2; assumption)
  have e1 : isW s [105, 115] = false := by first | assumption | (apply Bool.eq_false_iff.2; assumption)
  have e2 : isW s [110, 111, 116] = false := by first | assumption | (apply Bool.eq_false_iff.2; assumption)
  have e3 : isW s [110, 117, 108, 108] = false := by first | assumption | (apply Bool.eq_false_iff.2; assumption)
  have e4 : isW s [111, 114] = false := by first | assumption | (apply Bool.eq_false_iff.2; assumption)
  go_ret
  exact ⟨ret_bool (by simp [colB, e0, e1, e2, e3, e4]), hb1⟩

def fitB (k dk dn : Int) (dt : ByteArray) : Bool := rightV dk dn dt && (dk == 0 || dk == k)

set_option maxHeartbeats 1000000 in
theorem fits_any (i : Int) (nm : ByteArray) (k : Int) (mu : Bool) (ck cn : Int) (ct : ByteArray) (dk dn : Int) (dt : ByteArray) (w : World) (ht : dt.size ≤ maxLen) :
    Calls Tryz.prog 86 #[.agg #[.int .i64 i, .string nm, .int .i64 k, .bool mu, .int .i64 ck, .int .i64 cn, .string ct], .agg #[.int .i64 dk, .int .i64 dn, .string dt]] w fun e w' => e = .returned (.bool (fitB k dk dn dt)) ∧ Below w.heap.size w w' := by
  have HC := mkH (fun W => rightV_any dk dn dt W ht)
  have HR : Hid (fitB k dk dn dt = (rightV dk dn dt && (dk == 0 || dk == k))) := rfl
  generalize fitB k dk dn dt = r at *
  clear ht
  have hz : w.heap.size < w.heap.size + 1 := by omega
  have B2 : Hid (∀ X Y : Obj, Below w.heap.size w ((w.alloc X).alloc Y)) := fun X Y => ((Below.refl _ _).alloc (Nat.le_refl _) _).alloc (by simp) _
  cases hq : rightV dk dn dt with
  | false =>
    rw [hq] at HC HR
    go_enter Tryz.func86, Tryz.ntmps86
    go_wp2_with (first
      | (go_at_call 119; refine (HC.out _).mono ?_; rintro e w1 ⟨rfl, hb1⟩))
    go_ret
    exact ⟨ret_bool (by rw [HR.out]; simp), Below.ups (B2.out _ _) hb1⟩
  | true =>
    rw [hq] at HC HR
    by_cases h0 : dk = 0
    · have hb : (dk == 0) = true := by simpa using h0
      rw [hb] at HR
      subst h0
      clear hb
      go_enter Tryz.func86, Tryz.ntmps86
      go_wp2_with (first
        | (go_at_call 119; refine (HC.out _).mono ?_; rintro e w1 ⟨rfl, hb1⟩; have hcl : ∀ o, w1.cell? ⟨w.heap.size + 1, o, none⟩ = _ := fun o => hb1.cell (p := ⟨w.heap.size + 1, o, none⟩) (by simp); have hcl0 : ∀ o, w1.cell? ⟨w.heap.size, o, none⟩ = _ := fun o => hb1.cell (p := ⟨w.heap.size, o, none⟩) (by simp; omega)))
      all_goals go_ret
      all_goals exact ⟨ret_bool (by rw [HR.out]; simp), Below.ups (B2.out _ _) hb1⟩
    · have hb : (dk == 0) = false := by simpa using h0
      rw [hb] at HR
      clear h0
      go_enter Tryz.func86, Tryz.ntmps86
      go_wp2_with (first
        | (go_at_call 119; refine (HC.out _).mono ?_; rintro e w1 ⟨rfl, hb1⟩; have hcl : ∀ o, w1.cell? ⟨w.heap.size + 1, o, none⟩ = _ := fun o => hb1.cell (p := ⟨w.heap.size + 1, o, none⟩) (by simp); have hcl0 : ∀ o, w1.cell? ⟨w.heap.size, o, none⟩ = _ := fun o => hb1.cell (p := ⟨w.heap.size, o, none⟩) (by simp; omega)))
      all_goals go_ret
      all_goals exact ⟨ret_bool (by rw [HR.out]; simp), Below.ups (B2.out _ _) hb1⟩

def mayB (c : Col) : Bool := (c.2.2.1 == 1 || c.2.2.1 == 2) && (decide (1 ≤ c.1) && (colB c.2.1 && fitB c.2.2.1 c.2.2.2.2.1 c.2.2.2.2.2.1 c.2.2.2.2.2.2))
theorem mayB_iff (c : Col) : mayB c = true ↔ mayC colB fitB c := by
  simp [mayB, mayC]
theorem b1c {w w1 : World} {X : Obj} (hb : Below (w.alloc X).heap.size (w.alloc X) w1) : Below w.heap.size w w1 := ((Below.refl _ _).alloc (Nat.le_refl _) _).trans (hb.mono (by simp))

set_option maxHeartbeats 4000000 in
theorem mayBe_any (i : Int) (nm : ByteArray) (k : Int) (mu : Bool) (dk dn : Int) (dt : ByteArray) (w : World) (hn : nm.size ≤ maxLen) (ht : dt.size ≤ maxLen) (hw : NcB w) :
    Calls Tryz.prog 84 #[.agg #[.int .i64 i, .string nm, .int .i64 k, .bool mu, .int .i64 dk, .int .i64 dn, .string dt]] w fun e w' => e = .returned (.bool (mayB (i, nm, k, mu, dk, dn, dt))) ∧ Below w.heap.size w w' := by
  have HC : Hid (∀ o, Calls Tryz.prog 117 #[.string nm] (w.alloc o) fun e w' => e = .returned (.bool (colB nm)) ∧ Below (w.alloc o).heap.size (w.alloc o) w') := fun o => columnName_any nm _ hn (hw.below ((Below.refl _ _).alloc (Nat.le_refl _) _))
  have HF := mkH (fun W => fits_any i nm k mu dk dn dt dk dn dt W ht)
  have HR : Hid (mayB (i, nm, k, mu, dk, dn, dt) = ((k == 1 || k == 2) && (decide (1 ≤ i) && (colB nm && fitB k dk dn dt)))) := rfl
  generalize mayB (i, nm, k, mu, dk, dn, dt) = r at *
  generalize colB nm = b2 at *
  generalize fitB k dk dn dt = b3 at *
  clear hw hn ht
  by_cases h1 : k = 1 <;> by_cases h2 : k = 2 <;> by_cases h3 : 1 ≤ i <;> cases b2 <;> cases b3
  all_goals first | (exfalso; omega) | skip
  all_goals
    first | subst h1 | (have e1 : (k == 1) = false := by simpa using h1) | skip
    first | subst h2 | (have e2 : (k == 2) = false := by simpa using h2) | skip
  all_goals
    go_enter Tryz.func84, Tryz.ntmps84
    go_wp2_with (first
      | (go_at_call 117; refine (HC.out _).mono ?_; rintro e w1 ⟨rfl, hb1⟩; have hcl0 : ∀ o, w1.cell? ⟨w.heap.size, o, none⟩ = _ := fun o => hb1.cell (p := ⟨w.heap.size, o, none⟩) (by simp))
      | (go_at_call 86; refine (HF.out _).mono ?_; rintro e w2 ⟨rfl, hb2⟩))
    all_goals go_ret
    all_goals refine ⟨ret_bool (by rw [HR.out]; simp [*]), ?_⟩
    all_goals first
      | exact Below.ups (b1c hb1) hb2
      | exact b1c hb1
      | exact (Below.refl _ _).alloc (Nat.le_refl _) _
end Go.Proofs.YtlnkbhbpkmnkaaaGreatDoor.C
