/- What ask.mayName does, said of every call. -/
import Derived.Test.YtfokdpddcgaafaaGreatDoorAB
namespace Go.Proofs.YtfokdpddcgaafaaGreatDoor
open Go.RowKit Go.Proofs Go.Lib Go.Proofs.YtfokdpddcgaafaaGreatDoor.Ask

/-- The words that are no names, as the project's text lays them. -/
structure NnB (w : World) : Prop where
  c0 : w.cell? ⟨5, 0, none⟩ = some (.string ⟨#[97, 110, 100]⟩)
  c1 : w.cell? ⟨5, 1, none⟩ = some (.string ⟨#[105, 115]⟩)
  c2 : w.cell? ⟨5, 2, none⟩ = some (.string ⟨#[110, 111, 116]⟩)
  c3 : w.cell? ⟨5, 3, none⟩ = some (.string ⟨#[110, 117, 108, 108]⟩)
  c4 : w.cell? ⟨5, 4, none⟩ = some (.string ⟨#[111, 114]⟩)
  c5 : w.cell? ⟨5, 5, none⟩ = some (.string ⟨#[98, 121]⟩)
  c6 : w.cell? ⟨5, 6, none⟩ = some (.string ⟨#[100, 101, 115, 99]⟩)
  c7 : w.cell? ⟨5, 7, none⟩ = some (.string ⟨#[108, 105, 109, 105, 116]⟩)
  c8 : w.cell? ⟨5, 8, none⟩ = some (.string ⟨#[111, 114, 100, 101, 114]⟩)
  c9 : w.cell? ⟨5, 9, none⟩ = some (.string ⟨#[115, 101, 108, 101, 99, 116]⟩)
  c10 : w.cell? ⟨5, 10, none⟩ = some (.string ⟨#[119, 104, 101, 114, 101]⟩)
theorem NnB.lt {w : World} (h : NnB w) : 5 < w.heap.size := Lib.lt_of_cell h.c0
theorem NnB.below {w W : World} (h : NnB w) (hb : Below w.heap.size w W) : NnB W where
  c0 := (hb.cell (p := ⟨5, 0, none⟩) h.lt).trans h.c0
  c1 := (hb.cell (p := ⟨5, 1, none⟩) h.lt).trans h.c1
  c2 := (hb.cell (p := ⟨5, 2, none⟩) h.lt).trans h.c2
  c3 := (hb.cell (p := ⟨5, 3, none⟩) h.lt).trans h.c3
  c4 := (hb.cell (p := ⟨5, 4, none⟩) h.lt).trans h.c4
  c5 := (hb.cell (p := ⟨5, 5, none⟩) h.lt).trans h.c5
  c6 := (hb.cell (p := ⟨5, 6, none⟩) h.lt).trans h.c6
  c7 := (hb.cell (p := ⟨5, 7, none⟩) h.lt).trans h.c7
  c8 := (hb.cell (p := ⟨5, 8, none⟩) h.lt).trans h.c8
  c9 := (hb.cell (p := ⟨5, 9, none⟩) h.lt).trans h.c9
  c10 := (hb.cell (p := ⟨5, 10, none⟩) h.lt).trans h.c10
def isW (s : ByteArray) (l : List UInt8) : Bool := s.toList == l
def mayN (s : ByteArray) : Bool := !(isW s [97, 110, 100] || (isW s [105, 115] || (isW s [110, 111, 116] || (isW s [110, 117, 108, 108] || (isW s [111, 114] || (isW s [98, 121] || (isW s [100, 101, 115, 99] || (isW s [108, 105, 109, 105, 116] || (isW s [111, 114, 100, 101, 114] || (isW s [115, 101, 108, 101, 99, 116] || (isW s [119, 104, 101, 114, 101])))))))))))
theorem nix0 (w : World) : (Instr.index 130 (.agg #[.string ⟨#[97, 110, 100]⟩, .string ⟨#[105, 115]⟩, .string ⟨#[110, 111, 116]⟩, .string ⟨#[110, 117, 108, 108]⟩, .string ⟨#[111, 114]⟩, .string ⟨#[98, 121]⟩, .string ⟨#[100, 101, 115, 99]⟩, .string ⟨#[108, 105, 109, 105, 116]⟩, .string ⟨#[111, 114, 100, 101, 114]⟩, .string ⟨#[115, 101, 108, 101, 99, 116]⟩, .string ⟨#[119, 104, 101, 114, 101]⟩]) (.int .i64 0)).run Tryz.prog w = .ok (.string ⟨#[97, 110, 100]⟩) w := by kernel_rfl
theorem nix1 (w : World) : (Instr.index 130 (.agg #[.string ⟨#[97, 110, 100]⟩, .string ⟨#[105, 115]⟩, .string ⟨#[110, 111, 116]⟩, .string ⟨#[110, 117, 108, 108]⟩, .string ⟨#[111, 114]⟩, .string ⟨#[98, 121]⟩, .string ⟨#[100, 101, 115, 99]⟩, .string ⟨#[108, 105, 109, 105, 116]⟩, .string ⟨#[111, 114, 100, 101, 114]⟩, .string ⟨#[115, 101, 108, 101, 99, 116]⟩, .string ⟨#[119, 104, 101, 114, 101]⟩]) (.int .i64 1)).run Tryz.prog w = .ok (.string ⟨#[105, 115]⟩) w := by kernel_rfl
theorem nix2 (w : World) : (Instr.index 130 (.agg #[.string ⟨#[97, 110, 100]⟩, .string ⟨#[105, 115]⟩, .string ⟨#[110, 111, 116]⟩, .string ⟨#[110, 117, 108, 108]⟩, .string ⟨#[111, 114]⟩, .string ⟨#[98, 121]⟩, .string ⟨#[100, 101, 115, 99]⟩, .string ⟨#[108, 105, 109, 105, 116]⟩, .string ⟨#[111, 114, 100, 101, 114]⟩, .string ⟨#[115, 101, 108, 101, 99, 116]⟩, .string ⟨#[119, 104, 101, 114, 101]⟩]) (.int .i64 2)).run Tryz.prog w = .ok (.string ⟨#[110, 111, 116]⟩) w := by kernel_rfl
theorem nix3 (w : World) : (Instr.index 130 (.agg #[.string ⟨#[97, 110, 100]⟩, .string ⟨#[105, 115]⟩, .string ⟨#[110, 111, 116]⟩, .string ⟨#[110, 117, 108, 108]⟩, .string ⟨#[111, 114]⟩, .string ⟨#[98, 121]⟩, .string ⟨#[100, 101, 115, 99]⟩, .string ⟨#[108, 105, 109, 105, 116]⟩, .string ⟨#[111, 114, 100, 101, 114]⟩, .string ⟨#[115, 101, 108, 101, 99, 116]⟩, .string ⟨#[119, 104, 101, 114, 101]⟩]) (.int .i64 3)).run Tryz.prog w = .ok (.string ⟨#[110, 117, 108, 108]⟩) w := by kernel_rfl
theorem nix4 (w : World) : (Instr.index 130 (.agg #[.string ⟨#[97, 110, 100]⟩, .string ⟨#[105, 115]⟩, .string ⟨#[110, 111, 116]⟩, .string ⟨#[110, 117, 108, 108]⟩, .string ⟨#[111, 114]⟩, .string ⟨#[98, 121]⟩, .string ⟨#[100, 101, 115, 99]⟩, .string ⟨#[108, 105, 109, 105, 116]⟩, .string ⟨#[111, 114, 100, 101, 114]⟩, .string ⟨#[115, 101, 108, 101, 99, 116]⟩, .string ⟨#[119, 104, 101, 114, 101]⟩]) (.int .i64 4)).run Tryz.prog w = .ok (.string ⟨#[111, 114]⟩) w := by kernel_rfl
theorem nix5 (w : World) : (Instr.index 130 (.agg #[.string ⟨#[97, 110, 100]⟩, .string ⟨#[105, 115]⟩, .string ⟨#[110, 111, 116]⟩, .string ⟨#[110, 117, 108, 108]⟩, .string ⟨#[111, 114]⟩, .string ⟨#[98, 121]⟩, .string ⟨#[100, 101, 115, 99]⟩, .string ⟨#[108, 105, 109, 105, 116]⟩, .string ⟨#[111, 114, 100, 101, 114]⟩, .string ⟨#[115, 101, 108, 101, 99, 116]⟩, .string ⟨#[119, 104, 101, 114, 101]⟩]) (.int .i64 5)).run Tryz.prog w = .ok (.string ⟨#[98, 121]⟩) w := by kernel_rfl
theorem nix6 (w : World) : (Instr.index 130 (.agg #[.string ⟨#[97, 110, 100]⟩, .string ⟨#[105, 115]⟩, .string ⟨#[110, 111, 116]⟩, .string ⟨#[110, 117, 108, 108]⟩, .string ⟨#[111, 114]⟩, .string ⟨#[98, 121]⟩, .string ⟨#[100, 101, 115, 99]⟩, .string ⟨#[108, 105, 109, 105, 116]⟩, .string ⟨#[111, 114, 100, 101, 114]⟩, .string ⟨#[115, 101, 108, 101, 99, 116]⟩, .string ⟨#[119, 104, 101, 114, 101]⟩]) (.int .i64 6)).run Tryz.prog w = .ok (.string ⟨#[100, 101, 115, 99]⟩) w := by kernel_rfl
theorem nix7 (w : World) : (Instr.index 130 (.agg #[.string ⟨#[97, 110, 100]⟩, .string ⟨#[105, 115]⟩, .string ⟨#[110, 111, 116]⟩, .string ⟨#[110, 117, 108, 108]⟩, .string ⟨#[111, 114]⟩, .string ⟨#[98, 121]⟩, .string ⟨#[100, 101, 115, 99]⟩, .string ⟨#[108, 105, 109, 105, 116]⟩, .string ⟨#[111, 114, 100, 101, 114]⟩, .string ⟨#[115, 101, 108, 101, 99, 116]⟩, .string ⟨#[119, 104, 101, 114, 101]⟩]) (.int .i64 7)).run Tryz.prog w = .ok (.string ⟨#[108, 105, 109, 105, 116]⟩) w := by kernel_rfl
theorem nix8 (w : World) : (Instr.index 130 (.agg #[.string ⟨#[97, 110, 100]⟩, .string ⟨#[105, 115]⟩, .string ⟨#[110, 111, 116]⟩, .string ⟨#[110, 117, 108, 108]⟩, .string ⟨#[111, 114]⟩, .string ⟨#[98, 121]⟩, .string ⟨#[100, 101, 115, 99]⟩, .string ⟨#[108, 105, 109, 105, 116]⟩, .string ⟨#[111, 114, 100, 101, 114]⟩, .string ⟨#[115, 101, 108, 101, 99, 116]⟩, .string ⟨#[119, 104, 101, 114, 101]⟩]) (.int .i64 8)).run Tryz.prog w = .ok (.string ⟨#[111, 114, 100, 101, 114]⟩) w := by kernel_rfl
theorem nix9 (w : World) : (Instr.index 130 (.agg #[.string ⟨#[97, 110, 100]⟩, .string ⟨#[105, 115]⟩, .string ⟨#[110, 111, 116]⟩, .string ⟨#[110, 117, 108, 108]⟩, .string ⟨#[111, 114]⟩, .string ⟨#[98, 121]⟩, .string ⟨#[100, 101, 115, 99]⟩, .string ⟨#[108, 105, 109, 105, 116]⟩, .string ⟨#[111, 114, 100, 101, 114]⟩, .string ⟨#[115, 101, 108, 101, 99, 116]⟩, .string ⟨#[119, 104, 101, 114, 101]⟩]) (.int .i64 9)).run Tryz.prog w = .ok (.string ⟨#[115, 101, 108, 101, 99, 116]⟩) w := by kernel_rfl
theorem nix10 (w : World) : (Instr.index 130 (.agg #[.string ⟨#[97, 110, 100]⟩, .string ⟨#[105, 115]⟩, .string ⟨#[110, 111, 116]⟩, .string ⟨#[110, 117, 108, 108]⟩, .string ⟨#[111, 114]⟩, .string ⟨#[98, 121]⟩, .string ⟨#[100, 101, 115, 99]⟩, .string ⟨#[108, 105, 109, 105, 116]⟩, .string ⟨#[111, 114, 100, 101, 114]⟩, .string ⟨#[115, 101, 108, 101, 99, 116]⟩, .string ⟨#[119, 104, 101, 114, 101]⟩]) (.int .i64 10)).run Tryz.prog w = .ok (.string ⟨#[119, 104, 101, 114, 101]⟩) w := by kernel_rfl
set_option maxHeartbeats 8000000 in
theorem mayName_any (s : ByteArray) (w : World) (hw : NnB w) :
    Calls Tryz.prog 98 #[.string s] w fun e w' => e = .returned (.bool (mayN s)) ∧ w' = w := by
  have c0 := hw.c0
  have c1 := hw.c1
  have c2 := hw.c2
  have c3 := hw.c3
  have c4 := hw.c4
  have c5 := hw.c5
  have c6 := hw.c6
  have c7 := hw.c7
  have c8 := hw.c8
  have c9 := hw.c9
  have c10 := hw.c10
  have i0 := nix0
  have i1 := nix1
  have i2 := nix2
  have i3 := nix3
  have i4 := nix4
  have i5 := nix5
  have i6 := nix6
  have i7 := nix7
  have i8 := nix8
  have i9 := nix9
  have i10 := nix10
  clear hw
  go_enter Tryz.func98, Tryz.ntmps98
  go_wp2
  refine wp_loop_rounds 12 ?_
  rw [rounds_succ]
  go_wp2
  · have h : isW s [97, 110, 100] = true := by assumption
    go_ret
    exact ⟨ret_bool (by simp [mayN, h]), rfl⟩
  rw [rounds_succ]
  go_wp2
  · have h : isW s [105, 115] = true := by assumption
    go_ret
    exact ⟨ret_bool (by simp [mayN, h]), rfl⟩
  rw [rounds_succ]
  go_wp2
  · have h : isW s [110, 111, 116] = true := by assumption
    go_ret
    exact ⟨ret_bool (by simp [mayN, h]), rfl⟩
  rw [rounds_succ]
  go_wp2
  · have h : isW s [110, 117, 108, 108] = true := by assumption
    go_ret
    exact ⟨ret_bool (by simp [mayN, h]), rfl⟩
  rw [rounds_succ]
  go_wp2
  · have h : isW s [111, 114] = true := by assumption
    go_ret
    exact ⟨ret_bool (by simp [mayN, h]), rfl⟩
  rw [rounds_succ]
  go_wp2
  · have h : isW s [98, 121] = true := by assumption
    go_ret
    exact ⟨ret_bool (by simp [mayN, h]), rfl⟩
  rw [rounds_succ]
  go_wp2
  · have h : isW s [100, 101, 115, 99] = true := by assumption
    go_ret
    exact ⟨ret_bool (by simp [mayN, h]), rfl⟩
  rw [rounds_succ]
  go_wp2
  · have h : isW s [108, 105, 109, 105, 116] = true := by assumption
    go_ret
    exact ⟨ret_bool (by simp [mayN, h]), rfl⟩
  rw [rounds_succ]
  go_wp2
  · have h : isW s [111, 114, 100, 101, 114] = true := by assumption
    go_ret
    exact ⟨ret_bool (by simp [mayN, h]), rfl⟩
  rw [rounds_succ]
  go_wp2
  · have h : isW s [115, 101, 108, 101, 99, 116] = true := by assumption
    go_ret
    exact ⟨ret_bool (by simp [mayN, h]), rfl⟩
  rw [rounds_succ]
  go_wp2
  · have h : isW s [119, 104, 101, 114, 101] = true := by assumption
    go_ret
    exact ⟨ret_bool (by simp [mayN, h]), rfl⟩
  rw [rounds_succ]
  go_wp2
  have e0 : isW s [97, 110, 100] = false := by first | assumption | (apply Bool.eq_false_iff.2; assumption)
  have e1 : isW s [105, 115] = false := by first | assumption | (apply Bool.eq_false_iff.2; assumption)
  have e2 : isW s [110, 111, 116] = false := by first | assumption | (apply Bool.eq_false_iff.2; assumption)
  have e3 : isW s [110, 117, 108, 108] = false := by first | assumption | (apply Bool.eq_false_iff.2; assumption)
  have e4 : isW s [111, 114] = false := by first | assumption | (apply Bool.eq_false_iff.2; assumption)
  have e5 : isW s [98, 121] = false := by first | assumption | (apply Bool.eq_false_iff.2; assumption)
  have e6 : isW s [100, 101, 115, 99] = false := by first | assumption | (apply Bool.eq_false_iff.2; assumption)
  have e7 : isW s [108, 105, 109, 105, 116] = false := by first | assumption | (apply Bool.eq_false_iff.2; assumption)
  have e8 : isW s [111, 114, 100, 101, 114] = false := by first | assumption | (apply Bool.eq_false_iff.2; assumption)
  have e9 : isW s [115, 101, 108, 101, 99, 116] = false := by first | assumption | (apply Bool.eq_false_iff.2; assumption)
  have e10 : isW s [119, 104, 101, 114, 101] = false := by first | assumption | (apply Bool.eq_false_iff.2; assumption)
  go_ret
  exact ⟨ret_bool (by simp [mayN, e0, e1, e2, e3, e4, e5, e6, e7, e8, e9, e10]), rfl⟩
end Go.Proofs.YtfokdpddcgaafaaGreatDoor
