/- What the statement's own ordered does: it returns true, in every world in which the library's table of powers of ten lies as it was laid. -/
import Derived.Test.YtmghdphafepifaaDoorW2
import Derived.Lib.AppendIntMem
namespace Go.Proofs.YtmghdphafepifaaDoor
open Go.RowKit Go.Proofs

def TabB (w : World) : Prop := Lib.TabIs Tryd.prog w "internal/strconv.uint64pow10" .u64 Lib.pow10Tab
theorem TabB.below {w W : World} (h : TabB w) (hb : Below w.heap.size w W) : TabB W := Lib.tabBelow_of_tabIs h W hb
theorem Below.up {a b c : World} (h : Below a.heap.size a b) (k : Below b.heap.size b c) : Below a.heap.size a c := h.trans (k.mono h.size)

theorem emptyCmp : cmpS ⟨#[]⟩ ⟨#[]⟩ = 0 := cmpS_self _
theorem c1_any (W : World) : Calls Tryd.prog 9 #[.agg #[.int .i64 0, .int .i64 0, .string ⟨#[]⟩], .agg #[.int .i64 1, .int .i64 (-5), .string ⟨#[]⟩]] W fun e w' => e = .returned (.int .i64 (-1)) ∧ Below W.heap.size W w' :=
  (compare_any 0 0 1 (-5) ⟨#[]⟩ ⟨#[]⟩ W).mono fun _ _ ⟨he, hb⟩ => ⟨he.trans (ret_int (by simp [cmpV, orI, cmpI])), hb⟩
theorem c2_any (W : World) : Calls Tryd.prog 9 #[.agg #[.int .i64 1, .int .i64 9, .string ⟨#[]⟩], .agg #[.int .i64 2, .int .i64 0, .string ⟨#[]⟩]] W fun e w' => e = .returned (.int .i64 (-1)) ∧ Below W.heap.size W w' :=
  (compare_any 1 9 2 0 ⟨#[]⟩ ⟨#[]⟩ W).mono fun _ _ ⟨he, hb⟩ => ⟨he.trans (ret_int (by simp [cmpV, orI, cmpI])), hb⟩
theorem c3_any (W : World) : Calls Tryd.prog 11 #[.int .i64 3, .agg #[.int .i64 1, .int .i64 1, .string ⟨#[]⟩], .agg #[.int .i64 1, .int .i64 2, .string ⟨#[]⟩]] W fun e w' => e = .returned (.int .i64 1) ∧ Below W.heap.size W w' :=
  (is_any 3 1 1 1 2 ⟨#[]⟩ ⟨#[]⟩ W).mono fun _ _ ⟨he, hb⟩ => ⟨he.trans (ret_int (by simp [isV, b2i, standsB, cmpV, orI, cmpI])), hb⟩
theorem c4_any (W : World) : Calls Tryd.prog 11 #[.int .i64 1, .agg #[.int .i64 1, .int .i64 1, .string ⟨#[]⟩], .agg #[.int .i64 0, .int .i64 0, .string ⟨#[]⟩]] W fun e w' => e = .returned (.int .i64 (-1)) ∧ Below W.heap.size W w' :=
  (is_any 1 1 1 0 0 ⟨#[]⟩ ⟨#[]⟩ W).mono fun _ _ ⟨he, hb⟩ => ⟨he.trans (ret_int (by simp [isV])), hb⟩
theorem itoa_m5 : Lib.itoa (-5) = [45, 53] := by rw [Lib.itoa, if_pos (by decide), Lib.decDigits_one (by decide)]; rfl
theorem c5_any (W : World) (h : TabB W) : Calls Tryd.prog 10 #[.agg #[.int .i64 1, .int .i64 (-5), .string ⟨#[]⟩]] W fun e w' => e = .returned (.string ⟨#[45, 53]⟩) ∧ Below W.heap.size W w' :=
  (print_any 1 (-5) ⟨#[]⟩ W (by decide) (by decide) (by decide) h).mono fun _ _ ⟨he, hb⟩ => ⟨he.trans (ret_str (by simp [printV, itoa_m5])), hb⟩

set_option maxHeartbeats 1000000 in
theorem ordered_any (w : World) (htab : TabB w) :
    Calls Tryd.prog 6 #[] w fun e w' => e = .returned (.bool true) ∧ Below w.heap.size w w' := by
  have HT := mkHid htab
  clear htab
  go_enter Tryd.func6, Tryd.ntmps6
  go_wp2_with fail
  refine (num_any _ _).mono ?_; rintro e w1 ⟨rfl, hb1⟩
  go_wp2_with fail
  refine (c1_any _).mono ?_; rintro e w2 ⟨rfl, hb2⟩
  have B2 := mkHid (Below.up hb1 hb2); clear hb1 hb2
  go_wp2_with fail
  refine (num_any _ _).mono ?_; rintro e w3 ⟨rfl, hb3⟩
  go_wp2_with fail
  refine (c2_any _).mono ?_; rintro e w4 ⟨rfl, hb4⟩
  have B4 := mkHid (Below.up B2.out (Below.up hb3 hb4)); clear hb3 hb4 B2
  go_wp2_with fail
  refine (num_any _ _).mono ?_; rintro e w5 ⟨rfl, hb5⟩
  have B5 := mkHid (Below.up B4.out hb5); clear hb5 B4
  go_wp2_with fail
  refine (c5_any _ (HT.out.below B5.out)).mono ?_; rintro e w6 ⟨rfl, hb6⟩
  have B6 := mkHid (Below.up B5.out hb6); clear hb6 B5
  go_wp2_with fail
  refine (num_any _ _).mono ?_; rintro e w7 ⟨rfl, hb7⟩
  go_wp2_with fail
  refine (num_any _ _).mono ?_; rintro e w8 ⟨rfl, hb8⟩
  go_wp2_with fail
  refine (c3_any _).mono ?_; rintro e w9 ⟨rfl, hb9⟩
  have B9 := mkHid (Below.up B6.out (Below.up hb7 (Below.up hb8 hb9))); clear hb7 hb8 hb9 B6
  go_wp2_with fail
  refine (num_any _ _).mono ?_; rintro e w10 ⟨rfl, hb10⟩
  go_wp2_with fail
  refine (c4_any _).mono ?_; rintro e w11 ⟨rfl, hb11⟩
  have B11 := mkHid (Below.up B9.out (Below.up hb10 hb11)); clear hb10 hb11 B9
  go_wp2
  go_ret
  exact ⟨rfl, B11.out⟩
end Go.Proofs.YtmghdphafepifaaDoor
