/- What millpondkeep.SchemaNumbers does at a list of changes that is empty, and at one that is too long. -/
import Derived.Test.YtjghcilcmmlobaaDoorN2
namespace Go.Proofs.YtjghcilcmmlobaaDoor
open Go.RowKit Go.Proofs Go.Lib Go.Joins Go.Maps

set_option maxHeartbeats 8000000 in
set_option maxRecDepth 100000 in
theorem numbers_long (a0 : Option Addr) (L cap : Nat) (w : World) (hL : 30 < L) :
    Calls Tryd.prog 6 #[.slice a0 L cap] w fun e w' => e = .returned (.bool true) ∧ Below w.heap.size w w' := by
  have hL30 : (30 : Int) < (L : Int) := by omega
  clear hL
  go_enter Tryd.func6, Tryd.ntmps6
  go_wp2
  go_ret
  exact ⟨rfl, Below.refl _ _⟩

set_option maxHeartbeats 8000000 in
set_option maxRecDepth 100000 in
theorem numbers_zero (a0 : Option Addr) (cap : Nat) (w : World) (hN : NcB w) (hE : EtB w) :
    Calls Tryd.prog 6 #[.slice a0 0 cap] w fun e w' => e = .returned (.bool true) ∧ Below w.heap.size w w' := by
  have hmm := @run_makeMap Tryd.prog
  have HSh := mkH (shaped_any w hN hE)
  clear hN hE
  go_enter Tryd.func6, Tryd.ntmps6
  go_wp2_with (first
    | (go_at_call 26; refine HSh.out.mono ?_; rintro e w1 ⟨rfl, hb1⟩)
    | (refine wpList_first rfl _ rfl (w1.heap.size + 1) rfl (map_made w1 _) ?_; intro w2 hown2 hg2)
    | go_in)
  have HS0 : Hid (St w w2 (w1.heap.size + 1) w1.heap.size 1 0 [cF] 2) := st_start hb1 hown2 hg2
  clear hb1 hown2 hg2
  refine wp_loop_rounds 1 ?_
  rw [rounds_succ]
  go_wp2
  go_ret
  exact ⟨rfl, HS0.out.1⟩
end Go.Proofs.YtjghcilcmmlobaaDoor
