/- What the statement's own known does: it returns true, in every world in which the list of opposites lies as it was laid. -/
import Derived.Test.YtmghdphafepifaaDoorC4
import Derived.Test.YtmghdphafepifaaDoorL3
namespace Go.Proofs.YtmghdphafepifaaDoor
open Go.RowKit Go.Proofs
open Go.Sort (grow)

abbrev L3v : List V := [(1, 3, ⟨#[]⟩), (0, 0, ⟨#[]⟩), (1, 9, ⟨#[]⟩)]
theorem stL3 : stOf L3v = (3, 1, (1, 3, ⟨#[]⟩), (1, 9, ⟨#[]⟩)) := by
  have h1 : cmpW (1, 9, ⟨#[]⟩) (1, 3, ⟨#[]⟩) = 1 := by simp [cmpW, cmpV, orI, cmpI]
  have h2 : cmpW (1, 3, ⟨#[]⟩) (0, 0, ⟨#[]⟩) = 1 := by simp [cmpW, cmpV, orI, cmpI]
  have h3 : cmpW (0, 0, ⟨#[]⟩) (1, 3, ⟨#[]⟩) = -1 := by simp [cmpW, cmpV, orI, cmpI]
  simp [stOf, L3v, bothS, oneS, zeroS, zeroV, leastV, greatV, h1, h2, h3]
theorem sl3 (W : World) : Sl (W.alloc (.cells #[.int .i64 1, .int .i64 3, .string ⟨#[]⟩, .int .i64 0, .int .i64 0, .string ⟨#[]⟩, .int .i64 1, .int .i64 9, .string ⟨#[]⟩] 23)) (.slice (some ⟨W.heap.size, 0, none⟩) 3 3) L3v := by
  refine ⟨_, _, rfl, Nat.le_refl _, fun _ => ⟨W.heap.size, 0, rfl, by simp, fun j x hj => ?_⟩⟩
  match j, hj with
  | 0, hj => cases hj; refine ⟨?_, ?_, ?_⟩ <;> (rw [World.cell?_alloc_at _ _ _ _ rfl]; rfl)
  | 1, hj => cases hj; refine ⟨?_, ?_, ?_⟩ <;> (rw [World.cell?_alloc_at _ _ _ _ rfl]; rfl)
  | 2, hj => cases hj; refine ⟨?_, ?_, ?_⟩ <;> (rw [World.cell?_alloc_at _ _ _ _ rfl]; rfl)
  | j + 3, hj => simp [L3v] at hj
theorem of3_any (W : World) : Calls Tryd.prog 19 #[.slice (some ⟨W.heap.size, 0, none⟩) 3 3] (W.alloc (.cells #[.int .i64 1, .int .i64 3, .string ⟨#[]⟩, .int .i64 0, .int .i64 0, .string ⟨#[]⟩, .int .i64 1, .int .i64 9, .string ⟨#[]⟩] 23)) fun e w' => e = .returned (.agg #[.int .i64 3, .int .i64 1, .int .i64 1, .int .i64 3, .string ⟨#[]⟩, .int .i64 1, .int .i64 9, .string ⟨#[]⟩]) ∧ Below W.heap.size W w' :=
  (of_any _ L3v _ (sl3 W) (by decide)).mono fun e w' ⟨he, hb⟩ => ⟨by rw [he, stL3]; rfl, Below.up ((Below.refl _ _).alloc (Nat.le_refl _) _) hb⟩

/-- What May tells of a condition of a column alone, of what lies at a place. -/
theorem may_leaf (W : World) (g : Nat) (c k n : Int) (t col : ByteArray) (st : St) (hK : KAt W g st) (ho : OppB W) (hc : 1 ≤ c ∧ c ≤ 8) (r : Bool) (hr : mayCol c st (k, n, t) = r) :
    Calls Tryd.prog 20 #[.pointer (some ⟨W.heap.size, 0, none⟩), .func (.func 36) #[] #[.pointer (some ⟨g, 0, none⟩)]] (W.alloc (.cells #[.int .i64 c, .string col, .int .i64 k, .int .i64 n, .string t, .pointer none, .pointer none] 39)) fun e w' => e = .returned (.bool r) ∧ Below W.heap.size W w' := by
  have hb : Below W.heap.size W (W.alloc (.cells #[.int .i64 c, .string col, .int .i64 k, .int .i64 n, .string t, .pointer none, .pointer none] 39)) := (Below.refl _ _).alloc (Nat.le_refl _) _
  have hin : InC (W.alloc (.cells #[.int .i64 c, .string col, .int .i64 k, .int .i64 n, .string t, .pointer none, .pointer none] 39)) (.node 0 0 ⟨c, col, k, n, t⟩ .nil .nil) (.pointer (some ⟨W.heap.size, 0, none⟩)) := by
    unfold InC
    exact ⟨_, .pointer none, .pointer none, rfl, heap_alloc_new _ _, by omega, rfl, rfl⟩
  have hts : ToldS (.func (.func 36) #[] #[.pointer (some ⟨g, 0, none⟩)]) (fun _ => st) (W.alloc (.cells #[.int .i64 c, .string col, .int .i64 k, .int .i64 n, .string t, .pointer none, .pointer none] 39)) :=
    fun W' s hb' => toldS36_any _ (fun _ => st) s W' (fun W'' s' hb'' => get36_any g st s' W'' ((hK.up hb).up (Below.up hb' hb'')))
  refine (May_any _ (fun _ => st) _ _ _ hin hts (ho.below hb) (withinT_of_depth _ 24 (by simp [depthT]))).mono fun e w' ⟨he, hb'⟩ => ⟨?_, Below.up hb hb'⟩
  rw [he, ← m0f (by omega), hr]

theorem mc1 : mayCol 1 (3, 1, (1, 3, ⟨#[]⟩), (1, 9, ⟨#[]⟩)) (1, 5, ⟨#[]⟩) = true := by
  simp [mayCol, isB, isV, b2i, standsB, cmpV, orI, cmpI]
theorem mc5 : mayCol 5 (3, 1, (1, 3, ⟨#[]⟩), (1, 9, ⟨#[]⟩)) (1, 9, ⟨#[]⟩) = false := by
  simp [mayCol, isB, isV, b2i, standsB, cmpV, orI, cmpI, cmpS_self]

set_option maxHeartbeats 4000000 in
theorem known_any (w : World) (ho : OppB w) :
    Calls Tryd.prog 17 #[] w fun e w' => e = .returned (.bool true) ∧ Below w.heap.size w w' := by
  have HO := mkHid ho
  clear ho
  have hmf : ∀ (fn : Fn) (first cap : Array Value) (w : World), (Instr.makeFunc fn first cap).run Tryd.prog w = .ok (.func fn first cap) w := fun _ _ _ _ => rfl
  go_enter Tryd.func17, Tryd.ntmps17
  go_wp2_with fail
  refine (num_any _ _).mono ?_; rintro e w1 ⟨rfl, hb1⟩
  go_wp2_with fail
  refine (num_any _ _).mono ?_; rintro e w2 ⟨rfl, hb2⟩
  go_wp2_with fail
  refine (of3_any _).mono ?_; rintro e w3 ⟨rfl, hb3⟩
  have B3 := mkHid (Below.up (Below.up hb1 (Below.up hb2 hb3)) ((Below.refl _ w3).alloc (Nat.le_refl _) (.cells (cellsS (3, 1, (1, 3, ⟨#[]⟩), (1, 9, ⟨#[]⟩))) 45))); clear hb1 hb2 hb3
  go_wp2_with fail
  have K0 : KAt (w3.alloc (.cells (cellsS (3, 1, (1, 3, ⟨#[]⟩), (1, 9, ⟨#[]⟩))) 45)) w3.heap.size (3, 1, (1, 3, ⟨#[]⟩), (1, 9, ⟨#[]⟩)) := heap_alloc_new _ _
  unfold cellsS at K0 B3
  simp only at K0 B3
  generalize w3.alloc (.cells #[.int .i64 3, .int .i64 1, .int .i64 1, .int .i64 3, .string ⟨#[]⟩, .int .i64 1, .int .i64 9, .string ⟨#[]⟩] 45) = W0 at *
  generalize w3.heap.size = g at *
  obtain ⟨c0, c1, c2, c3, c4, c5, c6, c7⟩ := K0.cells
  replace c0 := cell_regrown c0; replace c1 := cell_regrown c1; replace c2 := cell_regrown c2; replace c3 := cell_regrown c3; replace c4 := cell_regrown c4; replace c5 := cell_regrown c5; replace c6 := cell_regrown c6; replace c7 := cell_regrown c7
  have HK := mkHid K0
  clear K0
  have HA : Hid (∀ n d os, Calls Tryd.prog 25 #[.int .i64 n] (grow (redrawn W0 d) os) fun e w'' => e = .returned (.agg #[.int .i64 1, .int .i64 n, .string ⟨#[]⟩]) ∧ ∃ p : Regrown, w'' = grow (redrawn W0 p.d) p.os) := fun n d os => Calls.regrown_of (num_any n _)
  have heq := eqS_same 3 1 1 3 ⟨#[]⟩ 1 9 ⟨#[]⟩
  refine wp_region_quiet_below (by kernel_rfl) (by kernel_rfl) ?_
  repeat (go_big_quiet_step (first
    | (go_at_call_of 25 (#[.int .i64 3] : Array Value); exact HA.out 3 _ _)
    | (go_at_call_of 25 (#[.int .i64 9] : Array Value); exact HA.out 9 _ _)))
  refine wpQuiet_nil ?_
  intro _ hw'
  obtain ⟨⟨dq, osq⟩, hw''⟩ := hw'
  subst hw''
  have B4 := mkHid (Below.up B3.out (below_regrown W0 dq osq))
  have HK4 := mkHid (HK.out.up (below_regrown W0 dq osq))
  clear HA heq c0 c1 c2 c3 c4 c5 c6 c7 B3 HK
  generalize grow (redrawn W0 dq) osq = W4 at *
  go_wp2_with fail
  refine (num_any _ _).mono ?_; rintro e w5 ⟨rfl, hb5⟩
  go_wp2_with fail
  have HK5 := mkHid (HK4.out.up hb5)
  have B5 := mkHid (Below.up B4.out hb5)
  refine (may_leaf w5 g 1 1 5 ⟨#[]⟩ ⟨#[97]⟩ _ HK5.out (HO.out.below B5.out) (by omega) true mc1).mono ?_; rintro e w6 ⟨rfl, hb6⟩
  go_wp2_with fail
  refine (num_any _ _).mono ?_; rintro e w7 ⟨rfl, hb7⟩
  go_wp2_with fail
  have HK7 := mkHid ((HK5.out.up hb6).up hb7)
  have B7 := mkHid (Below.up (Below.up B5.out hb6) hb7)
  refine (may_leaf w7 g 5 1 9 ⟨#[]⟩ ⟨#[97]⟩ _ HK7.out (HO.out.below B7.out) (by omega) false mc5).mono ?_; rintro e w8 ⟨rfl, hb8⟩
  go_wp2
  go_ret
  exact ⟨rfl, Below.up B7.out hb8⟩
end Go.Proofs.YtmghdphafepifaaDoor
