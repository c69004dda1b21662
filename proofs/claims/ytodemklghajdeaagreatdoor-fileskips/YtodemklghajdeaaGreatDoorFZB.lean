/- millpondkeep.same at rows that are the same, pick, num; said of every call. -/
import Derived.Test.YtodemklghajdeaaGreatDoorFZ4
namespace Go.Proofs.YtodemklghajdeaaGreatDoor
open Go.RowKit Go.Proofs Go.Shelf Go.Joins

set_option maxHeartbeats 4000000 in
theorem same1_any (v1 v2 : Value) (r : List V) (w : World) (h1 : E.Sl w v1 r) (h2 : E.Sl w v2 r) (hr : r.length ≤ 1000) :
    Calls Tryz.prog 44 #[v1, v2] w fun e w' => e = .returned (.bool true) ∧ Below w.heap.size w w' := by
  have HE := mkH (E.equal_any v1 v2 r r w h1 h2 hr hr)
  rw [decide_eq_true rfl] at HE
  clear h1 h2
  go_enter Tryz.func44, Tryz.ntmps44
  go_wp2_with fail
  refine HE.out.mono ?_
  rintro e w1 ⟨rfl, hb⟩
  go_wp2
  go_ret
  exact ⟨rfl, hb⟩
set_option maxHeartbeats 4000000 in
set_option maxRecDepth 100000 in
theorem equalR_any (v1 v2 : Value) (l : List (List V)) (w : World) (h1 : SlR w v1 l) (h2 : SlR w v2 l) (hl : l.length ≤ 1000) (hr : ∀ r ∈ l, r.length ≤ 1000) :
    Calls Tryz.prog 43 #[v1, v2, .func (.func 44) #[] #[]] w fun e w' => e = .returned (.bool true) ∧ Below w.heap.size w w' := by
  have H1 := mkH h1
  have H2 := mkH h2
  have HR := mkH hr
  obtain ⟨a1, c1, rfl, _⟩ := h1.slice
  obtain ⟨a2, c2, rfl, _⟩ := h2.slice
  clear h1 h2 hr
  go_enter Tryz.func43, Tryz.ntmps43
  go_wp2
  go_loopw [17] (fun vi wr => ∃ k : Nat, k ≤ l.length ∧ vi = .int .i64 k ∧ Hid (Below w.heap.size w wr)) (fun vi _ => l.length - (intOf vi).toNat)
  case atStart => exact ⟨0, Nat.zero_le _, rfl, mkH (Below.refl _ _)⟩
  case round =>
    obtain ⟨k, hk, rfl, hbR⟩ := hrel
    by_cases hlt : k < l.length
    · obtain ⟨r, hr⟩ : ∃ r, l[k]? = some r := ⟨_, List.getElem?_eq_getElem hlt⟩
      obtain ⟨b1, o1, d1, x1, e1, _, p1, s1⟩ := (H1.out.up hbR.out).at hr
      obtain ⟨b2, o2, d2, x2, e2, _, p2, s2⟩ := (H2.out.up hbR.out).at hr
      injection e1 with e11 _ e13
      injection e2 with e21 _ e23
      subst e11 e13 e21 e23
      have HSM := mkH (same1_any x1 x2 r wr s1 s2 (HR.out r (List.mem_of_getElem? hr)))
      obtain ⟨xa, xc, rfl, _⟩ := id s1
      obtain ⟨ya, yc, rfl, _⟩ := id s2
      have hkn : (k : Int) < (l.length : Int) := by omega
      clear hr s1 s2
      go_wp2_with fail
      refine HSM.out.mono ?_
      rintro e w1 ⟨rfl, hb1⟩
      have hbf := ups hbR.out hb1
      go_wp2
      exact ⟨⟨k + 1, by omega, by go_num, mkH hbf⟩, by simp [intOf]; omega⟩
    · have hkn : ¬ (k : Int) < (l.length : Int) := by omega
      go_wp2
      go_ret
      exact ⟨rfl, hbR.out⟩
set_option maxHeartbeats 4000000 in
theorem keepSame_any (v1 v2 : Value) (l : List (List V)) (w : World) (h1 : SlR w v1 l) (h2 : SlR w v2 l) (hl : l.length ≤ 1000) (hr : ∀ r ∈ l, r.length ≤ 1000) :
    Calls Tryz.prog 14 #[v1, v2] w fun e w' => e = .returned (.bool true) ∧ Below w.heap.size w w' := by
  have HE := mkH (equalR_any v1 v2 l w h1 h2 hl hr)
  clear h1 h2 hr hl
  go_enter Tryz.func14, Tryz.ntmps14
  go_wp2_with fail
  refine HE.out.mono ?_
  rintro e w1 ⟨rfl, hb⟩
  go_wp2
  go_ret
  exact ⟨rfl, hb⟩
theorem num_any (n : Int) (w : World) :
    Calls Tryz.prog 30 #[.int .i64 n] w fun e w' => e = .returned (.agg #[.int .i64 1, .int .i64 n, .string ⟨#[]⟩]) ∧ Below w.heap.size w w' := by
  go_enter Tryz.func30, Tryz.ntmps30
  go_wp2
  exact bodyPost_ret (v := .agg #[.int .i64 1, .int .i64 n, .string ⟨#[]⟩]) (by simp [results, Tryz.results30, go_sem]) rfl ⟨rfl, (Below.refl _ _).alloc (Nat.le_refl _) _⟩
set_option maxHeartbeats 1000000 in
theorem pick_any (a : Int) (n : Nat) (hn : 0 < n) (hn2 : n ≤ 1000000) (w : World) :
    Calls Tryz.prog 15 #[.int .i64 a, .int .i64 n] w fun e w' => ∃ r : Nat, r < n ∧ e = .returned (.int .i64 r) ∧ w' = w := by
  have hw : (0 : Int) ≤ IntKind.u64.wrap a ∧ IntKind.u64.wrap a < 18446744073709551616 := by rw [IntKind.wrap_u64]; omega
  have hz : ((n : Int) == 0) = false := by simp; omega
  have hnz : ¬ (n : Int) = 0 := by omega
  go_enter Tryz.func15, Tryz.ntmps15
  go_wp2
  go_ret
  have hm0 : 0 ≤ IntKind.u64.wrap a % (n : Int) := Int.emod_nonneg _ hnz
  have hm1 : IntKind.u64.wrap a % (n : Int) < (n : Int) := Int.emod_lt_of_pos _ (by omega)
  refine ⟨(IntKind.u64.wrap a % (n : Int)).toNat, by omega, E.ret_int ?_, rfl⟩
  rw [E.wr_eq, E.wr64_id (by omega) (by omega)]; omega
end Go.Proofs.YtodemklghajdeaaGreatDoor
