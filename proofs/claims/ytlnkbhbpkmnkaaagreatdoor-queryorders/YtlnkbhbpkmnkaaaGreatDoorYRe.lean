/- What query.comes and ofItem do, said of every call. -/
import Derived.Test.YtlnkbhbpkmnkaaaGreatDoorYRd
namespace Go.Proofs.YtlnkbhbpkmnkaaaGreatDoor.F
open Go.RowKit Go.Proofs Go.Shelf Go.Joins

set_option maxHeartbeats 4000000 in
set_option maxRecDepth 100000 in
theorem comes_any (f : Fn) (hf : f ≠ .no) (v : Value) (l : List V) (w : World) (h : E.Sl w v l) (hl : l.length ≤ 900) :
    Calls Tryz.prog 149 #[.string (fnB f), v] w fun e w' => e = .returned (vOf (comesV f l)) ∧ Below w.heap.size w w' := by
  have hb0 : ∀ o, Below w.heap.size w (w.alloc o) := fun o => (Below.refl _ _).alloc (Nat.le_refl _) _
  have HB0 := mkH hb0
  have HO := mkH (fun o => S.of_any v l (w.alloc o) (h.up (hb0 o)) hl)
  have HC := S.stOf_take_cnt l l.length (Nat.le_refl _)
  rw [List.take_length] at HC
  have HS := mkH (fun W (hb : Below w.heap.size w W) => sum_any v l W (h.up hb) (by omega))
  have HN := mkH number_any
  have HX : Hid (∀ s, S.stOf l = s → comesV f l = match f with
    | .no => zW
    | .count => numV (s.1 - s.2.1)
    | .max => s.2.2.2
    | .min => s.2.2.1
    | .sum => if 0 < s.1 - s.2.1 then numV (sumF l) else zW) := mkH (fun s hs => by subst hs; cases f <;> rfl)
  obtain ⟨s, hs⟩ : ∃ s, S.stOf l = s := ⟨_, rfl⟩
  have HX1 := mkH (HX.out s hs)
  rw [hs] at HO HC
  clear hs HX hb0
  obtain ⟨c1, m1, ⟨k1, n1, t1⟩, ⟨p1, q1, u1⟩⟩ := s
  simp only at HC HX1
  unfold S.cellsS at HO
  have hw : wrap64 (c1 - m1) = c1 - m1 := by unfold wrap64; omega
  obtain ⟨d, hd⟩ : ∃ d, d = c1 - m1 := ⟨_, rfl⟩
  replace hw : wrap64 (c1 - m1) = d := by rw [hd]; exact hw
  have hw2 : wrap64 d = d := by unfold wrap64; omega
  rw [← hd] at HX1
  obtain ⟨a, c, rfl, _⟩ := h
  generalize comesV f l = y at *
  clear HC
  cases f with
  | no => exact absurd rfl hf
  | count =>
    simp only at HX1
    rw [HX1.out]
    unfold vOf numV fnB
    go_enter Tryz.func149, Tryz.ntmps149
    go_wp2_with fail
    with_reducible refine (HO.out _).mono ?_
    rintro e w1 ⟨rfl, hb1⟩
    have HZ1 : Hid (VAt w1 w.heap.size zW) := mkH (VAt.up (heap_alloc_new _ _) hb1)
    have HB1 := mkH (ups (HB0.out _) hb1)
    clear hb1 HO
    go_upto_region 2 with fail
    have hk : S.KAt (w1.alloc (.cells #[.int .i64 c1, .int .i64 m1, .int .i64 k1, .int .i64 n1, .string t1, .int .i64 p1, .int .i64 q1, .string u1] 38)) w1.heap.size (c1, m1, (k1, n1, t1), (p1, q1, u1)) := heap_alloc_new _ _
    have HBA : Hid (Below w.heap.size w (w1.alloc (.cells #[.int .i64 c1, .int .i64 m1, .int .i64 k1, .int .i64 n1, .string t1, .int .i64 p1, .int .i64 q1, .string u1] 38))) := mkH (ups HB1.out ((Below.refl _ _).alloc (Nat.le_refl _) _))
    have HZA : Hid (VAt (w1.alloc (.cells #[.int .i64 c1, .int .i64 m1, .int .i64 k1, .int .i64 n1, .string t1, .int .i64 p1, .int .i64 q1, .string u1] 38)) w.heap.size zW) := mkH (HZ1.out.up ((Below.refl _ _).alloc (Nat.le_refl _) _))
    have hz1 := HZ1.out.lt
    have hne : ¬ w.heap.size = w1.heap.size := by omega
    have hne2 : ¬ w1.heap.size = w.heap.size := by omega
    clear HB1 HZ1 hz1
    generalize w1.alloc (.cells #[.int .i64 c1, .int .i64 m1, .int .i64 k1, .int .i64 n1, .string t1, .int .i64 p1, .int .i64 q1, .string u1] 38) = wb at *
    generalize w1.heap.size = gk at *
    obtain ⟨k0, k1', k2, k3, k4, k5, k6, k7⟩ := hk.cells
    clear hk
    go_wp2_with fail
    with_reducible refine (HN.out _ _).mono ?_
    rintro e w2 ⟨rfl, hb2⟩
    have HB2 := mkH (ups HBA.out hb2)
    have hz2 := VAt.up HZA.out hb2
    clear hb2 HBA HZA
    obtain ⟨d0, d1, d2⟩ := hz2.cells
    obtain ⟨f0, f1, f2⟩ := hz2.free
    go_wp2
    refine bodyPost_ret (v := .agg #[.int .i64 1, .int .i64 d, .string ⟨#[]⟩]) ?_ rfl ?_
    · simp [results, Tryz.results149, go_sem, d0, d1, d2]
      exact hd.symm
    · exact ⟨rfl, ((HB2.out.setCell (Nat.le_refl _) _).setCell (Nat.le_refl _) _).setCell (Nat.le_refl _) _⟩
  | max =>
    simp only at HX1
    rw [HX1.out]
    unfold vOf fnB
    go_enter Tryz.func149, Tryz.ntmps149
    go_wp2_with fail
    with_reducible refine (HO.out _).mono ?_
    rintro e w1 ⟨rfl, hb1⟩
    have HZ1 : Hid (VAt w1 w.heap.size zW) := mkH (VAt.up (heap_alloc_new _ _) hb1)
    have HB1 := mkH (ups (HB0.out _) hb1)
    clear hb1 HO
    go_upto_region 2 with fail
    have hk : S.KAt (w1.alloc (.cells #[.int .i64 c1, .int .i64 m1, .int .i64 k1, .int .i64 n1, .string t1, .int .i64 p1, .int .i64 q1, .string u1] 38)) w1.heap.size (c1, m1, (k1, n1, t1), (p1, q1, u1)) := heap_alloc_new _ _
    have HBA : Hid (Below w.heap.size w (w1.alloc (.cells #[.int .i64 c1, .int .i64 m1, .int .i64 k1, .int .i64 n1, .string t1, .int .i64 p1, .int .i64 q1, .string u1] 38))) := mkH (ups HB1.out ((Below.refl _ _).alloc (Nat.le_refl _) _))
    have HZA : Hid (VAt (w1.alloc (.cells #[.int .i64 c1, .int .i64 m1, .int .i64 k1, .int .i64 n1, .string t1, .int .i64 p1, .int .i64 q1, .string u1] 38)) w.heap.size zW) := mkH (HZ1.out.up ((Below.refl _ _).alloc (Nat.le_refl _) _))
    have hz1 := HZ1.out.lt
    have hne : ¬ w.heap.size = w1.heap.size := by omega
    have hne2 : ¬ w1.heap.size = w.heap.size := by omega
    clear HB1 HZ1 hz1
    generalize w1.alloc (.cells #[.int .i64 c1, .int .i64 m1, .int .i64 k1, .int .i64 n1, .string t1, .int .i64 p1, .int .i64 q1, .string u1] 38) = wb at *
    generalize w1.heap.size = gk at *
    obtain ⟨k0, k1', k2, k3, k4, k5, k6, k7⟩ := hk.cells
    clear hk
    obtain ⟨d0, d1, d2⟩ := HZA.out.cells
    obtain ⟨f0, f1, f2⟩ := HZA.out.free
    go_wp2
    refine bodyPost_ret (v := .agg #[.int .i64 p1, .int .i64 q1, .string u1]) ?_ rfl ?_
    · simp [results, Tryz.results149, go_sem, d0, d1, d2]
    · exact ⟨rfl, ((HBA.out.setCell (Nat.le_refl _) _).setCell (Nat.le_refl _) _).setCell (Nat.le_refl _) _⟩
  | min =>
    simp only at HX1
    rw [HX1.out]
    unfold vOf fnB
    go_enter Tryz.func149, Tryz.ntmps149
    go_wp2_with fail
    with_reducible refine (HO.out _).mono ?_
    rintro e w1 ⟨rfl, hb1⟩
    have HZ1 : Hid (VAt w1 w.heap.size zW) := mkH (VAt.up (heap_alloc_new _ _) hb1)
    have HB1 := mkH (ups (HB0.out _) hb1)
    clear hb1 HO
    go_upto_region 2 with fail
    have hk : S.KAt (w1.alloc (.cells #[.int .i64 c1, .int .i64 m1, .int .i64 k1, .int .i64 n1, .string t1, .int .i64 p1, .int .i64 q1, .string u1] 38)) w1.heap.size (c1, m1, (k1, n1, t1), (p1, q1, u1)) := heap_alloc_new _ _
    have HBA : Hid (Below w.heap.size w (w1.alloc (.cells #[.int .i64 c1, .int .i64 m1, .int .i64 k1, .int .i64 n1, .string t1, .int .i64 p1, .int .i64 q1, .string u1] 38))) := mkH (ups HB1.out ((Below.refl _ _).alloc (Nat.le_refl _) _))
    have HZA : Hid (VAt (w1.alloc (.cells #[.int .i64 c1, .int .i64 m1, .int .i64 k1, .int .i64 n1, .string t1, .int .i64 p1, .int .i64 q1, .string u1] 38)) w.heap.size zW) := mkH (HZ1.out.up ((Below.refl _ _).alloc (Nat.le_refl _) _))
    have hz1 := HZ1.out.lt
    have hne : ¬ w.heap.size = w1.heap.size := by omega
    have hne2 : ¬ w1.heap.size = w.heap.size := by omega
    clear HB1 HZ1 hz1
    generalize w1.alloc (.cells #[.int .i64 c1, .int .i64 m1, .int .i64 k1, .int .i64 n1, .string t1, .int .i64 p1, .int .i64 q1, .string u1] 38) = wb at *
    generalize w1.heap.size = gk at *
    obtain ⟨k0, k1', k2, k3, k4, k5, k6, k7⟩ := hk.cells
    clear hk
    obtain ⟨d0, d1, d2⟩ := HZA.out.cells
    obtain ⟨f0, f1, f2⟩ := HZA.out.free
    go_wp2
    refine bodyPost_ret (v := .agg #[.int .i64 k1, .int .i64 n1, .string t1]) ?_ rfl ?_
    · simp [results, Tryz.results149, go_sem, d0, d1, d2]
    · exact ⟨rfl, ((HBA.out.setCell (Nat.le_refl _) _).setCell (Nat.le_refl _) _).setCell (Nat.le_refl _) _⟩
  | sum =>
    simp only at HX1
    unfold fnB
    by_cases hp : 0 < d
    · rw [if_pos hp] at HX1
      rw [HX1.out]
      unfold vOf numV
      go_enter Tryz.func149, Tryz.ntmps149
      go_wp2_with fail
      with_reducible refine (HO.out _).mono ?_
      rintro e w1 ⟨rfl, hb1⟩
      have HZ1 : Hid (VAt w1 w.heap.size zW) := mkH (VAt.up (heap_alloc_new _ _) hb1)
      have HB1 := mkH (ups (HB0.out _) hb1)
      clear hb1 HO
      go_upto_region 2 with fail
      have hk : S.KAt (w1.alloc (.cells #[.int .i64 c1, .int .i64 m1, .int .i64 k1, .int .i64 n1, .string t1, .int .i64 p1, .int .i64 q1, .string u1] 38)) w1.heap.size (c1, m1, (k1, n1, t1), (p1, q1, u1)) := heap_alloc_new _ _
      have HBA : Hid (Below w.heap.size w (w1.alloc (.cells #[.int .i64 c1, .int .i64 m1, .int .i64 k1, .int .i64 n1, .string t1, .int .i64 p1, .int .i64 q1, .string u1] 38))) := mkH (ups HB1.out ((Below.refl _ _).alloc (Nat.le_refl _) _))
      have HZA : Hid (VAt (w1.alloc (.cells #[.int .i64 c1, .int .i64 m1, .int .i64 k1, .int .i64 n1, .string t1, .int .i64 p1, .int .i64 q1, .string u1] 38)) w.heap.size zW) := mkH (HZ1.out.up ((Below.refl _ _).alloc (Nat.le_refl _) _))
      have hz1 := HZ1.out.lt
      have hne : ¬ w.heap.size = w1.heap.size := by omega
      have hne2 : ¬ w1.heap.size = w.heap.size := by omega
      clear HB1 HZ1 hz1
      generalize w1.alloc (.cells #[.int .i64 c1, .int .i64 m1, .int .i64 k1, .int .i64 n1, .string t1, .int .i64 p1, .int .i64 q1, .string u1] 38) = wb at *
      generalize w1.heap.size = gk at *
      obtain ⟨k0, k1', k2, k3, k4, k5, k6, k7⟩ := hk.cells
      clear hk
      go_wp2_with fail
      with_reducible refine (HS.out _ HBA.out).mono ?_
      rintro e w2 ⟨rfl, hb2⟩
      have HB2' := mkH (ups HBA.out hb2)
      have HZ2' := mkH (HZA.out.up hb2)
      clear hb2 HBA HZA
      go_wp2_with fail
      with_reducible refine (HN.out _ _).mono ?_
      rintro e w3 ⟨rfl, hb3⟩
      have HB3 := mkH (ups HB2'.out hb3)
      have hz2 := HZ2'.out.up hb3
      clear hb3 HB2' HZ2'
      obtain ⟨d0, d1, d2⟩ := hz2.cells
      obtain ⟨f0, f1, f2⟩ := hz2.free
      go_wp2
      refine bodyPost_ret (v := .agg #[.int .i64 1, .int .i64 (sumF l), .string ⟨#[]⟩]) ?_ rfl ?_
      · simp [results, Tryz.results149, go_sem, d0, d1, d2]
      · exact ⟨rfl, ((HB3.out.setCell (Nat.le_refl _) _).setCell (Nat.le_refl _) _).setCell (Nat.le_refl _) _⟩
    · rw [if_neg hp] at HX1
      rw [HX1.out]
      unfold vOf
      go_enter Tryz.func149, Tryz.ntmps149
      go_wp2_with fail
      with_reducible refine (HO.out _).mono ?_
      rintro e w1 ⟨rfl, hb1⟩
      have HZ1 : Hid (VAt w1 w.heap.size zW) := mkH (VAt.up (heap_alloc_new _ _) hb1)
      have HB1 := mkH (ups (HB0.out _) hb1)
      clear hb1 HO
      go_upto_region 2 with fail
      have hk : S.KAt (w1.alloc (.cells #[.int .i64 c1, .int .i64 m1, .int .i64 k1, .int .i64 n1, .string t1, .int .i64 p1, .int .i64 q1, .string u1] 38)) w1.heap.size (c1, m1, (k1, n1, t1), (p1, q1, u1)) := heap_alloc_new _ _
      have HBA : Hid (Below w.heap.size w (w1.alloc (.cells #[.int .i64 c1, .int .i64 m1, .int .i64 k1, .int .i64 n1, .string t1, .int .i64 p1, .int .i64 q1, .string u1] 38))) := mkH (ups HB1.out ((Below.refl _ _).alloc (Nat.le_refl _) _))
      have HZA : Hid (VAt (w1.alloc (.cells #[.int .i64 c1, .int .i64 m1, .int .i64 k1, .int .i64 n1, .string t1, .int .i64 p1, .int .i64 q1, .string u1] 38)) w.heap.size zW) := mkH (HZ1.out.up ((Below.refl _ _).alloc (Nat.le_refl _) _))
      have hz1 := HZ1.out.lt
      have hne : ¬ w.heap.size = w1.heap.size := by omega
      have hne2 : ¬ w1.heap.size = w.heap.size := by omega
      clear HB1 HZ1 hz1
      generalize w1.alloc (.cells #[.int .i64 c1, .int .i64 m1, .int .i64 k1, .int .i64 n1, .string t1, .int .i64 p1, .int .i64 q1, .string u1] 38) = wb at *
      generalize w1.heap.size = gk at *
      obtain ⟨k0, k1', k2, k3, k4, k5, k6, k7⟩ := hk.cells
      clear hk
      obtain ⟨d0, d1, d2⟩ := HZA.out.cells
      obtain ⟨f0, f1, f2⟩ := HZA.out.free
      go_wp2
      refine bodyPost_ret (v := .agg #[.int .i64 0, .int .i64 0, .string ⟨#[]⟩]) ?_ rfl ?_
      · simp [results, Tryz.results149, go_sem, d0, d1, d2]
      · exact ⟨rfl, ((HBA.out.setCell (Nat.le_refl _) _).setCell (Nat.le_refl _) _).setCell (Nat.le_refl _) _⟩
end Go.Proofs.YtlnkbhbpkmnkaaaGreatDoor.F
