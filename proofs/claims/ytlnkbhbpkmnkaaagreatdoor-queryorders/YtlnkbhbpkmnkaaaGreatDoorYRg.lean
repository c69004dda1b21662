/- What query.ofPart and ofParts do, said of every call. -/
import Derived.Test.YtlnkbhbpkmnkaaaGreatDoorYRe
namespace Go.Proofs.YtlnkbhbpkmnkaaaGreatDoor.F
open Go.RowKit Go.Proofs Go.Shelf Go.Joins

theorem ofI_fn {f : Fn} (hf : f ≠ .no) (part : List (List V)) (p : Int) : ofI part (f, p) = if p < 0 then numV part.length else comesV f (part.map fun r => atV r p.toNat) := by
  cases f <;> first | exact absurd rfl hf | rfl
theorem vOf_eq (x : V) : vOf x = .agg #[.int .i64 x.1, .int .i64 x.2.1, .string x.2.2] := rfl
set_option maxHeartbeats 4000000 in
set_option maxRecDepth 100000 in
theorem ofItem_no (p : Nat) (pv : Value) (part : List (List V)) (w : World) (h : SlR w pv part) (hne : part ≠ []) (hp : p ≤ 1000000) :
    Calls Tryz.prog 114 #[pv, .agg #[.string ⟨#[]⟩, .int .i64 (p : Int)]] w fun e w' => e = .returned (vOf (ofI part (.no, (p : Int)))) ∧ Below w.heap.size w w' := by
  have hb0 : ∀ o o', Below w.heap.size w ((w.alloc o).alloc o') := fun o o' => S.below_a2 w o o'
  obtain ⟨r, hr⟩ : ∃ r, part[0]? = some r := ⟨_, List.getElem?_eq_getElem (by cases part with | nil => exact absurd rfl hne | cons a l => simp)⟩
  obtain ⟨b1, o1, d1, x1, e1, hb, p1, s1⟩ := h.at hr
  subst e1
  have HO : Hid (ofI part (.no, (p : Int)) = atV r p) := mkH (by
    cases part with
    | nil => exact absurd rfl hne
    | cons a l => simp at hr; subst hr; rfl)
  have HAT := mkH (fun W (hW : Below w.heap.size w W) => at_any x1 r p W (s1.up hW) hp)
  have HB0 := mkH hb0
  have hpl : 0 < (part.length : Int) := by have := lt_of_some hr; omega
  have hpl2 : 0 < part.length := lt_of_some hr
  obtain ⟨xa, xc, rfl, _⟩ := s1
  rw [HO.out]
  generalize atV r p = y at *
  obtain ⟨yk, yn, yt⟩ := y
  simp only at HAT
  unfold vOf
  simp only
  clear hb0 hr h hne HO
  go_enter Tryz.func114, Tryz.ntmps114
  go_upto_region 2 with fail
  obtain ⟨wb, hwb⟩ : ∃ wb, ((w.alloc (.cells #[.string ⟨#[]⟩, .int .i64 (p : Int)] 140)).alloc (.cells #[.int .i64 0, .int .i64 0, .string ⟨#[]⟩] 29)) = wb := ⟨_, rfl⟩
  have HATb : Hid (∀ W, Gr wb W → Calls Tryz.prog 83 #[.slice xa r.length xc, .int .i64 (p : Int)] W fun e w' => e = .returned (.agg #[.int .i64 yk, .int .i64 yn, .string yt]) ∧ Gr W w') := mkH (fun W hW => HAT.out W (by
    have h1 : Below w.heap.size w wb := by rw [← hwb]; exact S.below_a2 w _ _
    exact ups h1 hW.below))
  have c0 : wb.cell? ⟨b1, o1, none⟩ = some (.slice xa r.length xc) := by rw [← hwb]; exact ((S.below_a2 w _ _).cell (p := ⟨b1, o1, none⟩) hb).trans p1
  have c1 : wb.cell? ⟨w.heap.size, 1, none⟩ = some (.int .i64 (p : Int)) := by rw [← hwb]; exact cell_of_block ((Below.heap_alloc _ _ _ (by simp)).trans (heap_alloc_new _ _)) 1
  have HZ : Hid (VAt wb (w.heap.size + 1) zW) := mkH (by rw [← hwb]; exact S.heap_new1 _ _ _)
  have HBW : Hid (Below w.heap.size w wb) := mkH (by rw [← hwb]; exact S.below_a2 w _ _)
  have s0 : b1 < wb.heap.size := Nat.lt_of_lt_of_le hb HBW.out.size
  have s1 : w.heap.size < wb.heap.size := by rw [← hwb]; simp; omega
  have s2 : w.heap.size + 1 < wb.heap.size := HZ.out.lt
  rw [hwb]
  clear hwb HAT HB0
  have hn1 : ¬ b1 = w.heap.size + 1 := by omega
  have hn2 : ¬ w.heap.size = w.heap.size + 1 := by omega
  have hn3 : ¬ w.heap.size + 1 = b1 := by omega
  have hn4 : ¬ w.heap.size + 1 = w.heap.size := by omega
  go_region_held3 (fun w' => w'.cell? ⟨b1, o1, none⟩ = some (.slice xa r.length xc) ∧ w'.cell? ⟨w.heap.size, 1, none⟩ = some (.int .i64 (p : Int))) (go_keep) (first
    | (go_at_call 83
       with_reducible refine (HATb.out _ (by first | exact (Gr.refl _).drew | exact Gr.refl _)).mono ?_
       rintro e w5 ⟨rfl, hg5⟩
       have B5 : Gr wb w5 := Gr.trans (by first | exact (Gr.refl _).drew | exact Gr.refl _) hg5
       have q0 : w5.cell? ⟨b1, o1, none⟩ = some (.slice xa r.length xc) := (B5.below.cell (p := ⟨b1, o1, none⟩) s0).trans c0
       have q1 : w5.cell? ⟨w.heap.size, 1, none⟩ = some (.int .i64 (p : Int)) := (B5.below.cell (p := ⟨w.heap.size, 1, none⟩) s1).trans c1
       have kz := HZ.out.up B5.below
       obtain ⟨k0, k1, k2⟩ := kz.cells
       obtain ⟨f0, f1, f2⟩ := kz.free))
  all_goals
    go_wp2
    refine bodyPost_ret (v := .agg #[.int .i64 yk, .int .i64 yn, .string yt]) ?_ rfl ?_
    · simp [results, Tryz.results114, go_sem, k0, k1, k2]
    · exact ⟨rfl, (((ups HBW.out B5.below).setCell (by show w.heap.size ≤ w.heap.size + 1; omega) _).setCell (by show w.heap.size ≤ w.heap.size + 1; omega) _).setCell (by show w.heap.size ≤ w.heap.size + 1; omega) _⟩
set_option maxHeartbeats 4000000 in
set_option maxRecDepth 100000 in
theorem ofItem_len (f : Fn) (hf : f ≠ .no) (p : Int) (pv : Value) (part : List (List V)) (w : World) (h : SlR w pv part) (hp : p < 0) :
    Calls Tryz.prog 114 #[pv, .agg #[.string (fnB f), .int .i64 p]] w fun e w' => e = .returned (vOf (ofI part (f, p))) ∧ Below w.heap.size w w' := by
  have HO : Hid (ofI part (f, p) = numV part.length) := mkH (by rw [ofI_fn hf, if_pos hp])
  obtain ⟨la, lc, rfl, _⟩ := h.slice
  have HN := mkH number_any
  rw [HO.out]
  unfold vOf numV
  simp only
  clear HO h
  cases f
  case no => exact absurd rfl hf
  all_goals
    unfold fnB
    go_enter Tryz.func114, Tryz.ntmps114
    go_wp2_with fail
    with_reducible refine (HN.out _ _).mono ?_
    rintro e w2 ⟨rfl, hb2⟩
    have hz : VAt w2 (w.heap.size + 1) zW := VAt.up (S.heap_new1 _ _ _) hb2
    have HB2 := mkH (ups (S.below_a2 w _ _) hb2)
    obtain ⟨d0, d1, d2⟩ := hz.cells
    obtain ⟨f0, f1, f2⟩ := hz.free
    clear hb2 hz
    go_wp2
    refine bodyPost_ret (v := .agg #[.int .i64 1, .int .i64 (part.length : Int), .string ⟨#[]⟩]) ?_ rfl ?_
    · simp [results, Tryz.results114, go_sem, d0, d1, d2]
    · exact ⟨rfl, ((HB2.out.setCell (by show w.heap.size ≤ w.heap.size + 1; omega) _).setCell (by show w.heap.size ≤ w.heap.size + 1; omega) _).setCell (by show w.heap.size ≤ w.heap.size + 1; omega) _⟩
set_option maxHeartbeats 4000000 in
set_option maxRecDepth 100000 in
theorem ofItem_col (f : Fn) (hf : f ≠ .no) (p : Nat) (pv : Value) (part : List (List V)) (w : World) (h : SlR w pv part) (hp : p ≤ 1000) (hl : part.length ≤ 900) :
    Calls Tryz.prog 114 #[pv, .agg #[.string (fnB f), .int .i64 (p : Int)]] w fun e w' => e = .returned (vOf (ofI part (f, (p : Int)))) ∧ Below w.heap.size w w' := by
  have HO : Hid (ofI part (f, (p : Int)) = comesV f (part.map fun r => atV r p)) := mkH (by rw [ofI_fn hf, if_neg (by omega), Int.toNat_natCast])
  have HC := mkH (fun W (hb : Below w.heap.size w W) => column_any pv part p W (h.up hb) (by omega) (by omega))
  have HM := mkH (fun v W (hs : E.Sl W v (part.map fun r => atV r p)) => comes_any f hf v _ W hs (by rw [List.length_map]; exact hl))
  obtain ⟨la, lc, rfl, _⟩ := h.slice
  have hp0 : ¬ (p : Int) < 0 := by omega
  rw [HO.out]
  generalize comesV f (part.map fun r => atV r p) = y at *
  obtain ⟨yk, yn, yt⟩ := y
  unfold vOf at HM ⊢
  simp only at HM ⊢
  clear HO h
  cases f with
  | no => exact absurd rfl hf
  | count =>
    unfold fnB at HM ⊢
    go_enter Tryz.func114, Tryz.ntmps114
    go_upto_region 5 with fail
    obtain ⟨wb, hwb⟩ : ∃ wb, ((w.alloc (.cells #[.string (fnB .count), .int .i64 (p : Int)] 140)).alloc (.cells #[.int .i64 0, .int .i64 0, .string ⟨#[]⟩] 29)) = wb := ⟨_, rfl⟩
    have HZ : Hid (VAt wb (w.heap.size + 1) zW) := mkH (by rw [← hwb]; exact S.heap_new1 _ _ _)
    have HBW : Hid (Below w.heap.size w wb) := mkH (by rw [← hwb]; exact S.below_a2 w _ _)
    have HK : wb.heap[w.heap.size]? = some (.cells #[.string (fnB .count), .int .i64 (p : Int)] 140) := by rw [← hwb]; exact (Below.heap_alloc _ _ _ (by simp)).trans (heap_alloc_new _ _)
    have c0 : wb.cell? ⟨w.heap.size, 0, none⟩ = some (.string (fnB .count)) := cell_of_block HK 0
    have c1 : wb.cell? ⟨w.heap.size, 1, none⟩ = some (.int .i64 (p : Int)) := cell_of_block HK 1
    unfold fnB at hwb c0
    rw [hwb]
    clear hwb HK
    have s1 : w.heap.size < wb.heap.size := by have := HZ.out.lt; omega
    have hn2 : ¬ w.heap.size = w.heap.size + 1 := by omega
    have hn4 : ¬ w.heap.size + 1 = w.heap.size := by omega
    have HCb := mkH (fun W (hW : Below wb.heap.size wb W) => HC.out W (ups HBW.out hW))
    clear HC
    go_region_held3 (fun w' => w'.cell? ⟨w.heap.size, 0, none⟩ = some (.string ⟨#[99, 111, 117, 110, 116]⟩) ∧ w'.cell? ⟨w.heap.size, 1, none⟩ = some (.int .i64 (p : Int))) (go_keep) (first
      | (go_at_call 150
         with_reducible refine (HCb.out _ (by first | exact (Below.refl _ _).drew | exact Below.refl _ _)).mono ?_
         rintro e w5 ⟨v5, rfl, hs5, hb5⟩
         have B5 : Below wb.heap.size wb w5 := ups (by first | exact (Below.refl _ _).drew | exact Below.refl _ _) hb5
         have q0 : w5.cell? ⟨w.heap.size, 0, none⟩ = some (.string ⟨#[99, 111, 117, 110, 116]⟩) := (B5.cell (p := ⟨w.heap.size, 0, none⟩) s1).trans c0
         have q1 : w5.cell? ⟨w.heap.size, 1, none⟩ = some (.int .i64 (p : Int)) := (B5.cell (p := ⟨w.heap.size, 1, none⟩) s1).trans c1)
      | (go_at_call 149
         with_reducible refine (HM.out _ _ hs5).mono ?_
         rintro e w6 ⟨rfl, hb6⟩
         have B6 : Below wb.heap.size wb w6 := ups B5 hb6
         have q2 : w6.cell? ⟨w.heap.size, 0, none⟩ = some (.string ⟨#[99, 111, 117, 110, 116]⟩) := (B6.cell (p := ⟨w.heap.size, 0, none⟩) s1).trans c0
         have q3 : w6.cell? ⟨w.heap.size, 1, none⟩ = some (.int .i64 (p : Int)) := (B6.cell (p := ⟨w.heap.size, 1, none⟩) s1).trans c1
         have kz := HZ.out.up B6
         obtain ⟨k0, k1, k2⟩ := kz.cells
         obtain ⟨f0, f1, f2⟩ := kz.free))
    all_goals
      go_wp2
      refine bodyPost_ret (v := .agg #[.int .i64 yk, .int .i64 yn, .string yt]) ?_ rfl ?_
      · simp [results, Tryz.results114, go_sem, k0, k1, k2]
      · exact ⟨rfl, (((ups HBW.out B6).setCell (by show w.heap.size ≤ w.heap.size + 1; omega) _).setCell (by show w.heap.size ≤ w.heap.size + 1; omega) _).setCell (by show w.heap.size ≤ w.heap.size + 1; omega) _⟩
  | max =>
    unfold fnB at HM ⊢
    go_enter Tryz.func114, Tryz.ntmps114
    go_upto_region 5 with fail
    obtain ⟨wb, hwb⟩ : ∃ wb, ((w.alloc (.cells #[.string (fnB .max), .int .i64 (p : Int)] 140)).alloc (.cells #[.int .i64 0, .int .i64 0, .string ⟨#[]⟩] 29)) = wb := ⟨_, rfl⟩
    have HZ : Hid (VAt wb (w.heap.size + 1) zW) := mkH (by rw [← hwb]; exact S.heap_new1 _ _ _)
    have HBW : Hid (Below w.heap.size w wb) := mkH (by rw [← hwb]; exact S.below_a2 w _ _)
    have HK : wb.heap[w.heap.size]? = some (.cells #[.string (fnB .max), .int .i64 (p : Int)] 140) := by rw [← hwb]; exact (Below.heap_alloc _ _ _ (by simp)).trans (heap_alloc_new _ _)
    have c0 : wb.cell? ⟨w.heap.size, 0, none⟩ = some (.string (fnB .max)) := cell_of_block HK 0
    have c1 : wb.cell? ⟨w.heap.size, 1, none⟩ = some (.int .i64 (p : Int)) := cell_of_block HK 1
    unfold fnB at hwb c0
    rw [hwb]
    clear hwb HK
    have s1 : w.heap.size < wb.heap.size := by have := HZ.out.lt; omega
    have hn2 : ¬ w.heap.size = w.heap.size + 1 := by omega
    have hn4 : ¬ w.heap.size + 1 = w.heap.size := by omega
    have HCb := mkH (fun W (hW : Below wb.heap.size wb W) => HC.out W (ups HBW.out hW))
    clear HC
    go_region_held3 (fun w' => w'.cell? ⟨w.heap.size, 0, none⟩ = some (.string ⟨#[109, 97, 120]⟩) ∧ w'.cell? ⟨w.heap.size, 1, none⟩ = some (.int .i64 (p : Int))) (go_keep) (first
      | (go_at_call 150
         with_reducible refine (HCb.out _ (by first | exact (Below.refl _ _).drew | exact Below.refl _ _)).mono ?_
         rintro e w5 ⟨v5, rfl, hs5, hb5⟩
         have B5 : Below wb.heap.size wb w5 := ups (by first | exact (Below.refl _ _).drew | exact Below.refl _ _) hb5
         have q0 : w5.cell? ⟨w.heap.size, 0, none⟩ = some (.string ⟨#[109, 97, 120]⟩) := (B5.cell (p := ⟨w.heap.size, 0, none⟩) s1).trans c0
         have q1 : w5.cell? ⟨w.heap.size, 1, none⟩ = some (.int .i64 (p : Int)) := (B5.cell (p := ⟨w.heap.size, 1, none⟩) s1).trans c1)
      | (go_at_call 149
         with_reducible refine (HM.out _ _ hs5).mono ?_
         rintro e w6 ⟨rfl, hb6⟩
         have B6 : Below wb.heap.size wb w6 := ups B5 hb6
         have q2 : w6.cell? ⟨w.heap.size, 0, none⟩ = some (.string ⟨#[109, 97, 120]⟩) := (B6.cell (p := ⟨w.heap.size, 0, none⟩) s1).trans c0
         have q3 : w6.cell? ⟨w.heap.size, 1, none⟩ = some (.int .i64 (p : Int)) := (B6.cell (p := ⟨w.heap.size, 1, none⟩) s1).trans c1
         have kz := HZ.out.up B6
         obtain ⟨k0, k1, k2⟩ := kz.cells
         obtain ⟨f0, f1, f2⟩ := kz.free))
    all_goals
      go_wp2
      refine bodyPost_ret (v := .agg #[.int .i64 yk, .int .i64 yn, .string yt]) ?_ rfl ?_
      · simp [results, Tryz.results114, go_sem, k0, k1, k2]
      · exact ⟨rfl, (((ups HBW.out B6).setCell (by show w.heap.size ≤ w.heap.size + 1; omega) _).setCell (by show w.heap.size ≤ w.heap.size + 1; omega) _).setCell (by show w.heap.size ≤ w.heap.size + 1; omega) _⟩
  | min =>
    unfold fnB at HM ⊢
    go_enter Tryz.func114, Tryz.ntmps114
    go_upto_region 5 with fail
    obtain ⟨wb, hwb⟩ : ∃ wb, ((w.alloc (.cells #[.string (fnB .min), .int .i64 (p : Int)] 140)).alloc (.cells #[.int .i64 0, .int .i64 0, .string ⟨#[]⟩] 29)) = wb := ⟨_, rfl⟩
    have HZ : Hid (VAt wb (w.heap.size + 1) zW) := mkH (by rw [← hwb]; exact S.heap_new1 _ _ _)
    have HBW : Hid (Below w.heap.size w wb) := mkH (by rw [← hwb]; exact S.below_a2 w _ _)
    have HK : wb.heap[w.heap.size]? = some (.cells #[.string (fnB .min), .int .i64 (p : Int)] 140) := by rw [← hwb]; exact (Below.heap_alloc _ _ _ (by simp)).trans (heap_alloc_new _ _)
    have c0 : wb.cell? ⟨w.heap.size, 0, none⟩ = some (.string (fnB .min)) := cell_of_block HK 0
    have c1 : wb.cell? ⟨w.heap.size, 1, none⟩ = some (.int .i64 (p : Int)) := cell_of_block HK 1
    unfold fnB at hwb c0
    rw [hwb]
    clear hwb HK
    have s1 : w.heap.size < wb.heap.size := by have := HZ.out.lt; omega
    have hn2 : ¬ w.heap.size = w.heap.size + 1 := by omega
    have hn4 : ¬ w.heap.size + 1 = w.heap.size := by omega
    have HCb := mkH (fun W (hW : Below wb.heap.size wb W) => HC.out W (ups HBW.out hW))
    clear HC
    go_region_held3 (fun w' => w'.cell? ⟨w.heap.size, 0, none⟩ = some (.string ⟨#[109, 105, 110]⟩) ∧ w'.cell? ⟨w.heap.size, 1, none⟩ = some (.int .i64 (p : Int))) (go_keep) (first
      | (go_at_call 150
         with_reducible refine (HCb.out _ (by first | exact (Below.refl _ _).drew | exact Below.refl _ _)).mono ?_
         rintro e w5 ⟨v5, rfl, hs5, hb5⟩
         have B5 : Below wb.heap.size wb w5 := ups (by first | exact (Below.refl _ _).drew | exact Below.refl _ _) hb5
         have q0 : w5.cell? ⟨w.heap.size, 0, none⟩ = some (.string ⟨#[109, 105, 110]⟩) := (B5.cell (p := ⟨w.heap.size, 0, none⟩) s1).trans c0
         have q1 : w5.cell? ⟨w.heap.size, 1, none⟩ = some (.int .i64 (p : Int)) := (B5.cell (p := ⟨w.heap.size, 1, none⟩) s1).trans c1)
      | (go_at_call 149
         with_reducible refine (HM.out _ _ hs5).mono ?_
         rintro e w6 ⟨rfl, hb6⟩
         have B6 : Below wb.heap.size wb w6 := ups B5 hb6
         have q2 : w6.cell? ⟨w.heap.size, 0, none⟩ = some (.string ⟨#[109, 105, 110]⟩) := (B6.cell (p := ⟨w.heap.size, 0, none⟩) s1).trans c0
         have q3 : w6.cell? ⟨w.heap.size, 1, none⟩ = some (.int .i64 (p : Int)) := (B6.cell (p := ⟨w.heap.size, 1, none⟩) s1).trans c1
         have kz := HZ.out.up B6
         obtain ⟨k0, k1, k2⟩ := kz.cells
         obtain ⟨f0, f1, f2⟩ := kz.free))
    all_goals
      go_wp2
      refine bodyPost_ret (v := .agg #[.int .i64 yk, .int .i64 yn, .string yt]) ?_ rfl ?_
      · simp [results, Tryz.results114, go_sem, k0, k1, k2]
      · exact ⟨rfl, (((ups HBW.out B6).setCell (by show w.heap.size ≤ w.heap.size + 1; omega) _).setCell (by show w.heap.size ≤ w.heap.size + 1; omega) _).setCell (by show w.heap.size ≤ w.heap.size + 1; omega) _⟩
  | sum =>
    unfold fnB at HM ⊢
    go_enter Tryz.func114, Tryz.ntmps114
    go_upto_region 5 with fail
    obtain ⟨wb, hwb⟩ : ∃ wb, ((w.alloc (.cells #[.string (fnB .sum), .int .i64 (p : Int)] 140)).alloc (.cells #[.int .i64 0, .int .i64 0, .string ⟨#[]⟩] 29)) = wb := ⟨_, rfl⟩
    have HZ : Hid (VAt wb (w.heap.size + 1) zW) := mkH (by rw [← hwb]; exact S.heap_new1 _ _ _)
    have HBW : Hid (Below w.heap.size w wb) := mkH (by rw [← hwb]; exact S.below_a2 w _ _)
    have HK : wb.heap[w.heap.size]? = some (.cells #[.string (fnB .sum), .int .i64 (p : Int)] 140) := by rw [← hwb]; exact (Below.heap_alloc _ _ _ (by simp)).trans (heap_alloc_new _ _)
    have c0 : wb.cell? ⟨w.heap.size, 0, none⟩ = some (.string (fnB .sum)) := cell_of_block HK 0
    have c1 : wb.cell? ⟨w.heap.size, 1, none⟩ = some (.int .i64 (p : Int)) := cell_of_block HK 1
    unfold fnB at hwb c0
    rw [hwb]
    clear hwb HK
    have s1 : w.heap.size < wb.heap.size := by have := HZ.out.lt; omega
    have hn2 : ¬ w.heap.size = w.heap.size + 1 := by omega
    have hn4 : ¬ w.heap.size + 1 = w.heap.size := by omega
    have HCb := mkH (fun W (hW : Below wb.heap.size wb W) => HC.out W (ups HBW.out hW))
    clear HC
    go_region_held3 (fun w' => w'.cell? ⟨w.heap.size, 0, none⟩ = some (.string ⟨#[115, 117, 109]⟩) ∧ w'.cell? ⟨w.heap.size, 1, none⟩ = some (.int .i64 (p : Int))) (go_keep) (first
      | (go_at_call 150
         with_reducible refine (HCb.out _ (by first | exact (Below.refl _ _).drew | exact Below.refl _ _)).mono ?_
         rintro e w5 ⟨v5, rfl, hs5, hb5⟩
         have B5 : Below wb.heap.size wb w5 := ups (by first | exact (Below.refl _ _).drew | exact Below.refl _ _) hb5
         have q0 : w5.cell? ⟨w.heap.size, 0, none⟩ = some (.string ⟨#[115, 117, 109]⟩) := (B5.cell (p := ⟨w.heap.size, 0, none⟩) s1).trans c0
         have q1 : w5.cell? ⟨w.heap.size, 1, none⟩ = some (.int .i64 (p : Int)) := (B5.cell (p := ⟨w.heap.size, 1, none⟩) s1).trans c1)
      | (go_at_call 149
         with_reducible refine (HM.out _ _ hs5).mono ?_
         rintro e w6 ⟨rfl, hb6⟩
         have B6 : Below wb.heap.size wb w6 := ups B5 hb6
         have q2 : w6.cell? ⟨w.heap.size, 0, none⟩ = some (.string ⟨#[115, 117, 109]⟩) := (B6.cell (p := ⟨w.heap.size, 0, none⟩) s1).trans c0
         have q3 : w6.cell? ⟨w.heap.size, 1, none⟩ = some (.int .i64 (p : Int)) := (B6.cell (p := ⟨w.heap.size, 1, none⟩) s1).trans c1
         have kz := HZ.out.up B6
         obtain ⟨k0, k1, k2⟩ := kz.cells
         obtain ⟨f0, f1, f2⟩ := kz.free))
    all_goals
      go_wp2
      refine bodyPost_ret (v := .agg #[.int .i64 yk, .int .i64 yn, .string yt]) ?_ rfl ?_
      · simp [results, Tryz.results114, go_sem, k0, k1, k2]
      · exact ⟨rfl, (((ups HBW.out B6).setCell (by show w.heap.size ≤ w.heap.size + 1; omega) _).setCell (by show w.heap.size ≤ w.heap.size + 1; omega) _).setCell (by show w.heap.size ≤ w.heap.size + 1; omega) _⟩
end Go.Proofs.YtlnkbhbpkmnkaaaGreatDoor.F
namespace Go.Proofs.YtlnkbhbpkmnkaaaGreatDoor.F
open Go.RowKit Go.Proofs Go.Shelf Go.Joins

/-- Items, by where their columns stand. -/
def encPl (x : Fn × Int) : List Value := [.string (fnB x.1), .int .i64 x.2]
def PsOk (ps : List (Fn × Int)) (part : List (List V)) : Prop := ∀ x ∈ ps, (x.1 = .no → part ≠ [] ∧ 0 ≤ x.2) ∧ x.2 ≤ 1000
theorem ofItem_any (x : Fn × Int) (pv : Value) (part : List (List V)) (w : World) (h : SlR w pv part) (h0 : x.1 = .no → part ≠ [] ∧ 0 ≤ x.2) (hp : x.2 ≤ 1000) (hl : part.length ≤ 900) :
    Calls Tryz.prog 114 #[pv, .agg #[.string (fnB x.1), .int .i64 x.2]] w fun e w' => e = .returned (vOf (ofI part x)) ∧ Below w.heap.size w w' := by
  obtain ⟨f, p⟩ := x
  simp only at h0 hp
  by_cases hf : f = .no
  · subst hf
    obtain ⟨h1, h2⟩ := h0 rfl
    obtain ⟨m, rfl⟩ := Int.eq_ofNat_of_zero_le h2
    exact ofItem_no m pv part w h h1 (by omega)
  · by_cases hn : p < 0
    · exact ofItem_len f hf p pv part w h hn
    · obtain ⟨m, rfl⟩ := Int.eq_ofNat_of_zero_le (show 0 ≤ p by omega)
      exact ofItem_col f hf m pv part w h (by omega) hl
set_option maxHeartbeats 4000000 in
set_option maxRecDepth 100000 in
theorem ofPart_any (pv iv : Value) (part : List (List V)) (ps : List (Fn × Int)) (w : World) (h : SlR w pv part) (hi : SlE 2 encPl w iv ps) (hok : PsOk ps part) (hl : part.length ≤ 900) (hpl : ps.length ≤ 1000) :
    Calls Tryz.prog 77 #[pv, iv] w fun e w' => ∃ v, e = .returned v ∧ w'.ownsRow 0 29 3 v (ps.map (ofI part)).length (E.flatV (ps.map (ofI part))) ∧ Below w.heap.size w w' := by
  have HI := mkH hi
  have HIT := mkH (fun x (hx : x ∈ ps) W (hb : Below w.heap.size w W) => ofItem_any x pv part W (h.up hb) (hok x hx).1 (hok x hx).2 hl)
  obtain ⟨pa, pc, rfl, _⟩ := h.slice
  obtain ⟨la, lc, rfl, _⟩ := hi.slice
  obtain ⟨iV, hiV, hzV, hz1V, hz2V⟩ := info_parts E.info32
  have HIV := mkH (And.intro hiV (And.intro hzV (And.intro hz1V hz2V)))
  clear h hi hok hiV hzV hz1V hz2V
  go_enter Tryz.func77, Tryz.ntmps77
  go_wp2_with (refine wpList_make_own _ rfl _ _ 35 rfl w.heap.size 29 iV (.agg #[.int .i64 0, .int .i64 0, .string ⟨#[]⟩]) 3 Tryz.underlying35 HIV.out.1 HIV.out.2.1 HIV.out.2.2.1 .i64 .i64 _ ps.length rfl rfl rfl ?m1 ?m2 (Nat.le_refl _) ?_)
  case m1 => rw [HIV.out.2.2.2]; omega
  case m2 => unfold maxLen; omega
  intro w1 ho1 hg1
  have HO1 := mkH ho1
  have HB1 : Hid (Below w.heap.size w w1) := mkH ((Below.refl _ w).grown hg1 (Nat.le_refl _) (fun j hj => by cases hj))
  clear ho1 hg1
  go_wp2_with fail
  go_loopw [5, 13] (fun vl vi wr => ∃ (k : Nat) (a : Option Addr) (c : Nat), k ≤ ps.length ∧ vi = .int .i64 k ∧ vl = .slice a k c ∧ Hid (wr.ownsRow w.heap.size 29 3 (.slice a k c) k (E.flatV ((ps.take k).map (ofI part)))) ∧ Hid (Below w.heap.size w wr)) (fun _ vi _ => ps.length - (intOf vi).toNat)
  case atStart => exact ⟨0, _, _, Nat.zero_le _, rfl, rfl, HO1, HB1⟩
  case round =>
    clear HO1 HB1
    obtain ⟨k, a, c, hk, rfl, rfl, HO, HB⟩ := hrel
    by_cases hlt : k < ps.length
    · obtain ⟨x, hx⟩ : ∃ x, ps[k]? = some x := ⟨_, List.getElem?_eq_getElem hlt⟩
      have hkn : (k : Int) < (ps.length : Int) := by omega
      obtain ⟨b1, o1, d1, e1, _, p1, r1⟩ := (HI.out.up HB.out).cons (by omega)
      injection e1 with e11 _ e13
      subst e11 e13
      have x0 : wr.cell? ⟨b1, o1 + k * 2, none⟩ = some (.string (fnB x.1)) := r1 k x hx 0 _ rfl
      have x1 : wr.cell? ⟨b1, o1 + k * 2 + 1, none⟩ = some (.int .i64 x.2) := r1 k x hx 1 _ rfl
      have HTK : Hid ((ps.take (k + 1)).map (ofI part) = (ps.take k).map (ofI part) ++ [ofI part x]) := mkH (by rw [S.take_one_more hx]; simp)
      have HIX := mkH (HIT.out x (List.mem_of_getElem? hx))
      have HBo := mkH (fun o => HB.out.alloc HB.out.size o)
      obtain ⟨f, q⟩ := x
      simp only at x0 x1 HIX
      generalize ofI part (f, q) = y at *
      obtain ⟨yk, yn, yt⟩ := y
      unfold vOf at HIX
      simp only at HIX
      clear hx r1
      go_wp2_with fail
      with_reducible refine (HIX.out _ (HBo.out _)).mono ?_
      rintro e w2 ⟨rfl, hb2'⟩
      have hb2 : Below wr.heap.size wr w2 := ups ((Below.refl _ _).alloc (Nat.le_refl _) _) hb2'
      have HO2 := mkH (E.ownsRow_up HO.out hb2)
      have HB2 := mkH (ups HB.out hb2)
      have hs2 : w.heap.size ≤ w2.heap.size := HB2.out.size
      clear hb2 hb2' HO HIX HBo
      have HA4 : Hid (Below w2.heap.size w2 (w2.alloc (.cells #[.int .i64 yk, .int .i64 yn, .string yt] 29))) := mkH ((Below.refl _ _).alloc (Nat.le_refl _) _)
      go_wp2_with (first
        | (at_builtin; refine wpList_append_own _ rfl _ _ 35 rfl w.heap.size 29 iV (.agg #[.int .i64 0, .int .i64 0, .string ⟨#[]⟩]) 3 32 Tryz.underlying35 HIV.out.1 HIV.out.2.1 HIV.out.2.2.1 HIV.out.2.2.2 rfl (by decide) (.slice a k c) k (E.flatV ((ps.take k).map (ofI part))) rfl (E.ownsRow_up HO2.out HA4.out) ⟨w2.heap.size, 0, none⟩ 1 1 [.int .i64 yk, .int .i64 yn, .string yt] rfl rfl (fun j u hj => World.news_of_block (heap_alloc_new _ _) j u hj) (by intro u hu; simp at hu; rcases hu with rfl | rfl | rfl <;> rfl) (by unfold maxLen; omega) (by omega) (Nat.le_trans hs2 HA4.out.size) ?_
           intro v5 w5 hown5 hg5 _
           have HO5 := mkH hown5
           have HG5 := mkH hg5
           clear hown5 hg5))
      obtain ⟨a', c', rfl, _⟩ := own_slice HO5.out
      refine ⟨⟨k + 1, a', c', hlt, by go_num, rfl, mkH ?_, mkH ?_⟩, by simp [intOf]; omega⟩
      · rw [HTK.out, E.flatV_app]
        exact HO5.out
      · exact (ups HB2.out HA4.out).grown HG5.out (Nat.le_trans hs2 HA4.out.size) (fun j hj => own_blk HO2.out hj)
    · have hkn : ¬ (k : Int) < (ps.length : Int) := by omega
      have hke : k = ps.length := by omega
      subst hke
      have HO' := HO.out
      rw [List.take_length] at HO'
      have HOO := mkH HO'
      clear HO'
      go_wp2
      go_ret
      exact ⟨_, rfl, E.ownsRow_base HOO.out (Nat.zero_le _), HB.out⟩
/-- Parts lie in memory: rows of rows. -/
def SlP (w : World) (v : Value) (parts : List (List (List V))) : Prop := ∃ vs : List Value, SlE 1 encR w v vs ∧ vs.length = parts.length ∧ ∀ (j : Nat) x g, vs[j]? = some x → parts[j]? = some g → SlR w x g
theorem SlP.up {w W : World} {v : Value} {ps : List (List (List V))} (h : SlP w v ps) (hb : Below w.heap.size w W) : SlP W v ps := by
  obtain ⟨vs, h1, h2, h3⟩ := h
  exact ⟨vs, h1.up hb, h2, fun j x g hx hg => (h3 j x g hx hg).up hb⟩
theorem SlP.slice {w : World} {v : Value} {ps : List (List (List V))} (h : SlP w v ps) : ∃ a c, v = .slice a ps.length c ∧ ps.length ≤ c := by
  obtain ⟨vs, h1, h2, _⟩ := h
  obtain ⟨a, c, e, hc⟩ := h1.slice
  exact ⟨a, c, by rw [← h2]; exact e, by rw [← h2]; exact hc⟩
theorem SlP.at {w : World} {v : Value} {ps : List (List (List V))} (h : SlP w v ps) {k : Nat} {g : List (List V)} (hk : ps[k]? = some g) : ∃ b off c rv, v = .slice (some ⟨b, off, none⟩) ps.length c ∧ b < w.heap.size ∧ w.cell? ⟨b, off + k, none⟩ = some rv ∧ SlR w rv g := by
  obtain ⟨vs, h1, h2, h3⟩ := h
  have hlt := lt_of_some hk
  obtain ⟨b, off, c, e, hc, hb, hcell⟩ := h1.cons (by omega)
  obtain ⟨x, hx⟩ : ∃ x, vs[k]? = some x := ⟨_, List.getElem?_eq_getElem (by omega)⟩
  refine ⟨b, off, c, x, by rw [e, h2], hb, ?_, h3 k x g hx hk⟩
  have := hcell k x hx 0 x rfl
  rwa [Nat.mul_one, Nat.add_zero] at this
/-- Rows that are one's own, in a row of slices that is. -/
def OpPost (rows : List (List V)) (w : World) (e : Ending) (w' : World) : Prop := ∃ g c vs, e = .returned (.slice (some ⟨g, 0, none⟩) rows.length c) ∧ rows.length ≤ c ∧ vs.length = rows.length ∧ w.heap.size ≤ g ∧ w'.ownsRow g 35 1 (.slice (some ⟨g, 0, none⟩) rows.length c) rows.length vs ∧ (∀ (j : Nat) x r, vs[j]? = some x → rows[j]? = some r → E.Sl w' x r) ∧ Below w.heap.size w w'
set_option maxHeartbeats 4000000 in
set_option maxRecDepth 100000 in
theorem ofParts_any (pv iv : Value) (parts : List (List (List V))) (ps : List (Fn × Int)) (w : World) (h : SlP w pv parts) (hi : SlE 2 encPl w iv ps) (hok : ∀ g ∈ parts, PsOk ps g ∧ g.length ≤ 900) (hl : parts.length ≤ 1000) (hpl : ps.length ≤ 1000) :
    Calls Tryz.prog 40 #[pv, iv] w (OpPost (toldQ ps parts) w) := by
  have HI := mkH hi
  have HL := mkH h
  have HIT := mkH (fun g (hx : g ∈ parts) v W (hb : Below w.heap.size w W) (hs : SlR W v g) => ofPart_any v iv g ps W hs (hi.up hb) (hok g hx).1 (hok g hx).2 hpl)
  obtain ⟨pa, pc, rfl, _⟩ := h.slice
  obtain ⟨la, lc, rfl, _⟩ := hi.slice
  obtain ⟨iS, hiS, hzS, hz1S, hz2S⟩ := info_parts infoSl
  have HIV := mkH (And.intro hiS (And.intro hzS (And.intro hz1S hz2S)))
  clear h hi hok hiS hzS hz1S hz2S
  go_enter Tryz.func40, Tryz.ntmps40
  go_wp2_with (refine wpList_make_own _ rfl _ _ 23 rfl w.heap.size 35 iS (.slice none 0 0) 1 Tryz.underlying23 HIV.out.1 HIV.out.2.1 HIV.out.2.2.1 .i64 .i64 _ parts.length rfl rfl rfl ?m1 ?m2 (Nat.le_refl _) ?_)
  case m1 => rw [HIV.out.2.2.2]; omega
  case m2 => unfold maxLen; omega
  intro w1 ho1 hg1
  have HO1 := mkH ho1
  have HB1 : Hid (Below w.heap.size w w1) := mkH ((Below.refl _ w).grown hg1 (Nat.le_refl _) (fun j hj => by cases hj))
  clear ho1 hg1
  go_wp2_with fail
  go_loopw [5, 13] (fun vl vi wr => ∃ (k : Nat) (a : Option Addr) (c : Nat) (vs : List Value), k ≤ parts.length ∧ vi = .int .i64 k ∧ vl = .slice a k c ∧ vs.length = k ∧ a ≠ none ∧ Hid (wr.ownsRow w.heap.size 35 1 (.slice a k c) k vs) ∧ Hid (∀ (j : Nat) x r, vs[j]? = some x → (toldQ ps parts)[j]? = some r → wr.ownsRow 0 29 3 x r.length (E.flatV r)) ∧ Hid (Below w.heap.size w wr)) (fun _ vi _ => parts.length - (intOf vi).toNat)
  case atStart => exact ⟨0, _, _, [], Nat.zero_le _, rfl, rfl, rfl, by simp, HO1, mkH (fun j x r hx => by simp at hx), HB1⟩
  case round =>
    clear HO1 HB1
    obtain ⟨k, a, c, vs, hk, rfl, rfl, hvs, hane, HO, HE, HB⟩ := hrel
    by_cases hlt : k < parts.length
    · obtain ⟨g, hg⟩ : ∃ g, parts[k]? = some g := ⟨_, List.getElem?_eq_getElem hlt⟩
      have hkn : (k : Int) < (parts.length : Int) := by omega
      obtain ⟨b1, o1, d1, x1, e1, _, p1, s1⟩ := (HL.out.up HB.out).at hg
      injection e1 with e11 _ e13
      subst e11 e13
      have HT : Hid ((toldQ ps parts)[k]? = some (ps.map (ofI g))) := mkH (by unfold toldQ; rw [List.getElem?_map, hg]; rfl)
      have HIX := mkH (HIT.out g (List.mem_of_getElem? hg) x1 wr HB.out s1)
      obtain ⟨xa, xc, rfl, _⟩ := s1.slice
      generalize ps.map (ofI g) = row at *
      have HVS := mkH hvs
      clear hg s1 hvs
      go_wp2_with fail
      with_reducible refine HIX.out.mono ?_
      rintro e w2 ⟨rv, rfl, hs2, hb2⟩
      obtain ⟨ra, rc, rfl, _⟩ := own_slice hs2
      have HS2 := mkH hs2
      have HO2 := mkH (E.ownsRow_up HO.out hb2)
      have HE2 : Hid (∀ (j : Nat) x r, vs[j]? = some x → (toldQ ps parts)[j]? = some r → w2.ownsRow 0 29 3 x r.length (E.flatV r)) := mkH (fun j x r hx hr => E.ownsRow_up (HE.out j x r hx hr) hb2)
      have HB2 := mkH (ups HB.out hb2)
      have hsz2 : w.heap.size ≤ w2.heap.size := HB2.out.size
      clear hb2 hs2 HO HIX HE
      have HA4 : Hid (Below w2.heap.size w2 (w2.alloc (.cells #[.slice ra row.length rc] 35))) := mkH ((Below.refl _ _).alloc (Nat.le_refl _) _)
      go_wp2_with (first
        | (at_builtin; refine wpList_append_own _ rfl _ _ 23 rfl w.heap.size 35 iS (.slice none 0 0) 1 24 Tryz.underlying23 HIV.out.1 HIV.out.2.1 HIV.out.2.2.1 HIV.out.2.2.2 rfl (by decide) (.slice a k c) k vs rfl (E.ownsRow_up HO2.out HA4.out) ⟨w2.heap.size, 0, none⟩ 1 1 [.slice ra row.length rc] rfl rfl (fun j u hj => World.news_of_block (heap_alloc_new _ _) j u hj) (by intro u hu; simp at hu; subst hu; rfl) (by unfold maxLen; omega) (by omega) (Nat.le_trans hsz2 HA4.out.size) ?_
           intro v5 w5 hown5 hg5 hne5
           have HO5 := mkH hown5
           have HG5 := mkH hg5
           have HN5 := mkH hne5
           clear hown5 hg5 hne5))
      rcases own_forms HO5.out with ⟨e5, _⟩ | ⟨g5, c5, e5, hg5, hl5, hc5, _⟩
      · exfalso
        have := (HN5.out.1 e5).2
        cases this
      · subst e5
        refine ⟨⟨k + 1, some ⟨g5, 0, none⟩, c5, vs ++ [.slice ra row.length rc], hlt, by go_num, rfl, by rw [List.length_append, HVS.out]; rfl, by simp, mkH ?_, mkH ?_, mkH ?_⟩, by simp [intOf]; omega⟩
        · exact HO5.out
        · intro j x r hx hr
          by_cases hj : j < vs.length
          · rw [List.getElem?_append_left hj] at hx
            exact E.ownsRow_other (E.ownsRow_up (HE2.out j x r hx hr) HA4.out) (E.ownsRow_up HO2.out HA4.out) (by decide) HG5.out
          · rw [List.getElem?_append_right (by omega)] at hx
            have hj' : j = vs.length := by
              have := lt_of_some hx
              simp at this
              omega
            subst hj'
            simp at hx
            subst hx
            have hr' := HT.out
            rw [← HVS.out, hr] at hr'
            injection hr' with hr'
            subst hr'
            exact E.ownsRow_other (E.ownsRow_up HS2.out HA4.out) (E.ownsRow_up HO2.out HA4.out) (by decide) HG5.out
        · exact (ups HB2.out HA4.out).grown HG5.out (Nat.le_trans hsz2 HA4.out.size) (fun j hj => own_blk HO2.out hj)
    · have hkn : ¬ (k : Int) < (parts.length : Int) := by omega
      have hke : k = parts.length := by omega
      have HK := mkH hke
      clear hke
      rcases own_forms HO.out with ⟨e5, _⟩ | ⟨g5, c5, e5, hg5, hl5, hc5, _⟩
      · injection e5 with e5
        exact absurd e5 hane
      · injection e5 with e5 _ e6
        subst e5 e6
        go_wp2
        go_ret
        have hk2 := HK.out
        have hT : (toldQ ps parts).length = parts.length := by simp [toldQ]
        refine ⟨g5, c, vs, by rw [hT, hk2]; rfl, by omega, by omega, hg5, ?_, fun j x r hx hr => E.Sl_of_owns (HE.out j x r hx hr), HB.out⟩
        rw [hT, ← hk2]
        exact own_at HO.out
end Go.Proofs.YtlnkbhbpkmnkaaaGreatDoor.F
