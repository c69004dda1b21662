/- What (file.File).Known does at a column that the file has, said of every such call. -/
import Derived.Test.YtodemklghajdeaaGreatDoorFZ6
namespace Go.Proofs.YtodemklghajdeaaGreatDoor
open Go.RowKit Go.Proofs Go.Shelf Go.Joins

set_option maxHeartbeats 4000000 in
set_option maxRecDepth 100000 in
theorem known_any (k p : Nat) (cv gv : Value) (cols : List Col) (gs : List Grp) (g : Grp) (st : S.St) (c1 : Int) (c2 : ByteArray) (c3 : Int) (c4 : Bool) (c5 c6 : Int) (c7 : ByteArray) (w : World) (hF : FilAt w cv gv (cols, gs)) (hk : gs[k]? = some g) (h1 : 1 ≤ cols.length) (h8 : cols.length ≤ 8) (hwh : wholeG cols g = true) (hp : posI cols c1 = p) (hst : g.2.1[p]? = some st) :
    Calls Tryz.prog 28 #[.agg #[cv, gv], .int .i64 k, .agg #[.int .i64 c1, .string c2, .int .i64 c3, .bool c4, .int .i64 c5, .int .i64 c6, .string c7]] w fun e w' => e = .returned (.agg (S.cellsS st)) ∧ Below w.heap.size w w' := by
  have HAT := mkH (fun W (hW : Below w.heap.size w W) => at_any k cv gv cols gs g W (hF.up hW).1 (hF.up hW).2 hk)
  have HFN := mkH (fun W (hW : Below w.heap.size w W) => find_any cv gv cols c1 c2 c3 c4 c5 c6 c7 W (hF.up hW).1 h1 h8)
  obtain ⟨ga, gc, rfl, _⟩ := hF.2.slice
  obtain ⟨ca, cc, rfl, _⟩ := hF.1.slice
  dsimp only at HAT HFN ⊢
  rw [hwh] at HAT
  rw [hp] at HFN
  clear hF hwh
  obtain ⟨s1, s2, ⟨k1, n1, t1⟩, ⟨k2, n2, t2⟩⟩ := st
  obtain ⟨hs3, hA, hB, hCC, hb3⟩ := three_new w (.cells #[.slice ca cols.length cc, .slice ga gs.length gc] 29) (.cells #[.int .i64 c1, .string c2, .int .i64 c3, .bool c4, .int .i64 c5, .int .i64 c6, .string c7] 47) (.cells #[.int .i64 0, .int .i64 0, .int .i64 0, .int .i64 0, .string ⟨#[]⟩, .int .i64 0, .int .i64 0, .string ⟨#[]⟩] 70)
  have HA := mkH hA
  have HB := mkH hB
  have HCC := mkH hCC
  have HB3 := mkH hb3
  have HS3 := mkH hs3
  have HST := mkH hst
  clear hA hB hCC hb3 hs3 hst
  go_enter Tryz.func28, Tryz.ntmps28
  go_wp2_with fail
  generalize ((w.alloc (.cells #[.slice ca cols.length cc, .slice ga gs.length gc] 29)).alloc (.cells #[.int .i64 c1, .string c2, .int .i64 c3, .bool c4, .int .i64 c5, .int .i64 c6, .string c7] 47)).alloc (.cells #[.int .i64 0, .int .i64 0, .int .i64 0, .int .i64 0, .string ⟨#[]⟩, .int .i64 0, .int .i64 0, .string ⟨#[]⟩] 70) = W3 at *
  refine (HAT.out W3 HB3.out).mono ?_
  rintro e w4 ⟨sv, bv, rfl, hsv, hbv, hb4⟩
  obtain ⟨sa, sc, rfl, _⟩ := hsv.slice
  obtain ⟨ba, bc, rfl, _⟩ := hbv.slice
  have hs3 := HS3.out
  have hbG : Below w4.heap.size w4 (w4.alloc (.cells #[.int .i64 g.1, .slice sa g.2.1.length sc, .slice ba g.2.2.length bc] 88)) := (Below.refl _ _).alloc (Nat.le_refl _) _
  have hb34 := ups hb4 hbG
  have hA := (hb34.block w.heap.size (by omega)).trans HA.out
  have hB := (hb34.block (w.heap.size + 1) (by omega)).trans HB.out
  have HC4 := mkH ((hb34.block (w.heap.size + 2) (by omega)).trans HCC.out)
  obtain ⟨f0, f1⟩ := row2 hA
  have x0 : (w4.alloc (.cells #[.int .i64 g.1, .slice sa g.2.1.length sc, .slice ba g.2.2.length bc] 88)).cell? ⟨w.heap.size + 1, 0, none⟩ = some (.int .i64 c1) := cell_blk hB rfl
  have x1 : (w4.alloc (.cells #[.int .i64 g.1, .slice sa g.2.1.length sc, .slice ba g.2.2.length bc] 88)).cell? ⟨w.heap.size + 1, 1, none⟩ = some (.string c2) := cell_blk hB rfl
  have x2 : (w4.alloc (.cells #[.int .i64 g.1, .slice sa g.2.1.length sc, .slice ba g.2.2.length bc] 88)).cell? ⟨w.heap.size + 1, 2, none⟩ = some (.int .i64 c3) := cell_blk hB rfl
  have x3 : (w4.alloc (.cells #[.int .i64 g.1, .slice sa g.2.1.length sc, .slice ba g.2.2.length bc] 88)).cell? ⟨w.heap.size + 1, 3, none⟩ = some (.bool c4) := cell_blk hB rfl
  have x4 : (w4.alloc (.cells #[.int .i64 g.1, .slice sa g.2.1.length sc, .slice ba g.2.2.length bc] 88)).cell? ⟨w.heap.size + 1, 4, none⟩ = some (.int .i64 c5) := cell_blk hB rfl
  have x5 : (w4.alloc (.cells #[.int .i64 g.1, .slice sa g.2.1.length sc, .slice ba g.2.2.length bc] 88)).cell? ⟨w.heap.size + 1, 5, none⟩ = some (.int .i64 c6) := cell_blk hB rfl
  have x6 : (w4.alloc (.cells #[.int .i64 g.1, .slice sa g.2.1.length sc, .slice ba g.2.2.length bc] 88)).cell? ⟨w.heap.size + 1, 6, none⟩ = some (.string c7) := cell_blk hB rfl
  have HGB := mkH (heap_alloc_new w4 (.cells #[.int .i64 g.1, .slice sa g.2.1.length sc, .slice ba g.2.2.length bc] 88))
  have HSV := mkH (hsv.up hb34)
  have HB4 := mkH (ups HB3.out hb34)
  have hs4 := hb34.size
  have hw4 : w4.heap.size < (w4.alloc (.cells #[.int .i64 g.1, .slice sa g.2.1.length sc, .slice ba g.2.2.length bc] 88)).heap.size := by simp
  clear hsv hbv hb4 hbG hb34 hA hB HA HB HCC
  go_wp2_with fail
  generalize w4.alloc (.cells #[.int .i64 g.1, .slice sa g.2.1.length sc, .slice ba g.2.2.length bc] 88) = W5 at *
  refine (HFN.out W5 HB4.out).mono ?_
  rintro e w6 ⟨rfl, hb6⟩
  have hpl := lt_of_some HST.out
  obtain ⟨sb, so, sc', es, _, _, hcell⟩ := (HSV.out.up hb6).cons (by omega)
  injection es with es1 _ es2
  subst es1 es2
  have y0 : w6.cell? ⟨sb, so + p * 8, none⟩ = some (.int .i64 s1) := hcell p _ HST.out 0 _ rfl
  have y1 : w6.cell? ⟨sb, so + p * 8 + 1, none⟩ = some (.int .i64 s2) := hcell p _ HST.out 1 _ rfl
  have y2 : w6.cell? ⟨sb, so + p * 8 + 2, none⟩ = some (.int .i64 k1) := hcell p _ HST.out 2 _ rfl
  have y3 : w6.cell? ⟨sb, so + p * 8 + 3, none⟩ = some (.int .i64 n1) := hcell p _ HST.out 3 _ rfl
  have y4 : w6.cell? ⟨sb, so + p * 8 + 4, none⟩ = some (.string t1) := hcell p _ HST.out 4 _ rfl
  have y5 : w6.cell? ⟨sb, so + p * 8 + 5, none⟩ = some (.int .i64 k2) := hcell p _ HST.out 5 _ rfl
  have y6 : w6.cell? ⟨sb, so + p * 8 + 6, none⟩ = some (.int .i64 n2) := hcell p _ HST.out 6 _ rfl
  have y7 : w6.cell? ⟨sb, so + p * 8 + 7, none⟩ = some (.string t2) := hcell p _ HST.out 7 _ rfl
  have hC6 := (hb6.block (w.heap.size + 2) (by omega)).trans HC4.out
  have hG6 := (hb6.block w4.heap.size hw4).trans HGB.out
  obtain ⟨_, g1, _⟩ := row3 hG6
  have hpi : (p : Int) < (g.2.1.length : Int) := by omega
  have r0 : w6.cell? ⟨w.heap.size + 2, 0, none⟩ = some (.int .i64 0) := cell_blk hC6 rfl
  have r1 : w6.cell? ⟨w.heap.size + 2, 1, none⟩ = some (.int .i64 0) := cell_blk hC6 rfl
  have r2 : w6.cell? ⟨w.heap.size + 2, 2, none⟩ = some (.int .i64 0) := cell_blk hC6 rfl
  have r3 : w6.cell? ⟨w.heap.size + 2, 3, none⟩ = some (.int .i64 0) := cell_blk hC6 rfl
  have r4 : w6.cell? ⟨w.heap.size + 2, 4, none⟩ = some (.string ⟨#[]⟩) := cell_blk hC6 rfl
  have r5 : w6.cell? ⟨w.heap.size + 2, 5, none⟩ = some (.int .i64 0) := cell_blk hC6 rfl
  have r6 : w6.cell? ⟨w.heap.size + 2, 6, none⟩ = some (.int .i64 0) := cell_blk hC6 rfl
  have r7 : w6.cell? ⟨w.heap.size + 2, 7, none⟩ = some (.string ⟨#[]⟩) := cell_blk hC6 rfl
  have z0 := frozen_of_row w6 (w.heap.size + 2) 0 _ _ hC6
  have z1 := frozen_of_row w6 (w.heap.size + 2) 1 _ _ hC6
  have z2 := frozen_of_row w6 (w.heap.size + 2) 2 _ _ hC6
  have z3 := frozen_of_row w6 (w.heap.size + 2) 3 _ _ hC6
  have z4 := frozen_of_row w6 (w.heap.size + 2) 4 _ _ hC6
  have z5 := frozen_of_row w6 (w.heap.size + 2) 5 _ _ hC6
  have z6 := frozen_of_row w6 (w.heap.size + 2) 6 _ _ hC6
  have z7 := frozen_of_row w6 (w.heap.size + 2) 7 _ _ hC6
  have HB6 := mkH (ups HB4.out hb6)
  clear hcell hC6 hG6 hb6 x0 x1 x2 x3 x4 x5 x6 f0 f1 hpl
  go_wp2
  refine bodyPost_ret (v := .agg #[.int .i64 s1, .int .i64 s2, .int .i64 k1, .int .i64 n1, .string t1, .int .i64 k2, .int .i64 n2, .string t2]) (by simp [results, Tryz.results28, go_sem, r0, r1, r2, r3, r4, r5, r6, r7]) rfl ⟨rfl, ?_⟩
  exact (((((((HB6.out.setCell (p := ⟨w.heap.size + 2, 0, none⟩) (Nat.le_add_right _ _) _).setCell (p := ⟨w.heap.size + 2, 1, none⟩) (Nat.le_add_right _ _) _).setCell (p := ⟨w.heap.size + 2, 2, none⟩) (Nat.le_add_right _ _) _).setCell (p := ⟨w.heap.size + 2, 3, none⟩) (Nat.le_add_right _ _) _).setCell (p := ⟨w.heap.size + 2, 4, none⟩) (Nat.le_add_right _ _) _).setCell (p := ⟨w.heap.size + 2, 5, none⟩) (Nat.le_add_right _ _) _).setCell (p := ⟨w.heap.size + 2, 6, none⟩) (Nat.le_add_right _ _) _).setCell (p := ⟨w.heap.size + 2, 7, none⟩) (Nat.le_add_right _ _) _
end Go.Proofs.YtodemklghajdeaaGreatDoor
