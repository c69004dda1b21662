/- What (File).values does, said of every call at a column that the file has. -/
import Derived.Test.YtodemklghajdeaaGreatDoorFW2
namespace Go.Proofs.YtodemklghajdeaaGreatDoor
open Go.RowKit Go.Proofs Go.Shelf Go.Joins

theorem three_new (w : World) (X Y Z : Obj) : (((w.alloc X).alloc Y).alloc Z).heap.size = w.heap.size + 3 ∧ (((w.alloc X).alloc Y).alloc Z).heap[w.heap.size]? = some X ∧ (((w.alloc X).alloc Y).alloc Z).heap[w.heap.size + 1]? = some Y ∧ (((w.alloc X).alloc Y).alloc Z).heap[w.heap.size + 2]? = some Z ∧ Below w.heap.size w (((w.alloc X).alloc Y).alloc Z) := by
  obtain ⟨h1, h2, h3, h4⟩ := two_new w X Y
  refine ⟨by simp, ?_, ?_, ?_, b3 w X Y Z⟩
  · exact (Below.heap_alloc _ _ _ (by omega)).trans h2
  · exact (Below.heap_alloc _ _ _ (by omega)).trans h3
  · have := heap_alloc_new ((w.alloc X).alloc Y) Z
    rwa [h1] at this
theorem posI_of {cols : List Col} {id : Int} (h : pos cols id < cols.length) : posI cols id = (pos cols id : Int) := by unfold posI; rw [if_pos h]
theorem cell_up {w W : World} (hb : Below w.heap.size w W) {b o : Nat} {v : Value} (h : w.cell? ⟨b, o, none⟩ = some v) : W.cell? ⟨b, o, none⟩ = some v := (hb.cell (p := ⟨b, o, none⟩) (World.block_lt_of_cell? w ⟨b, o, none⟩ h)).trans h

set_option maxHeartbeats 2000000 in
set_option maxRecDepth 100000 in
theorem values_any (cv : Value) (ga : Option Addr) (gn gc : Nat) (cols : List Col) (n : Nat) (sa : Option Addr) (sn sc : Nat) (bv : Value) (bs : List (List UInt8)) (c1 : Int) (c2 : ByteArray) (c3 : Int) (c4 : Bool) (c5 c6 : Int) (c7 : ByteArray) (w : World)
    (hc : SlE 7 C.encC w cv cols) (hbv : SlE 1 encT w bv bs) (h1 : 1 ≤ cols.length) (h8 : cols.length ≤ 8) (hbl : bs.length = cols.length) (hp : pos cols c1 < cols.length) (hsz : ∀ b ∈ bs, b.length ≤ 1000000) :
    Calls Tryz.prog 53 #[.agg #[cv, .slice ga gn gc], .agg #[.int .i64 n, .slice sa sn sc, bv], .agg #[.int .i64 c1, .string c2, .int .i64 c3, .bool c4, .int .i64 c5, .int .i64 c6, .string c7]] w
      fun e w' => ∃ v', e = .returned v' ∧ w'.ownsRow w.heap.size 45 3 v' ((E.decR (kd (cols[pos cols c1]?.getD zC)) (bs[pos cols c1]?.getD [])).getD []).length (E.flatV ((E.decR (kd (cols[pos cols c1]?.getD zC)) (bs[pos cols c1]?.getD [])).getD [])) ∧ Below w.heap.size w w' := by
  have HF := mkH (fun W hW => find_any cv (.slice ga gn gc) cols c1 c2 c3 c4 c5 c6 c7 W (hc.up hW) h1 h8)
  rw [posI_of hp] at HF
  generalize pos cols c1 = p at *
  obtain ⟨g, o, cc, rfl, hcc, hgb, hcell⟩ := hc.cons (by omega)
  obtain ⟨b2, off2, bc, rfl, hbc, hb2, hbcell⟩ := hbv.cons (by omega)
  obtain ⟨⟨k1, k2, k3, k4, k5, k6, k7⟩, hk⟩ : ∃ x, cols[p]? = some x := ⟨_, List.getElem?_eq_getElem hp⟩
  obtain ⟨bb, hbb⟩ : ∃ x, bs[p]? = some x := ⟨_, List.getElem?_eq_getElem (by omega)⟩
  obtain ⟨_, _, u2, _, _, _, _⟩ := cells7 hcell hk
  have u3 := hbcell p bb hbb 0 _ rfl
  rw [Nat.mul_one, Nat.add_zero] at u3
  rw [hk, hbb]
  simp only [Option.getD_some]
  have hbs := hsz bb (List.mem_of_getElem? hbb)
  have HD := mkH (fun W => E.decode_own k3 (E.str bb) W (by rw [E.str_size]; exact hbs))
  rw [E.str_toList] at HD
  have ek : kd (k1, k2, k3, k4, k5, k6, k7) = k3 := rfl
  rw [ek]
  obtain ⟨hs3, hX, hY, hZ, hB⟩ := three_new w (.cells #[.slice (some ⟨g, o, none⟩) cols.length cc, .slice ga gn gc] 29) (.cells #[.int .i64 n, .slice sa sn sc, .slice (some ⟨b2, off2, none⟩) bs.length bc] 88) (.cells #[.int .i64 c1, .string c2, .int .i64 c3, .bool c4, .int .i64 c5, .int .i64 c6, .string c7] 47)
  have HF3 := mkH (HF.out _ hB)
  have r0 := (row2 hX).1
  have y2 := (row3 hY).2.2.1
  have HU : Hid (∀ W, Below (((w.alloc (.cells #[.slice (some ⟨g, o, none⟩) cols.length cc, .slice ga gn gc] 29)).alloc (.cells #[.int .i64 n, .slice sa sn sc, .slice (some ⟨b2, off2, none⟩) bs.length bc] 88)).alloc (.cells #[.int .i64 c1, .string c2, .int .i64 c3, .bool c4, .int .i64 c5, .int .i64 c6, .string c7] 47)).heap.size (((w.alloc (.cells #[.slice (some ⟨g, o, none⟩) cols.length cc, .slice ga gn gc] 29)).alloc (.cells #[.int .i64 n, .slice sa sn sc, .slice (some ⟨b2, off2, none⟩) bs.length bc] 88)).alloc (.cells #[.int .i64 c1, .string c2, .int .i64 c3, .bool c4, .int .i64 c5, .int .i64 c6, .string c7] 47)) W → W.cell? ⟨w.heap.size, 0, none⟩ = some (.slice (some ⟨g, o, none⟩) cols.length cc) ∧ W.cell? ⟨g, o + p * 7 + 2, none⟩ = some (.int .i64 k3) ∧ W.cell? ⟨w.heap.size + 1, 2, none⟩ = some (.slice (some ⟨b2, off2, none⟩) bs.length bc) ∧ W.cell? ⟨b2, off2 + p, none⟩ = some (.string (E.str bb))) := mkH (fun W hW =>
    ⟨cell_up hW r0, cell_up hW (cell_up hB u2), cell_up hW y2, cell_up hW (cell_up hB u3)⟩)
  have HB := mkH hB
  have hpc : (p : Int) < (cols.length : Int) := by omega
  have hpb : (p : Int) < (bs.length : Int) := by omega
  have hp0 : (0 : Int) ≤ (p : Int) := by omega
  have hpn : ¬ (p : Int) < 0 := by omega
  clear hX hY hZ hB r0 y2 u2 u3 hcell hbcell hk hbb hsz hs3 HF hc hbv hbl
  generalize E.str bb = sb at *
  cases hd : E.decR k3 bb with
  | none =>
    rw [hd] at HD
    go_enter Tryz.func53, Tryz.ntmps53
    go_wp2_with fail
    refine HF3.out.mono ?_
    rintro e w1 ⟨rfl, hb1⟩
    obtain ⟨q0, q1, q2, q3⟩ := HU.out w1 hb1
    go_wp2_with fail
    go_region_held3 (fun w' => w'.cell? ⟨w.heap.size, 0, none⟩ = some (.slice (some ⟨g, o, none⟩) cols.length cc) ∧ w'.cell? ⟨g, o + p * 7 + 2, none⟩ = some (.int .i64 k3) ∧ w'.cell? ⟨w.heap.size + 1, 2, none⟩ = some (.slice (some ⟨b2, off2, none⟩) bs.length bc) ∧ w'.cell? ⟨b2, off2 + p, none⟩ = some (.string sb))
      (first | (go_keep; done) | exact HU.out _ (ups hb1.drew hb2) | fail)
      (first | (go_at_call 77; refine (HD.out _).mono ?_; rintro e w2 ⟨rfl, hb2⟩) | fail)
    go_wp2
    go_ret
    exact ⟨_, rfl, World.ownsRow_nil _ _ _ _, ups (ups HB.out hb1.drew) hb2⟩
  | some L =>
    rw [hd] at HD
    go_enter Tryz.func53, Tryz.ntmps53
    go_wp2_with fail
    refine HF3.out.mono ?_
    rintro e w1 ⟨rfl, hb1⟩
    obtain ⟨q0, q1, q2, q3⟩ := HU.out w1 hb1
    go_wp2_with fail
    go_region_held3 (fun w' => w'.cell? ⟨w.heap.size, 0, none⟩ = some (.slice (some ⟨g, o, none⟩) cols.length cc) ∧ w'.cell? ⟨g, o + p * 7 + 2, none⟩ = some (.int .i64 k3) ∧ w'.cell? ⟨w.heap.size + 1, 2, none⟩ = some (.slice (some ⟨b2, off2, none⟩) bs.length bc) ∧ w'.cell? ⟨b2, off2 + p, none⟩ = some (.string sb))
      (first | (go_keep; done) | exact HU.out _ (ups hb1.drew hb2) | fail)
      (first | (go_at_call 77; refine (HD.out _).mono ?_; rintro e w2 ⟨v2, rfl, hS2, hb2⟩) | fail)
    go_wp2
    go_ret
    exact ⟨_, rfl, E.ownsRow_base hS2 (ups HB.out hb1.drew).size, ups (ups HB.out hb1.drew) hb2⟩
end Go.Proofs.YtodemklghajdeaaGreatDoor
