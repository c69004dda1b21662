/- What file.appendGroup does, said of every call. -/
import Derived.Test.YtodemklghajdeaaGreatDoorFW6
namespace Go.Proofs.YtodemklghajdeaaGreatDoor
open Go.RowKit Go.Proofs Go.Shelf Go.Joins

theorem str_size (b : List UInt8) : (E.str b).size = b.length := by simp [E.str, ByteArray.size]
theorem strCells_str (b : List UInt8) : Lib.strCells (E.str b) = Lib.byteCells b := by rw [E.strCells_bytes]; simp [E.str]
def cellsTo (g : Grp) (k : Nat) : List UInt8 := Lib.uvarint g.1 ++ (g.2.2.take k).flatMap cellBytes
theorem cellsTo_all (g : Grp) : cellsTo g g.2.2.length = groupBytes g := by unfold cellsTo groupBytes; rw [List.take_length]
theorem cellsTo_next {g : Grp} {k : Nat} {b : List UInt8} (h : g.2.2[k]? = some b) : cellsTo g (k + 1) = (cellsTo g k ++ Lib.uvarint b.length) ++ b := by
  unfold cellsTo
  rw [E.take_next h]
  simp [cellBytes]
theorem cellsTo_len {g : Grp} (hr : g.1 ≤ 6) (hsz : ∀ b ∈ g.2.2, b.length ≤ 1000000) (k : Nat) : (cellsTo g k).length ≤ 10 + k * 1000010 := by
  unfold cellsTo
  have h1 : (Lib.uvarint g.1).length ≤ 10 := Lib.uvarint_length64 (by omega)
  have h2 := flat_len cellBytes 1000010 (l := g.2.2.take k) (fun b hb => by
    have hb' := hsz b (List.mem_of_mem_take hb)
    have h3 : (Lib.uvarint b.length).length ≤ 10 := Lib.uvarint_length64 (by omega)
    simp only [cellBytes, List.length_append]; omega)
  have h4 : (g.2.2.take k).length ≤ k := by rw [List.length_take]; omega
  have h5 := Nat.mul_le_mul_right 1000010 h4
  rw [List.length_append]; omega

set_option maxHeartbeats 1000000 in
set_option maxRecDepth 100000 in
theorem appendGroup_any (B n : Nat) (bv : Value) (xs : List Value) (g : Grp) (sa : Option Addr) (sn sc : Nat) (tv : Value) (w0 w : World) (hown : w.ownsRow B 5 1 bv n xs) (h0B : w0.heap.size ≤ B) (hBw : B ≤ w.heap.size) (hb0 : Below w0.heap.size w0 w) (hg : SlE 1 encT w0 tv g.2.2) (hr : g.1 ≤ 6) (hbs : g.2.2.length ≤ 8) (hsz : ∀ b ∈ g.2.2, b.length ≤ 1000000) (hn : n ≤ 1000000000) :
    Calls Tryz.prog 36 #[bv, .agg #[.int .i64 g.1, .slice sa sn sc, tv]] w fun e w' => ∃ v', e = .returned v' ∧ w'.ownsRow B 5 1 v' (n + (groupBytes g).length) (xs ++ Lib.byteCells (groupBytes g)) ∧ E.Wr B w w' := by
  obtain ⟨i0, hi, hz0, hz1, hz2⟩ := info_parts E.info5
  have HI := mkH (And.intro hi (And.intro hz0 (And.intro hz1 hz2)))
  clear hi hz0 hz1 hz2
  have HO := mkH hown
  have HG := mkH hg
  have HSZ := mkH hsz
  obtain ⟨ta, tc, rfl, _⟩ := hg.slice
  have HA : Hid (Calls Tryz.prog 35 #[bv, .int .u64 g.1] (w.alloc (.cells #[.int .i64 g.1, .slice sa sn sc, .slice ta g.2.2.length tc] 88)) fun e w' => ∃ v', e = .returned v' ∧ w'.ownsRow B 5 1 v' (n + (cellsTo g 0).length) (xs ++ Lib.byteCells (cellsTo g 0)) ∧ E.Wr B w w' ∧ w'.heap[w.heap.size]? = some (.cells #[.int .i64 g.1, .slice sa sn sc, .slice ta g.2.2.length tc] 88)) := mkH (by
    rw [show cellsTo g 0 = Lib.uvarint g.1 by simp [cellsTo]]
    exact (E.append_any B n g.1 (by omega) bv xs _ (hown.alloc _) (by simp; omega) (by omega)).mono fun e w' ⟨v', he, h2, h3⟩ => ⟨v', he, h2, ((E.Wr.refl B w).alloc hBw _).trans h3, E.cell_of_wr h3 (heap_alloc_new _ _) (by decide)⟩)
  have HLEN := mkH (cellsTo_len hr hsz)
  have HN := mkH hn
  clear hown hg hsz hn
  generalize hgl : g.2.2.length = m at *
  have HGL := mkH hgl
  clear hgl
  go_enter Tryz.func36, Tryz.ntmps36
  go_wp2_with fail
  refine HA.out.mono ?_
  rintro e w1 ⟨v1, rfl, ho1, hw1, hblk1⟩
  obtain ⟨b0, b1, b2, _⟩ := row3 hblk1
  obtain ⟨va, vc, rfl, _⟩ := E.ownsRow_slice ho1
  have HO1 := mkH ho1
  have HW1 := mkH hw1
  have HB1 := mkH hblk1
  clear ho1 hw1 hblk1
  go_wp2
  go_loopw [0, 15] (fun vb vi wr => ∃ k : Nat, k ≤ m ∧ vi = .int .i64 k ∧ Hid (wr.ownsRow B 5 1 vb (n + (cellsTo g k).length) (xs ++ Lib.byteCells (cellsTo g k))) ∧ Hid (E.Wr B w wr)) (fun _ vi _ => m - (intOf vi).toNat)
  case atStart => exact ⟨0, Nat.zero_le _, rfl, HO1, HW1⟩
  case round =>
    obtain ⟨k, hk, rfl, ho, hw⟩ := hrel
    obtain ⟨ca, cc, rfl, _⟩ := E.ownsRow_slice ho.out
    have hszr := hw.out.1.size
    by_cases hlt : k < m
    · have hgl := HGL.out
      obtain ⟨b, hb⟩ : ∃ b, g.2.2[k]? = some b := ⟨_, List.getElem?_eq_getElem (by omega)⟩
      have hbs1 : (E.str b).size ≤ 1000000 := by rw [str_size]; exact HSZ.out b (List.mem_of_getElem? hb)
      obtain ⟨tb, to, tc', et, _, _, hcell⟩ := (HG.out.up (hb0.trans (hw.out.1.mono h0B))).cons (by omega)
      injection et with et1 em et2
      clear em
      subst et1 et2
      have q0 : wr.cell? ⟨tb, to + k, none⟩ = some (.string (E.str b)) := by have := hcell k b hb 0 _ rfl; simpa using this
      have hkm : (k : Int) < (m : Int) := by omega
      have hlk := HLEN.out k
      have hlk8 : (cellsTo g k).length ≤ 9000000 := by have : k * 1000010 ≤ 8 * 1000010 := Nat.mul_le_mul_right _ (by omega); omega
      have hnb := HN.out
      have HA2 : Hid (Calls Tryz.prog 35 #[.slice ca (n + (cellsTo g k).length) cc, .int .u64 (E.str b).size] wr _) := mkH (E.append_any B (n + (cellsTo g k).length) (E.str b).size (by omega) _ _ wr ho.out (by omega) (by omega))
      have hul : (Lib.uvarint (E.str b).size).length ≤ 10 := Lib.uvarint_length64 (by omega)
      have HNX : Hid (cellsTo g (k + 1) = (cellsTo g k ++ Lib.uvarint (E.str b).size) ++ b) := mkH (by rw [cellsTo_next hb, str_size])
      clear hcell hlk hb hgl
      have HUL := mkH hul
      have HNB := mkH hnb
      have HLK := mkH hlk8
      clear hul hnb hlk8
      go_wp2_with fail
      refine HA2.out.mono ?_
      rintro e w2 ⟨v2, rfl, ho2, hw2⟩
      obtain ⟨c2, d2, rfl, _⟩ := E.ownsRow_slice ho2
      have hsz2 := hw2.1.size
      go_wp2_with (at_builtin; refine Lib.wpList_append_own_string _ rfl _ _ 82 9 rfl B 5 i0 Tryz.underlying82 Tryz.underlying9 HI.out.1 HI.out.2.1 HI.out.2.2.1 HI.out.2.2.2 _ _ _ rfl ho2 _ rfl ?d1 ?d2 ?d3 ?_)
      case d1 => have := HUL.out; have := HNB.out; have := HLK.out; unfold maxLen; omega
      case d2 => have := HUL.out; have := HNB.out; have := HLK.out; omega
      case d3 => omega
      intro v3 w3 ho3 hg3 _
      have hw3 := E.Wr.grown (hw.out.trans hw2) ho2 hg3 (by omega)
      obtain ⟨c3, d3, rfl, _⟩ := E.ownsRow_slice ho3
      have HO3 : Hid (w3.ownsRow B 5 1 (.slice c3 (n + (cellsTo g k).length + (Lib.uvarint (E.str b).size).length + (E.str b).size) d3) (n + (cellsTo g (k + 1)).length) (xs ++ Lib.byteCells (cellsTo g (k + 1)))) := mkH (by
        rw [HNX.out, E.byteCells_app, E.byteCells_app]
        rw [strCells_str] at ho3
        simpa [Nat.add_assoc, str_size] using ho3)
      clear ho3
      go_wp2
      exact ⟨⟨k + 1, by omega, by go_num, HO3, mkH hw3⟩, by simp [intOf]; omega⟩
    · have hkm : ¬ (k : Int) < (m : Int) := by omega
      have ek : k = m := by omega
      have HO3 : Hid (wr.ownsRow B 5 1 (.slice ca (n + (cellsTo g k).length) cc) (n + (groupBytes g).length) (xs ++ Lib.byteCells (groupBytes g))) := mkH (by
        have h := ho.out
        rw [show k = g.2.2.length by rw [HGL.out]; exact ek, cellsTo_all] at h ⊢
        exact h)
      clear ek
      go_wp2
      go_ret
      exact ⟨_, rfl, HO3.out, hw.out⟩
end Go.Proofs.YtodemklghajdeaaGreatDoor
