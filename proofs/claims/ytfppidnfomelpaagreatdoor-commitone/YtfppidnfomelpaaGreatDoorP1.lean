/- What strings.Builder's WriteString and String, slices.Sort at numbers do at this program, by the library's contracts. -/
import Derived.Test.YtfppidnfomelpaaGreatDoorShelfS
import Derived.Test.YtfppidnfomelpaaGreatDoorA4
import Derived.Lib.RowBridge
import Derived.Lib.AppendIntMem
namespace Go.Proofs.YtfppidnfomelpaaGreatDoor
open Go.RowKit Go.Proofs Go.Lib Go.Joins Go.Sort

theorem writeString_any (B b : Nat) (bs : List Value) (s : ByteArray) (w : World) (h : Lib.IsBuilder 77 5 B b bs w) (hlen : bs.length + s.size ≤ 140737488355328) (hBw : B ≤ w.heap.size) :
    Calls Tryz.prog 23 #[.pointer (some ⟨b, 0, none⟩), .string s] w fun e w' => e = .returned (.tuple #[.int .i64 s.size, .nilIface]) ∧ (Lib.BuilderAt 77 5 B b (.pointer (some ⟨b, 0, none⟩)) (bs ++ Lib.strCells s) w' ∧ Below B w w') :=
  Any.Builder_WriteString (ρ := Tryz.lays156_ren) { Tryz.lays156 with } Tryz.Builder_Extra_156 B b bs s w h hlen hBw

theorem sort_own (base g cap : Nat) (l : List Int) (w : World) (h : w.ownsRow base 3 1 (.slice (some ⟨g, 0, none⟩) l.length cap) l.length (l.map (.int .i64))) (hn : l.length ≤ 700000) :
    Calls Tryz.prog 106 #[.slice (some ⟨g, 0, none⟩) l.length cap] w fun e w' => e = .returned (.tuple #[]) ∧ w'.ownsRow base 3 1 (.slice (some ⟨g, 0, none⟩) l.length cap) l.length ((sortR l).map (.int .i64)) ∧ w.grownBy w' (some g) := by
  have hH : Holds (Value.int .i64) w g 0 l.toArray := fun j hj => by
    have hj' : j < l.length := by simpa using hj
    refine ⟨?_, h.frozenAt _⟩
    rw [Nat.zero_add, h.cellAt j (by omega), List.getElem?_map, List.getElem?_eq_getElem hj']
    simp [hj']
  have hlt : g < w.heap.size := (h.lt g rfl).2
  refine (Tryz.slices_Sort_int g 0 cap l w hH hlt (by omega)).mono ?_
  rintro e w' ⟨rfl, q, os, rfl⟩
  refine ⟨rfl, ?_⟩
  have hp := putRow_eq_setCells (Value.int .i64) w g 0 l.toArray (sortR l) q hH (by rw [sortR_len]; simp)
  have hq : (w.drewN q).ownsRow base 3 1 (.slice (some ⟨g, 0, none⟩) l.length cap) l.length (l.map (.int .i64)) := own_up h (below_drewN' (Below.refl _ _) q)
  obtain ⟨xs', g1, g2, g3⟩ := owns_over ((sortR l).map (Value.int .i64)) 0 (w.drewN q) _ hq (by simp [sortR_len])
  have e : xs' = (sortR l).map (Value.int .i64) := by
    have h1 := g1.1
    rw [List.take_of_length_le (by simp [sortR_len, h1])] at g2
    simpa using g2
  have hB : Below w.heap.size w (w.drewN q) := below_drewN' (Below.refl _ _) q
  unfold sortR at hp
  rw [hp]
  unfold sortR at g1 g3 e
  rw [e] at g1
  have hs : w.heap.size ≤ ((w.drewN q).setCells g 0 ((l.mergeSort fun x y => decide (x ≤ y)).map (Value.int .i64))).heap.size := Nat.le_trans hB.size g3.size
  refine ⟨?_, ?_⟩
  · exact own_up g1 (below_grow _ _ (Nat.le_refl _) 0 os)
  · have hG := below_grow _ ((w.drewN q).setCells g 0 ((l.mergeSort fun x y => decide (x ≤ y)).map (Value.int .i64))) (Nat.le_refl _) 0 os
    exact ⟨hG.os.trans (g3.os.trans hB.os), hG.tape.trans (g3.tape.trans hB.tape), hG.output.trans (g3.output.trans hB.output), Nat.le_trans hs hG.size, fun k hk hne => (hG.block k (by omega)).trans ((g3.block k (Nat.lt_of_lt_of_le hk hB.size) hne).trans (hB.block k hk))⟩
end Go.Proofs.YtfppidnfomelpaaGreatDoor
