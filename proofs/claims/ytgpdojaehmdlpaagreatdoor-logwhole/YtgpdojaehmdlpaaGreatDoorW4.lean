/- How columns lie in memory; what schema.Find, slices.Clone and slices.Equal at columns do, said of every call. -/
import Derived.Test.YtgpdojaehmdlpaaGreatDoorW3
import Derived.Test.YtgpdojaehmdlpaaGreatDoorShelfG
import Derived.Laws.StructEq
import Derived.Laws.OwnMore
import Derived.OwnWalk
import Derived.Lib.SmallJoins
namespace Go.Proofs.YtgpdojaehmdlpaaGreatDoor
open Go.RowKit Go.Proofs Go.Lib Go.Joins

/-- Columns l lie from cell o of block g on. -/
def SlC (W : World) (g o : Nat) (l : List Col) : Prop := g < W.heap.size ∧ ∀ j, j < l.length → ∀ i v, (encC l[j]!)[i]? = some v → W.cell? ⟨g, o + j * 7 + i, none⟩ = some v
theorem SlC.below {w W : World} {g o : Nat} {l : List Col} (h : SlC w g o l) (hb : Below w.heap.size w W) : SlC W g o l :=
  ⟨Nat.lt_of_lt_of_le h.1 hb.size, fun j hj i v hi => (hb.cell (p := ⟨g, o + j * 7 + i, none⟩) h.1).trans (h.2 j hj i v hi)⟩
theorem SlC.take {w : World} {g o : Nat} {l : List Col} (h : SlC w g o l) (n : Nat) : SlC w g o (l.take n) :=
  ⟨h.1, fun j hj i v hi => by
    have hj' : j < n ∧ j < l.length := by simpa [Nat.lt_min] using hj
    rw [Lib.getElem!_take _ _ _ hj'.1] at hi
    exact h.2 j hj'.2 i v hi⟩
theorem SlC.drop {w : World} {g o : Nat} {l : List Col} (h : SlC w g o l) (n : Nat) : SlC w g (o + n * 7) (l.drop n) :=
  ⟨h.1, fun j hj i v hi => by
    have hj' : n + j < l.length := by simp at hj; omega
    have e : (l.drop n)[j]! = l[n + j]! := by simp [List.getElem!_eq_getElem?_getD]
    rw [e] at hi
    have := h.2 (n + j) hj' i v hi
    rwa [show o + (n + j) * 7 + i = o + n * 7 + j * 7 + i by omega] at this⟩
theorem SlC.flat {w : World} {g o : Nat} {l : List Col} (h : SlC w g o l) : ∀ j u, (cellsC l)[j]? = some u → w.cell? ⟨g, o + j, none⟩ = some u := by
  intro j u hj
  have hl : j < l.length * 7 := by
    rcases Nat.lt_or_ge j (l.length * 7) with h' | h'
    · exact h'
    · rw [List.getElem?_eq_none (by rw [cellsC_len]; exact h')] at hj; cases hj
  have e : j = j / 7 * 7 + j % 7 := by omega
  rw [e, cellsC_at l (j / 7) (j % 7) (by omega) (by omega)] at hj
  have := h.2 (j / 7) (by omega) (j % 7) u hj
  rwa [show o + j / 7 * 7 + j % 7 = o + j by omega] at this
theorem SlC.of_own {w : World} {base g n cap : Nat} {l : List Col} (h : w.ownsRow base 80 7 (.slice (some ⟨g, 0, none⟩) n cap) n (cellsC l)) (hn : n = l.length) : SlC w g 0 l := by
  refine ⟨(h.lt g rfl).2, fun j hj i v hi => ?_⟩
  have hi7 : i < 7 := by
    rcases Nat.lt_or_ge i 7 with h' | h'
    · exact h'
    · rw [List.getElem?_eq_none (by rw [encC_len]; exact h')] at hi; cases hi
  have := h.cellAt (j * 7 + i) (by subst hn; omega)
  rw [cellsC_at l j i hj hi7, hi] at this
  rw [show 0 + j * 7 + i = j * 7 + i by omega]
  exact this

def zeroC : Value := .agg #[.int .i64 0, .string ⟨#[]⟩, .int .i64 0, .bool false, .int .i64 0, .int .i64 0, .string ⟨#[]⟩]
theorem info54 : (Tryz.prog.info? 80).map (fun i => (i.zero, i.size, i.bytes)) = some (some zeroC, 7, 72) := by kernel_rfl

theorem clone_any (g o c : Nat) (l : List Col) (w : World) (h : SlC w g o l) (hl : l.length ≤ 100) :
    Calls Tryz.prog 65 #[.slice (some ⟨g, o, none⟩) l.length c] w fun e w' => ∃ g' c', e = .returned (.slice (some ⟨g', 0, none⟩) l.length c') ∧ w'.ownsRow w.heap.size 80 7 (.slice (some ⟨g', 0, none⟩) l.length c') l.length (cellsC l) ∧ Below w.heap.size w w' := by
  obtain ⟨i0, hi0, hz0, hz1, hz2⟩ := info_parts info54
  refine (AnyE.slices_Clone Tryz.layClo i0 zeroC 7 72 hi0 hz0 hz1 hz2 rfl (by decide) Tryz.sizeOf80 g o l.length c (cellsC l) w (cellsC_len l) (by unfold maxLen; omega) (by omega) h.flat (cellsC_one l)).mono ?_
  rintro e w' ⟨v', rfl, hown, hne, hb⟩
  rcases ownsRow_forms hown with ⟨e1, _⟩ | ⟨g', c', e1⟩
  · exact (hne e1).elim
  · subst e1
    exact ⟨g', c', rfl, hown, hb⟩

end Go.Proofs.YtgpdojaehmdlpaaGreatDoor
