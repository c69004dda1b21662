/- What schema.alike and schema.Right do, said of every call. -/
import Derived.Test.YtfppidnfomelpaaGreatDoorW3
import Derived.Test.YtfppidnfomelpaaGreatDoorShelfG
import Derived.Laws.StructEq
import Derived.Laws.OwnMore
import Derived.OwnWalk
import Derived.Lib.SmallJoins
import Derived.Lib.QuietBelow
namespace Go.Proofs.YtfppidnfomelpaaGreatDoor
open Go.RowKit Go.Proofs Go.Lib Go.Joins

/-- Columns l lie from cell o of block g on. -/
def SlC (W : World) (g o : Nat) (l : List Col) : Prop := g < W.heap.size ∧ ∀ j, j < l.length → ∀ i v, (encC l[j]!)[i]? = some v → W.cell? ⟨g, o + j * 7 + i, none⟩ = some v
theorem SlC.below {w W : World} {g o : Nat} {l : List Col} (h : SlC w g o l) (hb : Below w.heap.size w W) : SlC W g o l :=
  ⟨Nat.lt_of_lt_of_le h.1 hb.size, fun j hj i v hi => (hb.cell (p := ⟨g, o + j * 7 + i, none⟩) h.1).trans (h.2 j hj i v hi)⟩
theorem SlC.take {w : World} {g o : Nat} {l : List Col} (h : SlC w g o l) (n : Nat) : SlC w g o (l.take n) :=
  ⟨h.1, fun j hj i v hi => by
    have hj' : j < n ∧ j < l.length := by simpa [Nat.lt_min] using hj
    rw [Lib.getElem!_take _ _ _ hj'.1] at hi
    exact h.2 j hj'.2 i v hi⟩
theorem SlC.drop {w : World} {g o : Nat} {l : List Col} (h : SlC w g o l) (n : Nat) : SlC w g (o + n * 7) (l.drop n) :=
  ⟨h.1, fun j hj i v hi => by
    have hj' : n + j < l.length := by simp at hj; omega
    have e : (l.drop n)[j]! = l[n + j]! := by simp [List.getElem!_eq_getElem?_getD]
    rw [e] at hi
    have := h.2 (n + j) hj' i v hi
    rwa [show o + (n + j) * 7 + i = o + n * 7 + j * 7 + i by omega] at this⟩
theorem SlC.flat {w : World} {g o : Nat} {l : List Col} (h : SlC w g o l) : ∀ j u, (cellsC l)[j]? = some u → w.cell? ⟨g, o + j, none⟩ = some u := by
  intro j u hj
  have hl : j < l.length * 7 := by
    rcases Nat.lt_or_ge j (l.length * 7) with h' | h'
    · exact h'
    · rw [List.getElem?_eq_none (by rw [cellsC_len]; exact h')] at hj; cases hj
  have e : j = j / 7 * 7 + j % 7 := by omega
  rw [e, cellsC_at l (j / 7) (j % 7) (by omega) (by omega)] at hj
  have := h.2 (j / 7) (by omega) (j % 7) u hj
  rwa [show o + j / 7 * 7 + j % 7 = o + j by omega] at this
theorem SlC.of_own {w : World} {base g n cap : Nat} {l : List Col} (h : w.ownsRow base 67 7 (.slice (some ⟨g, 0, none⟩) n cap) n (cellsC l)) (hn : n = l.length) : SlC w g 0 l := by
  refine ⟨(h.lt g rfl).2, fun j hj i v hi => ?_⟩
  have hi7 : i < 7 := by
    rcases Nat.lt_or_ge i 7 with h' | h'
    · exact h'
    · rw [List.getElem?_eq_none (by rw [encC_len]; exact h')] at hi; cases hi
  have := h.cellAt (j * 7 + i) (by subst hn; omega)
  rw [cellsC_at l j i hj hi7, hi] at this
  rw [show 0 + j * 7 + i = j * 7 + i by omega]
  exact this

def zeroC : Value := .agg #[.int .i64 0, .string ⟨#[]⟩, .int .i64 0, .bool false, .int .i64 0, .int .i64 0, .string ⟨#[]⟩]
theorem info54 : (Tryz.prog.info? 67).map (fun i => (i.zero, i.size, i.bytes)) = some (some zeroC, 7, 72) := by kernel_rfl

theorem clone_any (g o c : Nat) (l : List Col) (w : World) (h : SlC w g o l) (hl : l.length ≤ 100) :
    Calls Tryz.prog 70 #[.slice (some ⟨g, o, none⟩) l.length c] w fun e w' => ∃ g' c', e = .returned (.slice (some ⟨g', 0, none⟩) l.length c') ∧ w'.ownsRow w.heap.size 67 7 (.slice (some ⟨g', 0, none⟩) l.length c') l.length (cellsC l) ∧ Below w.heap.size w w' := by
  obtain ⟨i0, hi0, hz0, hz1, hz2⟩ := info_parts info54
  refine (AnyE.slices_Clone Tryz.layClo i0 zeroC 7 72 hi0 hz0 hz1 hz2 rfl (by decide) Tryz.sizeOf67 g o l.length c (cellsC l) w (cellsC_len l) (by unfold maxLen; omega) (by omega) h.flat (cellsC_one l)).mono ?_
  rintro e w' ⟨v', rfl, hown, hne, hb⟩
  rcases ownsRow_forms hown with ⟨e1, _⟩ | ⟨g', c', e1⟩
  · exact (hne e1).elim
  · subst e1
    exact ⟨g', c', rfl, hown, hb⟩

end Go.Proofs.YtfppidnfomelpaaGreatDoor

namespace Go.Proofs.YtfppidnfomelpaaGreatDoor
open Go.RowKit Go.Proofs Go.Lib Go.Joins
open Go.Sort (grow)

def alikeB (x c : Col) : Bool := c.1 == x.1 || c.2.1.toList == x.2.1.toList

theorem alikeF_any (x : Col) (B : Nat) (w : World) (hB : B < w.heap.size) (h0 : w.cell? ⟨B, 0, none⟩ = some (.int .i64 x.1)) (h1 : w.cell? ⟨B, 1, none⟩ = some (.string x.2.1)) :
    PredBelow Tryz.prog 118 #[.pointer (some ⟨B, 0, none⟩)] (fun x : Col => .agg (encC x).toArray) (alikeB x) w := fun W c hb => by
  have h0' : W.cell? ⟨B, 0, none⟩ = some (.int .i64 x.1) := (hb.cell (p := ⟨B, 0, none⟩) hB).trans h0
  have h1' : W.cell? ⟨B, 1, none⟩ = some (.string x.2.1) := (hb.cell (p := ⟨B, 1, none⟩) hB).trans h1
  have hBW : B < W.heap.size := Nat.lt_of_lt_of_le hB hb.size
  have hne : B ≠ W.heap.size := by omega
  clear h0 h1
  obtain ⟨c1, c2, c3, c4, c5, c6, c7⟩ := c
  have HR : Hid (alikeB x (c1, c2, c3, c4, c5, c6, c7) = (c1 == x.1 || c2.toList == x.2.1.toList)) := rfl
  generalize alikeB x (c1, c2, c3, c4, c5, c6, c7) = r at *
  generalize x.1 = x1 at *
  generalize x.2.1 = x2 at *
  show Calls Tryz.prog 118 #[.agg #[.int .i64 c1, .string c2, .int .i64 c3, .bool c4, .int .i64 c5, .int .i64 c6, .string c7], .pointer (some ⟨B, 0, none⟩)] W _
  by_cases hq : c1 = x1
  · subst hq
    go_enter Tryz.func118, Tryz.ntmps118
    go_wp2
    all_goals (go_ret; exact ⟨ret_bool (by rw [HR.out]; simp), hb.alloc hb.size _⟩)
  · have hq' : (c1 == x1) = false := by simpa using hq
    go_enter Tryz.func118, Tryz.ntmps118
    go_wp2
    all_goals (go_ret; exact ⟨ret_bool (by rw [HR.out]; simp [hq']), hb.alloc hb.size _⟩)

set_option maxHeartbeats 1000000 in
theorem alike_any (g o c : Nat) (l : List Col) (x : Col) (w : World) (h : SlC w g o l) (hl : l.length ≤ 8) :
    Calls Tryz.prog 88 #[.slice (some ⟨g, o, none⟩) l.length c, .agg (encC x).toArray] w fun e w' => e = .returned (.bool (l.any (alikeB x))) ∧ Below w.heap.size w w' := by
  have eg : ∀ args w, (callFunc 118 args).run Tryz.prog w = .ok (.enter 118 args) w := enters_of Tryz.func118 (by kernel_rfl) rfl
  have h1 : SlC (w.alloc (.cells (encC x).toArray 67)) g o l := h.below ((Below.refl _ _).alloc (Nat.le_refl _) _)
  have hcon := AnyQ.slices_ContainsFunc Tryz.layCon 7 Tryz.isAgg67 Tryz.sizeOf67 encC encC_len (alikeB x) 118 #[.pointer (some ⟨w.heap.size, 0, none⟩)] eg g o l.length c l (w.alloc (.cells (encC x).toArray 67))
    (alikeF_any x w.heap.size _ (by simp) (by rw [World.cell?_alloc_at _ _ _ _ rfl]; rfl) (by rw [World.cell?_alloc_at _ _ _ _ rfl]; rfl)) (Nat.le_refl _) (by omega) h1.1 h1.2
  rw [List.take_length] at hcon
  change Calls Tryz.prog 117 _ _ (fun e w' => e = .returned (.bool (l.any (alikeB x))) ∧ _) at hcon
  clear h h1
  generalize l.any (alikeB x) = r at hcon ⊢
  obtain ⟨c1, c2, c3, c4, c5, c6, c7⟩ := x
  simp only [encC, List.toArray] at hcon ⊢
  go_enter Tryz.func88, Tryz.ntmps88
  go_wp2_with (go_at_call 117; refine hcon.mono ?_; rintro e w' ⟨rfl, hb'⟩)
  go_ret
  exact ⟨rfl, b1c hb'⟩
end Go.Proofs.YtfppidnfomelpaaGreatDoor
