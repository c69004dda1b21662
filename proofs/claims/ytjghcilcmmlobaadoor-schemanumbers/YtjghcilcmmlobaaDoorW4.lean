/- How columns lie in memory; what schema.Find, slices.Clone and slices.Equal at columns do, said of every call. -/
import Derived.Test.YtjghcilcmmlobaaDoorW3
import Derived.Laws.StructEq
import Derived.Laws.OwnMore
import Derived.OwnWalk
import Derived.Lib.SmallJoins
namespace Go.Proofs.YtjghcilcmmlobaaDoor
open Go.RowKit Go.Proofs Go.Lib Go.Joins

/-- Columns l lie from cell o of block g on. -/
def SlC (W : World) (g o : Nat) (l : List Col) : Prop := g < W.heap.size ∧ ∀ j, j < l.length → ∀ i v, (encC l[j]!)[i]? = some v → W.cell? ⟨g, o + j * 7 + i, none⟩ = some v
theorem SlC.below {w W : World} {g o : Nat} {l : List Col} (h : SlC w g o l) (hb : Below w.heap.size w W) : SlC W g o l :=
  ⟨Nat.lt_of_lt_of_le h.1 hb.size, fun j hj i v hi => (hb.cell (p := ⟨g, o + j * 7 + i, none⟩) h.1).trans (h.2 j hj i v hi)⟩
theorem SlC.take {w : World} {g o : Nat} {l : List Col} (h : SlC w g o l) (n : Nat) : SlC w g o (l.take n) :=
  ⟨h.1, fun j hj i v hi => by
    have hj' : j < n ∧ j < l.length := by simpa [Nat.lt_min] using hj
    rw [Lib.getElem!_take _ _ _ hj'.1] at hi
    exact h.2 j hj'.2 i v hi⟩
theorem SlC.drop {w : World} {g o : Nat} {l : List Col} (h : SlC w g o l) (n : Nat) : SlC w g (o + n * 7) (l.drop n) :=
  ⟨h.1, fun j hj i v hi => by
    have hj' : n + j < l.length := by simp at hj; omega
    have e : (l.drop n)[j]! = l[n + j]! := by simp [List.getElem!_eq_getElem?_getD]
    rw [e] at hi
    have := h.2 (n + j) hj' i v hi
    rwa [show o + (n + j) * 7 + i = o + n * 7 + j * 7 + i by omega] at this⟩
theorem SlC.flat {w : World} {g o : Nat} {l : List Col} (h : SlC w g o l) : ∀ j u, (cellsC l)[j]? = some u → w.cell? ⟨g, o + j, none⟩ = some u := by
  intro j u hj
  have hl : j < l.length * 7 := by
    rcases Nat.lt_or_ge j (l.length * 7) with h' | h'
    · exact h'
    · rw [List.getElem?_eq_none (by rw [cellsC_len]; exact h')] at hj; cases hj
  have e : j = j / 7 * 7 + j % 7 := by omega
  rw [e, cellsC_at l (j / 7) (j % 7) (by omega) (by omega)] at hj
  have := h.2 (j / 7) (by omega) (j % 7) u hj
  rwa [show o + j / 7 * 7 + j % 7 = o + j by omega] at this
theorem SlC.of_own {w : World} {base g n cap : Nat} {l : List Col} (h : w.ownsRow base 54 7 (.slice (some ⟨g, 0, none⟩) n cap) n (cellsC l)) (hn : n = l.length) : SlC w g 0 l := by
  refine ⟨(h.lt g rfl).2, fun j hj i v hi => ?_⟩
  have hi7 : i < 7 := by
    rcases Nat.lt_or_ge i 7 with h' | h'
    · exact h'
    · rw [List.getElem?_eq_none (by rw [encC_len]; exact h')] at hi; cases hi
  have := h.cellAt (j * 7 + i) (by subst hn; omega)
  rw [cellsC_at l j i hj hi7, hi] at this
  rw [show 0 + j * 7 + i = j * 7 + i by omega]
  exact this

theorem findF_any (nm : ByteArray) (B : Nat) (w : World) (hB : B < w.heap.size) (hcell : w.cell? ⟨B, 0, none⟩ = some (.string nm)) :
    PredBelow Tryd.prog 56 #[.pointer (some ⟨B, 0, none⟩)] (fun x : Col => .agg (encC x).toArray) (fun c => c.2.1.toList == nm.toList) w := fun W x hb => by
  have hc : W.cell? ⟨B, 0, none⟩ = some (.string nm) := (hb.cell (p := ⟨B, 0, none⟩) hB).trans hcell
  have hBW : B < W.heap.size := Nat.lt_of_lt_of_le hB hb.size
  have hne : B ≠ W.heap.size := by omega
  obtain ⟨c1, c2, c3, c4, c5, c6, c7⟩ := x
  show Calls Tryd.prog 56 #[.agg #[.int .i64 c1, .string c2, .int .i64 c3, .bool c4, .int .i64 c5, .int .i64 c6, .string c7], .pointer (some ⟨B, 0, none⟩)] W _
  go_enter Tryd.func56, Tryd.ntmps56
  go_wp2
  all_goals (go_ret; exact ⟨rfl, hb.alloc hb.size _⟩)

set_option maxHeartbeats 1000000 in
theorem find_any (g o c : Nat) (l : List Col) (nm : ByteArray) (w : World) (h : SlC w g o l) (hl : l.length ≤ 8) :
    Calls Tryd.prog 33 #[.slice (some ⟨g, o, none⟩) l.length c, .string nm] w fun e w' => e = .returned (.int .i64 (findC l nm)) ∧ Below w.heap.size w w' := by
  have eg : ∀ args w, (callFunc 56 args).run Tryd.prog w = .ok (.enter 56 args) w := enters_of Tryd.func56 (by kernel_rfl) rfl
  have h1 : SlC (w.alloc (.cells #[.string nm] 9)) g o l := h.below ((Below.refl _ _).alloc (Nat.le_refl _) _)
  have hcon := AnyQ.slices_IndexFunc Tryd.layIdx 7 Tryd.isAgg54 Tryd.sizeOf54 encC encC_len (fun c => c.2.1.toList == nm.toList) 56 #[.pointer (some ⟨w.heap.size, 0, none⟩)] eg g o l.length c l (w.alloc (.cells #[.string nm] 9))
    (findF_any nm w.heap.size _ (by simp) (by simp)) (Nat.le_refl _) (by omega) h1.1 h1.2
  rw [List.take_length] at hcon
  change Calls Tryd.prog 55 _ _ (fun e w' => e = .returned (.int .i64 (findC l nm)) ∧ _) at hcon
  clear h h1
  generalize findC l nm = r at hcon ⊢
  go_enter Tryd.func33, Tryd.ntmps33
  go_wp2_with (go_at_call 55; refine hcon.mono ?_; rintro e w' ⟨rfl, hb'⟩)
  go_ret
  exact ⟨rfl, b1c hb'⟩

def zeroC : Value := .agg #[.int .i64 0, .string ⟨#[]⟩, .int .i64 0, .bool false, .int .i64 0, .int .i64 0, .string ⟨#[]⟩]
theorem info54 : (Tryd.prog.info? 54).map (fun i => (i.zero, i.size, i.bytes)) = some (some zeroC, 7, 72) := by kernel_rfl

theorem clone_any (g o c : Nat) (l : List Col) (w : World) (h : SlC w g o l) (hl : l.length ≤ 8) :
    Calls Tryd.prog 27 #[.slice (some ⟨g, o, none⟩) l.length c] w fun e w' => ∃ g' c', e = .returned (.slice (some ⟨g', 0, none⟩) l.length c') ∧ w'.ownsRow w.heap.size 54 7 (.slice (some ⟨g', 0, none⟩) l.length c') l.length (cellsC l) ∧ Below w.heap.size w w' := by
  obtain ⟨i0, hi0, hz0, hz1, hz2⟩ := info_parts info54
  refine (AnyE.slices_Clone Tryd.layClo i0 zeroC 7 72 hi0 hz0 hz1 hz2 rfl (by decide) Tryd.sizeOf54 g o l.length c (cellsC l) w (cellsC_len l) (by unfold maxLen; omega) (by omega) h.flat (cellsC_one l)).mono ?_
  rintro e w' ⟨v', rfl, hown, hne, hb⟩
  rcases ownsRow_forms hown with ⟨e1, _⟩ | ⟨g', c', e1⟩
  · exact (hne e1).elim
  · subst e1
    exact ⟨g', c', rfl, hown, hb⟩

def eqC (x y : Col) : Bool := x.1 == y.1 && (x.2.1.toList == y.2.1.toList && (x.2.2.1 == y.2.2.1 && (x.2.2.2.1 == y.2.2.2.1 && (x.2.2.2.2.1 == y.2.2.2.2.1 && (x.2.2.2.2.2.1 == y.2.2.2.2.2.1 && x.2.2.2.2.2.2.toList == y.2.2.2.2.2.2.toList)))))

set_option maxHeartbeats 2000000 in
theorem neqC : NeqAt Tryd.prog 54 (fun x : Col => .agg (encC x).toArray) eqC := by
  refine ⟨fun x y w => ?_, GuardAt.agg _ (by kernel_rfl)⟩
  obtain ⟨x1, x2, x3, x4, x5, x6, x7⟩ := x
  obtain ⟨y1, y2, y3, y4, y5, y6, y7⟩ := y
  have hS : Tryd.prog.underlying 54 = some (.struct (Tryd.prog.fieldsOf 54)) := by kernel_rfl
  have hp : Tryd.prog.stoodInHeld 54 = false := by kernel_rfl
  have hS2 : Tryd.prog.underlying 23 = some (.struct (Tryd.prog.fieldsOf 23)) := by kernel_rfl
  have hp2 : Tryd.prog.stoodInHeld 23 = false := by kernel_rfl
  have u2 := Tryd.underlying2; have a2 := Tryd.isAgg2; have z2 := Tryd.sizeOf2
  have u3 := Tryd.underlying3; have a3 := Tryd.isAgg3; have z3 := Tryd.sizeOf3
  have u4 := Tryd.underlying4; have a4 := Tryd.isAgg4; have z4 := Tryd.sizeOf4
  have u9 := Tryd.underlying9; have a9 := Tryd.isAgg9; have z9 := Tryd.sizeOf9
  have a23 := Tryd.isAgg23; have z23 := Tryd.sizeOf23
  have hV : ∀ w, (Op.equalIn 9998 23 (.agg #[.int .i64 x5, .int .i64 x6, .string x7]) (.agg #[.int .i64 y5, .int .i64 y6, .string y7])).run Tryd.prog w = .ok (x5 == y5 && (x6 == y6 && x7.toList == y7.toList)) w := by
    intro w
    rw [show (9998 : Nat) = 9997 + 1 from rfl, run_equalIn_agg w 9997 23 _ _ hS2 hp2]
    simp only [Program.fieldsOf, Tryd.underlying23]
    clear hS hp hS2 hp2
    go_simp
    by_cases h1 : x5 = y5 <;> by_cases h2 : x6 = y6 <;> by_cases h3 : x7.toList = y7.toList <;> simp [h1, h2, h3]
  simp only [encC, eqC]
  rw [run_neq_struct, show (10000 : Nat) = 9999 + 1 from rfl, run_equalIn_agg w 9999 54 _ _ hS hp]
  simp only [Program.fieldsOf, Tryd.underlying54]
  clear hS hp hS2 hp2
  generalize hq : (x5 == y5 && (x6 == y6 && x7.toList == y7.toList)) = q at *
  go_simp
  subst hq
  by_cases h1 : x1 = y1
  case neg => rw [if_neg h1]; simp [h1]
  rw [if_pos h1]
  by_cases h2 : x2.toList = y2.toList
  case neg => rw [if_neg h2]; simp [h2]
  rw [if_pos h2]
  by_cases h3 : x3 = y3
  case neg => rw [if_neg h3]; simp [h3]
  rw [if_pos h3]
  by_cases h4 : x4 = y4
  case neg => rw [if_neg h4]; simp [h4]
  rw [if_pos h4]
  by_cases h5 : x5 = y5
  case neg => rw [if_neg h5]; simp [h5]
  rw [if_pos h5]
  by_cases h6 : x6 = y6
  case neg => rw [if_neg h6]; simp [h6]
  rw [if_pos h6]
  by_cases h7 : x7.toList = y7.toList
  case neg => rw [if_neg h7]; simp [h7]
  rw [if_pos h7]
  simp [h1, h2, h3, h4, h5, h6, h7]

theorem eqC_self (c : Col) : eqC c c = true := by simp [eqC]
theorem allEq_self : ∀ l : List Col, Lib.allEq eqC l l = true
  | [] => rfl
  | c :: l => by simp [Lib.allEq, eqC_self, allEq_self l]

/-- slices.Equal at the same columns, wherever they lie: true. -/
theorem equal_any (g1 o1 c1 g2 o2 c2 : Nat) (l : List Col) (w : World) (h1 : SlC w g1 o1 l) (h2 : SlC w g2 o2 l) (hl : l.length ≤ 8) :
    Calls Tryd.prog 31 #[.slice (some ⟨g1, o1, none⟩) l.length c1, .slice (some ⟨g2, o2, none⟩) l.length c2] w fun e w' => e = .returned (.bool true) ∧ Below w.heap.size w w' := by
  refine (AnyQ.slices_Equal Tryd.layEq 7 Tryd.isAgg54 Tryd.sizeOf54 encC encC_len eqC neqC g1 o1 l.length c1 g2 o2 l.length c2 l l w (Nat.le_refl _) (Nat.le_refl _) (by omega) (by omega) h1.2 h2.2).mono ?_
  rintro e w' ⟨rfl, q, rfl⟩
  refine ⟨?_, ⟨rfl, rfl, rfl, Nat.le_refl _, fun _ _ => rfl⟩⟩
  rw [List.take_length, allEq_self]
end Go.Proofs.YtjghcilcmmlobaaDoor
