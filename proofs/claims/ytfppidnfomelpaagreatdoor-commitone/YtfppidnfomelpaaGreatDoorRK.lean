/- What log.read does, said of every call, if readPlaces does what it should. -/
import Derived.Test.YtfppidnfomelpaaGreatDoorRJ
import Derived.Test.YtfppidnfomelpaaGreatDoorO1
import Derived.OrdersIn
namespace Go.Proofs.YtfppidnfomelpaaGreatDoor
open Go.RowKit Go.Proofs Go.Lib Go.Joins

attribute [local go_sem] Oper.semAt_some

def zeroAc : Value := .agg #[.int .i64 0, .string ⟨#[]⟩, .int .i64 0, .slice none 0 0, .slice none 0 0, .int .i64 0]
theorem infoAc : (Tryz.prog.info? 62).map (fun i => (i.zero, i.size, i.bytes)) = some (some zeroAc, 6, 88) := by kernel_rfl
def cellsQ (L : List ActQ) : List Value := L.flatMap encQ
theorem allActs_snoc : ∀ {pre : List (List UInt8)} {L : List Actn} {a : List UInt8} {x : Actn}, allActs pre = some L → readAct a = some x → allActs (pre ++ [a]) = some (L ++ [x])
  | [], L, a, x, h, hx => by simp only [allActs] at h; cases h; simp [allActs, hx]
  | p :: pre, L, a, x, h, hx => by
    simp only [allActs] at h
    cases hp : readAct p with
    | none => rw [hp] at h; cases h
    | some y =>
      rw [hp] at h
      simp only [Option.bind_some] at h
      cases hr : allActs pre with
      | none => rw [hr] at h; cases h
      | some M =>
        rw [hr] at h
        cases h
        simp only [List.cons_append, allActs, hp, Option.bind_some, allActs_snoc hr hx]
        rfl
theorem allActs_none : ∀ {pre : List (List UInt8)} {a : List UInt8} {t : List (List UInt8)}, readAct a = none → allActs (pre ++ a :: t) = none
  | [], a, t, h => by simp [allActs, h]
  | p :: pre, a, t, h => by
    simp only [List.cons_append, allActs]
    rw [allActs_none h]
    cases readAct p <;> rfl
/-- The rows that an action owns. -/
def OwnQ (base : Nat) (W : World) (q : ActQ) : Prop := W.ownsRow base 3 1 (sv q.2.1) q.1.2.2.2.1.length (q.1.2.2.2.1.map (.int .i64)) ∧ W.ownsRow base 67 7 (sv q.2.2) q.1.2.2.2.2.1.length (cellsC q.1.2.2.2.2.1)
/-- Between two lines. -/
structure RdI (w : World) (bc base : Nat) (tx : ByteArray) (rd : Bool) (pre : List (List UInt8)) (W : World) (L : List ActQ) (aa : Option Addr) (ac : Nat) : Prop where
  box : W.heap[bc]? = some (.cells #[.string tx, .bool rd, .slice aa L.length ac] 24 (0, 0))
  acts : allActs pre = some (L.map (·.1))
  row : W.ownsRow base 62 6 (.slice aa L.length ac) L.length (cellsQ L)
  own : ∀ q ∈ L, OwnQ base W q
  res : W.heap[w.heap.size]? = some (.cells #[.string ⟨#[]⟩, .bool false, .slice none 0 0] 24 (0, 0))
  ok : W.heap[w.heap.size + 1]? = some (.cells #[.bool false] 4 (0, 0))
  low : Below w.heap.size w W
theorem own_free {W Y : World} {base : Nat} {t : TypeId} {z : Nat} {v : Value} {n : Nat} {xs : List Value} {row : Option Nat} {B : Nat} (h : W.ownsRow base t z v n xs) (hB : B < base) (hg : W.grownBy Y row) (hr : ∀ r, row = some r → r = B ∨ (∃ o : Obj, W.heap[r]? = some o ∧ o.isCells = false)) : Y.ownsRow base t z v n xs :=
  own_keep h hg (fun k hk e => by
    rcases hr k e with rfl | ⟨o, ho, hc⟩
    · have := own_blk h hk; omega
    · obtain ⟨cs, h1⟩ := own_at h hk
      rw [h1] at ho
      cases ho
      cases hc)
theorem blk_free {W Y : World} {b : Nat} {cs : Array Value} {t : TypeId} {row : Option Nat} {B : Nat} (h : W.heap[b]? = some (.cells cs t (0, 0))) (hB : b ≠ B) (hg : W.grownBy Y row) (hr : ∀ r, row = some r → r = B ∨ (∃ o : Obj, W.heap[r]? = some o ∧ o.isCells = false)) : Y.heap[b]? = some (.cells cs t (0, 0)) := by
  refine (hg.block b (blk_lt h) (fun e => ?_)).trans h
  rcases hr b e.symm with rfl | ⟨o, ho, hc⟩
  · exact hB rfl
  · rw [h] at ho
    cases ho
    cases hc
theorem RdI.free {w : World} {bc base : Nat} {tx : ByteArray} {rd : Bool} {pre : List (List UInt8)} {W Y : World} {L : List ActQ} {aa : Option Addr} {ac : Nat} {row : Option Nat} {B : Nat} (h : RdI w bc base tx rd pre W L aa ac) (hB : B < base) (hbc : bc ≠ B) (hw : w.heap.size + 1 < B) (hg : W.grownBy Y row) (hr : ∀ r, row = some r → r = B ∨ (w.heap.size ≤ r ∧ ∃ o : Obj, W.heap[r]? = some o ∧ o.isCells = false)) : RdI w bc base tx rd pre Y L aa ac := by
  have hr' : ∀ r, row = some r → r = B ∨ (∃ o : Obj, W.heap[r]? = some o ∧ o.isCells = false) := fun r e => (hr r e).imp id And.right
  refine ⟨blk_free h.box hbc hg hr', h.acts, own_free h.row hB hg hr', fun q hq => ⟨own_free (h.own q hq).1 hB hg hr', own_free (h.own q hq).2 hB hg hr'⟩, blk_free h.res (by omega) hg hr', blk_free h.ok (by omega) hg hr', h.low.grown hg h.low.size (fun j hj => ?_)⟩
  rcases hr j hj with rfl | ⟨h1, _⟩
  · omega
  · exact h1
theorem RdI.up {w : World} {bc base : Nat} {tx : ByteArray} {rd : Bool} {pre : List (List UInt8)} {W Y : World} {L : List ActQ} {aa : Option Addr} {ac : Nat} (h : RdI w bc base tx rd pre W L aa ac) (hb : Below W.heap.size W Y) : RdI w bc base tx rd pre Y L aa ac :=
  ⟨(hb.block _ (blk_lt h.box)).trans h.box, h.acts, own_up h.row hb, fun q hq => ⟨own_up (h.own q hq).1 hb, own_up (h.own q hq).2 hb⟩, (hb.block _ (blk_lt h.res)).trans h.res, (hb.block _ (blk_lt h.ok)).trans h.ok, Below.ups h.low hb⟩
/-- What has come when a line is none. -/
structure RdX (w : World) (t0 : List UInt8) (W : World) : Prop where
  bad : allActs (linesT t0) = none
  res : W.heap[w.heap.size]? = some (.cells #[.string ⟨#[]⟩, .bool false, .slice none 0 0] 24 (0, 0))
  ok : W.heap[w.heap.size + 1]? = some (.cells #[.bool false] 4 (0, 0))
  low : Below w.heap.size w W
theorem RdX.free {w : World} {t0 : List UInt8} {W Y : World} {row : Option Nat} {B : Nat} (h : RdX w t0 W) (hw : w.heap.size + 1 < B) (hg : W.grownBy Y row) (hr : ∀ r, row = some r → r = B ∨ (w.heap.size ≤ r ∧ ∃ o : Obj, W.heap[r]? = some o ∧ o.isCells = false)) : RdX w t0 Y := by
  have hr' : ∀ r, row = some r → r = B ∨ (∃ o : Obj, W.heap[r]? = some o ∧ o.isCells = false) := fun r e => (hr r e).imp id And.right
  refine ⟨h.bad, blk_free h.res (by omega) hg hr', blk_free h.ok (by omega) hg hr', h.low.grown hg h.low.size (fun j hj => ?_)⟩
  rcases hr j hj with rfl | ⟨h1, _⟩
  · omega
  · exact h1
theorem keeps_below {n : Nat} {W Y : World} (h : Below W.heap.size W Y) : KeepsFrom n W Y := ⟨h.size, fun k _ _ ho _ => (h.block k (blk_lt ho)).trans ho⟩
end Go.Proofs.YtfppidnfomelpaaGreatDoor
