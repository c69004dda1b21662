/- What millpondkeep.EncodeSmall does, said of every call: it answers true. -/
import Derived.Test.YtmbnomplckhmeaaM4
import Derived.Test.YtmbnomplckhmeaaWq
namespace Go.Proofs.Ytmbnomplckhmeaa
open Go.RowKit Go.Proofs Go.Shelf

/-- Two rows that are not one. -/
def Dis (u v : Value) : Prop := ∀ j, u.ownBlock = some j → v.ownBlock ≠ some j
theorem Dis.symm {u v : Value} (h : Dis u v) : Dis v u := fun j hj e => h j e hj
theorem dis_step {u v : Value} {g n c H : Nat} (h : Dis u v) (hat : u.ownBlock = some g ∨ g = H) (hlt : ∀ j, v.ownBlock = some j → j < H) : Dis (.slice (some ⟨g, 0, none⟩) n c) v := fun j hj e => by
  have eg : g = j := by simpa [Value.ownBlock] using hj
  subst eg
  rcases hat with h1 | h1
  · exact h _ h1 e
  · have := hlt _ e; omega
theorem kept_dis {w W : World} {B e z n : Nat} {v u : Value} {xs : List Value} (h : w.ownsRow B e z v n xs) (hd : Dis u v) (hg : w.grownBy W u.ownBlock) : W.ownsRow B e z v n xs := by
  refine h.kept hg ?_
  cases hv : v.ownBlock with
  | none => exact .inl rfl
  | some k => exact .inr fun e => hd k e.symm hv
/-- The three lists so far, and the value, as they lie. -/
structure Three (w : World) (v : V) (fr st : Int) (i : Nat) (va vb vc : Value) (wr : World) : Prop where
  a : wr.ownsRow (w.heap.size + 1) 32 3 va i (flatV (List.replicate i v))
  b : wr.ownsRow (w.heap.size + 1) 32 3 vb i (flatV (bL fr st i))
  c : wr.ownsRow (w.heap.size + 1) 32 3 vc i (flatV (List.replicate i (0, 0, ⟨#[]⟩)))
  ab : Dis va vb
  ac : Dis va vc
  bc : Dis vb vc
  box : wr.heap[w.heap.size]? = some (.cells #[.int .i64 v.1, .int .i64 v.2.1, .string v.2.2] 32)
  bel : Below w.heap.size w wr
theorem three_zero {w W : World} {v : V} {fr st : Int} (hb : W.heap[w.heap.size]? = some (.cells #[.int .i64 v.1, .int .i64 v.2.1, .string v.2.2] 32)) (hl : Below w.heap.size w W) : Three w v fr st 0 (.slice none 0 0) (.slice none 0 0) (.slice none 0 0) W :=
  ⟨World.ownsRow_nil _ _ _ _, World.ownsRow_nil _ _ _ _, World.ownsRow_nil _ _ _ _, fun _ h => (by cases h), fun _ h => (by cases h), fun _ h => (by cases h), hb, hl⟩
theorem box_grown {w W : World} {B e z n b : Nat} {v : Value} {xs : List Value} {o : Obj} (hb : w.heap[b]? = some o) (h : w.ownsRow B e z v n xs) (hlt : b < B) (hg : w.grownBy W v.ownBlock) : W.heap[b]? = some o :=
  (hg.block b (blk_lt hb) (fun e => by have := (h.lt b e.symm).1; omega)).trans hb
theorem rep_next (n : Nat) (v : V) : List.replicate (n + 1) v = List.replicate n v ++ [v] := List.replicate_succ'

set_option maxHeartbeats 4000000 in
set_option maxRecDepth 100000 in
theorem small_long (k x n fr st : Int) (t : ByteArray) (w : World) (ht : t.size ≤ maxLen) (hl : 100 < t.size) :
    Calls Try.prog 4 #[.agg #[.int .i64 k, .int .i64 x, .string t], .int .i64 n, .int .i64 fr, .int .i64 st] w fun e w' => e = .returned (.bool true) ∧ Below w.heap.size w w' := by
  unfold maxLen at ht
  have h' : (100 : Int) < (t.size : Int) := by omega
  clear hl
  go_enter Try.func4, Try.ntmps4
  go_wp2
  go_ret
  exact ⟨rfl, (Below.refl _ _).alloc (Nat.le_refl _) _⟩
end Go.Proofs.Ytmbnomplckhmeaa
