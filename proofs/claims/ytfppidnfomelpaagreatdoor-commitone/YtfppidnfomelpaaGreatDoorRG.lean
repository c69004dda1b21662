/- A range over an iterator that keeps its state in a box. -/
import Derived.RangeFuncNested
import Derived.RangeFuncBound
import Derived.RangeFuncCalls
import Derived.RangeFuncLeaves
import Derived.Shelf.Abstract
import Derived.Shelf.RegionOpen
import Derived.WalkKit
import Derived.OwnWalkIn
import Derived.TacticsInMore
import Derived.LoopNIn
import Derived.LoopIn
import Derived.Test.YtfppidnfomelpaaGreatDoorRE
import Derived.OrdersIn
namespace Go.Proofs.YtfppidnfomelpaaGreatDoor
open Go.RowKit Go.Proofs Go.Lib Go.Joins

attribute [local go_sem] Oper.semAt_some

set_option maxHeartbeats 1000000 in
theorem lines_any (s : ByteArray) (w : World) :
    Calls Tryz.prog 44 #[.string s] w fun e w' => e = .returned (.func (.func 77) #[] #[.pointer (some ⟨w.heap.size, 0, none⟩)]) ∧ w' = w.alloc (.cells #[.string s] 9) := by
  go_enter Tryz.func44, Tryz.ntmps44
  go_wp2
  go_ret
  exact ⟨rfl, rfl⟩
def boxLen (B : Nat) (w : World) : Nat := match w.cell? ⟨B, 0, none⟩ with
  | some (.string s) => s.size
  | _ => 0
theorem boxLen_eq {B : Nat} {w : World} {r : List UInt8} (h : w.cell? ⟨B, 0, none⟩ = some (.string (bA r))) : boxLen B w = r.length := by
  unfold boxLen
  rw [h]
  exact bA_size
/-- A box that holds a text. -/
def Txt (B : Nat) (r : List UInt8) (w : World) : Prop := w.heap[B]? = some (.cells #[.string (bA r)] 9 (0, 0))
theorem Txt.cell {B : Nat} {r : List UInt8} {w : World} (h : Txt B r w) : w.cell? ⟨B, 0, none⟩ = some (.string (bA r)) := by
  have h' : w.heap[B]? = _ := h
  simp [World.cell?, h']
theorem Txt.frozen {B : Nat} {r : List UInt8} {w : World} (h : Txt B r w) : w.frozen? ⟨B, 0, none⟩ = false := by
  have h' : w.heap[B]? = _ := h
  simp [World.frozen?, h']
theorem Txt.put {B : Nat} {r : List UInt8} {w : World} (h : Txt B r w) (q : List UInt8) : Txt B q (w.setCell ⟨B, 0, none⟩ (.string (bA q))) := heap_setC w B 0 _ _ _ h
theorem trim_hit (a : List UInt8) : Lib.trimSuffix (a ++ [10]) [10] = a := by
  unfold Lib.trimSuffix Lib.hasSuffix
  rw [if_pos (by rw [List.isSuffixOf_iff_suffix]; exact ⟨a, rfl⟩)]
  simp
theorem trim_miss {a : List UInt8} (h : (10 : UInt8) ∉ a) : Lib.trimSuffix a [10] = a := by
  unfold Lib.trimSuffix Lib.hasSuffix
  rw [if_neg (by
    rw [List.isSuffixOf_iff_suffix]
    rintro ⟨t, rfl⟩
    exact h (by simp))]

set_option maxRecDepth 100000 in
set_option maxHeartbeats 4000000 in
theorem lines1_in (n : Nat) (_hn : 1 ≤ n) (l B : Nat) (t0 : List UInt8) (hlen : t0.length ≤ 1000000) (I : List (List UInt8) → World → Prop) (Ix : World → Prop) (hId : ∀ pre W, I pre W → I pre W.drew) (hIs : ∀ pre W v, I pre W → I pre (W.setCell ⟨B, 0, none⟩ v))
    (hY : ∀ pre a raw W v, (∃ t, linesT t0 = pre ++ a :: t) → Lib.trimSuffix raw [10] = a → raw.length ≤ 1000000 → I pre W → Txt B v W → YieldAt Fence.wide (n - 1) Tryz.prog l #[.string (bA raw)] W fun e W' =>
      (e = .returned (.bool true) ∧ I (pre ++ [a]) W' ∧ Txt B v W') ∨ (e = .returned (.bool false) ∧ Ix W'))
    (W : World) (hB : Txt B t0 W) (h0 : I [] W) :
    CallsIn Fence.wide n Tryz.prog 77 #[.func (.yield l) #[] #[], .pointer (some ⟨B, 0, none⟩)] W fun e W' => (∃ v, e = .returned v) ∧ (I (linesT t0) W' ∨ Ix W') := by
  refine callsIn_of_wp Tryz.func77 rfl trivial ?_ rfl
  simp only [Tryz.ntmps77, List.size_toArray, List.length_cons, List.length_nil, Nat.reduceAdd, Nat.reduceSub, Array.replicate_succ, Array.replicate_zero, List.push_toArray, List.append_toArray, List.nil_append, List.cons_append]
  gi_wp2
  gi_loopw [3] (fun _ wr => ∃ (pre : List (List UInt8)) (r : List UInt8), Hid (linesT t0 = pre ++ linesT r) ∧ r.length ≤ 1000000 ∧ Hid (I pre wr) ∧ Hid (Txt B r wr)) (fun _ wr => boxLen B wr)
  case atStart => exact ⟨[], t0, mkH rfl, hlen, mkH h0, mkH hB⟩
  case round =>
    obtain ⟨pre, r, HL, hr, HI, HT⟩ := hrel
    have hc := HT.out.cell
    have hf := HT.out.frozen
    by_cases he : r = []
    · subst he
      have e0 : bA ([] : List UInt8) = ⟨#[]⟩ := rfl
      rw [e0] at hc
      gi_wp2
      go_end0
      refine ⟨⟨_, rfl⟩, .inl ?_⟩
      rw [HL.out, linesT_nil, List.append_nil]
      exact HI.out
    · have hpos : 0 < r.length := List.length_pos_iff.2 he
      have hsz : (bA r).size = r.length := bA_size
      have hposz : (0 : Int) < ((bA r).size : Int) := by omega
      have hbl := boxLen_eq hc
      have HIB := mkH (fun W => Tryz.strings_IndexByte (bA r) 10 W)
      rw [bA_toList, show ((10 : Int).toNat.toUInt8) = 10 from rfl] at HIB
      rcases index_cases r 10 with hi | ⟨i, hi⟩
      · have hcut := cut_index_no hi
        rw [hi] at HIB
        have hmem : (10 : UInt8) ∉ r := by
          rcases cutL_found 10 r with ⟨h1, _⟩ | ⟨_, h⟩
          · rw [hcut] at h1; cases h1
          · exact h
        have hln : linesT r = r :: linesT [] := by rw [linesT_cons he, hcut]
        obtain ⟨fn, tmps, assign, body, hy, hR⟩ := hY pre r r (wr.setCell ⟨B, 0, none⟩ (.string ⟨#[]⟩)) [] ⟨_, by rw [HL.out, hln]⟩ (trim_miss hmem) hr (hIs _ _ _ HI.out) (HT.out.put [])
        have HR := mkH hR
        have HLN : Hid (linesT t0 = (pre ++ [r]) ++ linesT []) := mkH (by rw [HL.out, hln]; simp)
        clear hi hcut hln hR hmem
        gi_wp2_with (refine ⟨trivial, ?_⟩; gi_at_call 78; refine (callsIn_wide.2 (HIB.out _)).mono ?_; rintro e w1 ⟨rfl, rfl⟩)
        refine HR.out.mono ?_
        rintro e W3 (⟨rfl, hI3, hT3⟩ | ⟨rfl, hx3⟩)
        · gi_wp2
          go_roundw
          case rel => exact ⟨pre ++ [r], [], HLN, by simp, mkH hI3, mkH hT3⟩
          case measure =>
            rw [boxLen_eq hT3.cell, hbl]
            exact hpos
        · gi_wp2
          refine bodyPost_ret (results_none rfl _ _ _) rfl ?_
          exact ⟨⟨_, rfl⟩, .inr hx3⟩
      · obtain ⟨hcut, hil⟩ := cut_index_yes hi
        rw [hi] at HIB
        have e1 : bA (r.take (i + 1)) = (bA r).extract 0 (i + 1) := by rw [extract_eq, bA_toList]; simp [bA]
        have e2 : bA (r.drop (i + 1)) = (bA r).extract (i + 1) (bA r).size := by
          rw [extract_eq, bA_toList, List.take_of_length_le (by rw [List.length_drop, bA_size]; exact Nat.le_refl _)]
          rfl
        have htk : r.take (i + 1) = r.take i ++ [10] := by
          rcases cutL_found 10 r with ⟨_, h2, _⟩ | ⟨h, _⟩
          · rw [hcut] at h2
            simp only at h2
            have h3 : r[i]? = some 10 := by
              rw [h2, List.getElem?_append_right (by rw [List.length_take]; exact Nat.min_le_left _ _), List.length_take, Nat.min_eq_left (Nat.le_of_lt hil), Nat.sub_self]
              rfl
            rw [List.take_add_one, h3]; rfl
          · rw [hcut] at h; simp at h
        have hln : linesT r = r.take i :: linesT (r.drop (i + 1)) := by rw [linesT_cons he, hcut]
        obtain ⟨fn, tmps, assign, body, hy, hR⟩ := hY pre (r.take i) (r.take (i + 1)) (wr.setCell ⟨B, 0, none⟩ (.string (bA (r.drop (i + 1))))).drew (r.drop (i + 1)) ⟨_, by rw [HL.out, hln]⟩ (by rw [htk]; exact trim_hit _) (by rw [List.length_take]; omega) (hId _ _ (hIs _ _ _ HI.out)) (HT.out.put (r.drop (i + 1)))
        rw [e1, e2] at hy
        rw [e2] at hR
        have HR := mkH hR
        have HLN : Hid (linesT t0 = (pre ++ [r.take i]) ++ linesT (r.drop (i + 1))) := mkH (by rw [HL.out, hln]; simp)
        have HE2 := mkH e2
        have HIL := mkH hil
        have c1 : (0 : Int) ≤ (i : Int) := by omega
        have c0 : (i : Int) ≤ 1000000 := by omega
        have c3 : (0 : Int) ≤ (i : Int) + 1 := by omega
        have c4 : (i : Int) + 1 ≤ ((bA r).size : Int) := by omega
        clear hi hcut hln hR htk e1 e2 hil hsz
        gi_wp2_with (refine ⟨trivial, ?_⟩; gi_at_call 78; refine (callsIn_wide.2 (HIB.out _)).mono ?_; rintro e w1 ⟨rfl, rfl⟩)
        refine wpIn_wide.2 ?_
        go_region
        all_goals gi_wp2
        refine HR.out.mono ?_
        rintro e W3 (⟨rfl, hI3, hT3⟩ | ⟨rfl, hx3⟩)
        · gi_wp2
          go_roundw
          case rel => exact ⟨pre ++ [r.take i], r.drop (i + 1), HLN, by rw [List.length_drop]; omega, mkH hI3, mkH hT3⟩
          case measure =>
            rw [boxLen_eq hT3.cell, hbl, List.length_drop]
            omega
        · gi_wp2
          refine bodyPost_ret (results_none rfl _ _ _) rfl ?_
          exact ⟨⟨_, rfl⟩, .inr hx3⟩
end Go.Proofs.YtfppidnfomelpaaGreatDoor

namespace Go.Proofs.YtfppidnfomelpaaGreatDoor
open Go.RowKit Go.Proofs Go.Lib Go.Joins

/-- J abides what an iterator does by itself: its box B; blocks from W0 on that hold no cells; new blocks; draws. -/
def AbB {β : Type} (B W0 : Nat) (J : β → World → Prop) : Prop := ∀ b X Y row, J b X → X.grownBy Y row → (∀ r, row = some r → r = B ∨ (W0 ≤ r ∧ ∃ o : Obj, X.heap[r]? = some o ∧ o.isCells = false)) → J b Y
theorem AbB.drew {β : Type} {B W0 : Nat} {J : β → World → Prop} (h : AbB B W0 J) {b : β} {W : World} (hj : J b W) : J b W.drew :=
  h b W _ none hj ⟨rfl, rfl, rfl, Nat.le_refl _, fun _ _ _ => rfl⟩ (fun r e => by cases e)
theorem AbB.set {β : Type} {B W0 : Nat} {J : β → World → Prop} (h : AbB B W0 J) {b : β} {W : World} (hj : J b W) (v : Value) : J b (W.setCell ⟨B, 0, none⟩ v) :=
  h b W _ (some B) hj (grown_setC W B 0 v) (fun r e => by injection e with e; exact .inl e.symm)
theorem AbB.mono {β : Type} {B W0 W1 : Nat} {J : β → World → Prop} (h : AbB B W0 J) (hle : W0 ≤ W1) : AbB B W1 J := fun b X Y row hj hg hr => h b X Y row hj hg (fun r e => (hr r e).imp id (fun ⟨q, o⟩ => ⟨Nat.le_trans hle q, o⟩))
theorem AbB.alloc {β : Type} {B W0 : Nat} {J : β → World → Prop} (h : AbB B W0 J) {b : β} {W : World} (hj : J b W) (o : Obj) : J b (W.alloc o) :=
  h b W _ none hj (World.grownBy_alloc W o none) (fun r e => by cases e)
theorem AbB.put {β : Type} {B W0 : Nat} {J : β → World → Prop} (h : AbB B W0 J) {b : β} {W : World} (hj : J b W) {r : Nat} {o : Obj} (ho : W.heap[r]? = some o) (hc : o.isCells = false) (hr : W0 ≤ r) (o' : Obj) : J b (W.putObj r o') :=
  h b W _ (some r) hj (grownBy_putObj' W r o') (fun q e => by injection e with e; subst e; exact .inr ⟨hr, o, ho, hc⟩)

/-- What an iterator that keeps its state in the box B gives: from b0 on, one step R a round, till E. -/
def BoxIter {β : Type} (m gf : Nat) (lb : Array Value) (B : Nat) (R : β → Array Value → β → Prop) (b0 : β) (E : β → Prop) (Kp : List UInt8 → World → Prop) (T0 : World → Prop) : Prop :=
  ∀ (l : Nat) (J : β → World → Prop) (Jx : World → Prop) (W : World), AbB B W.heap.size J → AbB B W.heap.size (fun (_ : Unit) => Jx) →
    (∀ b args b' W1 v, R b args b' → J b W1 → Kp v W1 → YieldAt Fence.wide (m - 1) Tryz.prog l args W1 fun e W' =>
      (e = .returned (.bool true) ∧ J b' W' ∧ Kp v W') ∨ (e = .returned (.bool false) ∧ Jx W')) →
    T0 W → J b0 W → CallsIn Fence.wide m Tryz.prog gf (#[.func (.yield l) #[] #[]] ++ lb) W fun e W' => (∃ v, e = .returned v) ∧ ((∃ b, E b ∧ J b W') ∨ Jx W')

/-- How the body of a round may be left. -/
def boxPost {β : Type} (w0 : Nat) (Kp : List UInt8 → World → Prop) (v : List UInt8) (I : β → World → Prop) (Ix : Code → World → Prop) (b' : β) (W : World) : Exit → Act → World → Prop
  | .normal, _, W' => KeepsFrom w0 W W' ∧ I b' W' ∧ Kp v W'
  | .ret, _, W' => KeepsFrom w0 W W' ∧ Ix .ret W'
  | _, _, _ => False

/-- A range over such an iterator. -/
theorem range_box {β : Type} {g : Operand} {ps : Array Tmp} {assign body : Code} {Q : Exit → Act → World → Prop} {a : Act} {w : World} {n : Nat} (h1 : 1 ≤ n) {gf : Nat} {lb : Array Value} (hg : a.eval g = .func (.func gf) #[] lb) (eg : ∀ args w, (callFunc gf args).run Tryz.prog w = .ok (.enter gf args) w)
    {B : Nat} {R : β → Array Value → β → Prop} {b0 : β} {E : β → Prop} {Kp : List UInt8 → World → Prop} {T0 : World → Prop} (hseq : BoxIter (n - 1) gf lb B R b0 E Kp T0) (hKp : ∀ v X r o o', Kp v X → X.heap[r]? = some o → o.isCells = false → Kp v (X.putObj r o')) (hps : ∀ b args b', R b args b' → args.size = ps.size)
    (hB0 : B ≠ w.heap.size) (hB1 : B ≠ w.heap.size + 1) (I : β → World → Prop) (Ix : Code → World → Prop) (hI : AbB B w.heap.size I) (hIx : ∀ c, AbB B w.heap.size (fun (_ : Unit) => Ix c)) (h0 : I b0 w)
    (hT : ∀ r, T0 ((w.alloc (.deferred (some []))).alloc (.loop r))) (a1 : Array Value → Act)
    (hassign : ∀ (l : Nat) (args : Array Value) (W : World) (K : Act → World → Prop), args.size = ps.size → K (a1 args) W →
      assign.wpIn (Fence.wide.inRound l) (n - 1 - 1) Tryz.prog (Exit.then K (fun _ _ _ => False)) { tmps := (ps.zip args).foldl (fun t (p, v) => t.setIfInBounds p v) a.tmps, defers := [] } W)
    (hbody : ∀ (l : Nat) (b : β) (args : Array Value) (b' : β) (W : World) (v : List UInt8), w.heap.size ≤ l → R b args b' → I b W → Kp v W → body.wpIn (Fence.wide.inRound l) (n - 1 - 1) Tryz.prog (boxPost w.heap.size Kp v I Ix b' W) (a1 args) W)
    (hdone : ∀ (D : Nat) (b : β) (W : World), w.heap.size ≤ D → E b → I b W → W.heap[D]? = some (.deferred (some [])) → Q .normal { a with defers := { target := .collected D, args := #[] } :: a.defers } W)
    (hstop : ∀ (D : Nat) (c : Code) (W : World), w.heap.size ≤ D → Ix c W → W.heap[D]? = some (.deferred (some [])) → c.wpIn Fence.wide n Tryz.prog Q { a with defers := { target := .collected D, args := #[] } :: a.defers } W) :
    (Code.rangeFunc g ps assign body).wpIn Fence.wide n Tryz.prog Q a w := by
  refine wpIn_rangeFunc fun fn hfn => ?_
  obtain ⟨rec, hrec⟩ : ∃ rec : LoopState → Option Code → Loop, rec = fun st pe => { state := st, pending := pe, fn, tmps := a.tmps, params := ps, assign, body, defers := w.heap.size } := ⟨_, rfl⟩
  obtain ⟨W1, hW1⟩ : ∃ W1, (w.alloc (.deferred (some []))).alloc (.loop (rec .ready none)) = W1 := ⟨_, rfl⟩
  have hsz : W1.heap.size = w.heap.size + 2 := by rw [← hW1]; simp
  have hL1 : W1.heap[w.heap.size + 1]? = some (.loop (rec .ready none)) := by
    rw [← hW1]; have := World.alloc_heap_new (w.alloc (.deferred (some []))) (.loop (rec .ready none)); rwa [World.size_alloc] at this
  have hK1 : W1.heap[w.heap.size]? = some (.deferred (some [])) := by
    rw [← hW1]; exact (Below.heap_alloc _ _ _ (by simp)).trans (World.alloc_heap_new w _)
  have hI1 : I b0 W1 := by rw [← hW1]; exact hI.alloc (hI.alloc h0 _) _
  have hT1 : T0 W1 := by rw [← hW1]; exact hT _
  have keepK : ∀ {X Y : World} {row : Option Nat} (k : Nat) (o : Obj), k < w.heap.size + 2 → w.heap.size ≤ k → X.heap[k]? = some o → X.grownBy Y row → (∀ r, row = some r → r = B ∨ (W1.heap.size ≤ r ∧ ∃ o : Obj, X.heap[r]? = some o ∧ o.isCells = false)) → Y.heap[k]? = some o := by
    intro X Y row k o hk hk2 ho hg' hr
    refine (hg'.block k (blk_lt ho) (fun e => ?_)).trans ho
    rcases hr k e.symm with h | ⟨h, _⟩
    · omega
    · omega
  have lift : ∀ {X : World} {row : Option Nat}, (∀ r, row = some r → r = B ∨ (W1.heap.size ≤ r ∧ ∃ o : Obj, X.heap[r]? = some o ∧ o.isCells = false)) → ∀ r, row = some r → r = B ∨ (w.heap.size ≤ r ∧ ∃ o : Obj, X.heap[r]? = some o ∧ o.isCells = false) :=
    fun hr r e => (hr r e).imp id (fun ⟨q, o⟩ => ⟨by omega, o⟩)
  refine ⟨w.heap.size + 1, [{ target := .collected w.heap.size, args := #[] }], W1, { target := .fn (.func gf) lb, args := #[.func (.yield (w.heap.size + 1)) #[] #[]] }, W1, gf,
    #[.func (.yield (w.heap.size + 1)) #[] #[]] ++ lb, W1, ?_, ?_, fun _ _ => trivial, ?_, fun _ => h1, ?_⟩
  · rw [← hW1, hrec]; exact run_enterLoop_outer _ _ _ _ _
  · simp only [resolve, hg]
    simp [go_sem]
  · simp [invoke, go_sem, eg]
  · refine (hseq (w.heap.size + 1)
      (fun b W => I b W ∧ W.heap[w.heap.size + 1]? = some (.loop (rec .ready none)) ∧ W.heap[w.heap.size]? = some (.deferred (some [])))
      (fun W => ∃ c, Ix c W ∧ W.heap[w.heap.size + 1]? = some (.loop (rec .done (some c))) ∧ W.heap[w.heap.size]? = some (.deferred (some []))) W1
      (fun b X Y row hs hg' hr => ⟨hI b X Y row hs.1 hg' (lift hr), keepK _ _ (by omega) (by omega) hs.2.1 hg' hr, keepK _ _ (by omega) (by omega) hs.2.2 hg' hr⟩)
      (fun b X Y row hs hg' hr => by
        obtain ⟨c, hc, q1, q2⟩ := hs
        exact ⟨c, hIx c () X Y row hc hg' (lift hr), keepK _ _ (by omega) (by omega) q1 hg' hr, keepK _ _ (by omega) (by omega) q2 hg' hr⟩)
      ?_ hT1 ⟨hI1, hL1, hK1⟩).mono ?_
    · rintro b args b' W v hR ⟨hi, hl, hk⟩ hv
      have hlt : w.heap.size + 1 < W.heap.size := blk_lt hl
      have hy := run_yield (P := Tryz.prog) (args := args) hl (by rw [hrec]; exact hps b args b' hR)
      rw [hrec] at hy
      refine ⟨fn, _, assign, body, hy, roundIn_of_wpIn hfn (hassign _ args W _ (hps b args b' hR) ⟨_, run_beginRound hl (by rw [hrec]), ?_⟩)⟩
      have hl2 : (W.putObj (w.heap.size + 1) (.loop { rec .ready none with state := .busy })).heap[w.heap.size + 1]? = some (.loop { rec .ready none with state := .busy }) := World.putObj_heap_same hlt
      have hk2 : (W.putObj (w.heap.size + 1) (.loop { rec .ready none with state := .busy })).heap[w.heap.size]? = some (.deferred (some [])) := (World.putObj_heap_other (by omega)).trans hk
      have hv2 : Kp v (W.putObj (w.heap.size + 1) (.loop { rec .ready none with state := .busy })) := hKp _ _ _ _ _ hv hl rfl
      refine wpIn_mono (hbody _ b args b' _ v (by omega) hR (hI.put hi hl rfl (by omega) _) hv2) ?_
      have fin : ∀ (jump : Option Code) (W3 : World), KeepsFrom w.heap.size (W.putObj (w.heap.size + 1) (.loop { rec .ready none with state := .busy })) W3 →
          (Instr.endRound (w.heap.size + 1) jump).run Tryz.prog W3 = .ok (.bool jump.isNone) (W3.putObj (w.heap.size + 1) (.loop (rec (if jump.isNone then .ready else .done) jump))) ∧
          W3.heap[w.heap.size + 1]? = some (.loop { rec .ready none with state := .busy }) ∧
          (W3.putObj (w.heap.size + 1) (.loop (rec (if jump.isNone then .ready else .done) jump))).heap[w.heap.size + 1]? = some (.loop (rec (if jump.isNone then .ready else .done) jump)) ∧
          (W3.putObj (w.heap.size + 1) (.loop (rec (if jump.isNone then .ready else .done) jump))).heap[w.heap.size]? = some (.deferred (some [])) := fun jump W3 hk3 => by
        have hl3 := hk3.same _ _ (by omega) hl2 rfl
        have := run_endRound (P := Tryz.prog) jump hl3
        rw [hrec] at this ⊢
        exact ⟨this, by rw [hrec] at hl3; exact hl3, World.putObj_heap_same (blk_lt hl3), (World.putObj_heap_other (by omega)).trans (hk3.same _ _ (Nat.le_refl _) hk2 rfl)⟩
      rintro e a3 W3 hp
      cases e with
      | normal =>
        obtain ⟨hk3, hi3, hv3⟩ := hp
        obtain ⟨hr, hl3, hl4, hk4⟩ := fin none W3 hk3
        exact ⟨_, _, hr, .inl ⟨rfl, ⟨hI.put hi3 hl3 rfl (by omega) _, hl4, hk4⟩, hKp _ _ _ _ _ hv3 hl3 rfl⟩⟩
      | ret =>
        obtain ⟨hk3, hi3⟩ := hp
        obtain ⟨hr, hl3, hl4, hk4⟩ := fin (some .ret) W3 hk3
        exact ⟨_, _, hr, .inr ⟨rfl, .ret, (hIx .ret).put (b := ()) hi3 hl3 rfl (by omega) _, hl4, hk4⟩⟩
      | exit id => exact hp.elim
      | goto t => exact hp.elim
      | panic ch => exact hp.elim
      | outgrown => exact hp.elim
    · rintro e W2 ⟨⟨v, rfl⟩, (⟨b, hE, hi, hl, hk⟩ | ⟨c, hi, hl, hk⟩)⟩
      · exact ⟨none, _, by have := run_endLoop (P := Tryz.prog) hl (by rw [hrec]; simp); rw [hrec] at this; exact this, hdone _ b _ (Nat.le_refl _) hE (hI.put hi hl rfl (by omega) _) ((World.putObj_heap_other (by omega)).trans hk)⟩
      · exact ⟨some c, _, by have := run_endLoop (P := Tryz.prog) hl (by rw [hrec]; simp); rw [hrec] at this; exact this, hstop _ c _ (Nat.le_refl _) ((hIx c).put (b := ()) hi hl rfl (by omega) _) ((World.putObj_heap_other (by omega)).trans hk)⟩
theorem Txt.kept {B : Nat} {r : List UInt8} {X : World} {q : Nat} {o o' : Obj} (h : Txt B r X) (ho : X.heap[q]? = some o) (hc : o.isCells = false) : Txt B r (X.putObj q o') := by
  refine (World.putObj_heap_other (fun e => ?_)).trans h
  subst e
  have h' : X.heap[B]? = _ := h
  rw [h'] at ho
  cases ho
  cases hc
/-- The lines of a text, one a round. -/
theorem lines_iter (m B : Nat) (hm : 1 ≤ m) (t0 : List UInt8) (hlen : t0.length ≤ 1000000) :
    BoxIter m 77 #[.pointer (some ⟨B, 0, none⟩)] B (fun (pre : List (List UInt8)) args pre' => ∃ a raw t, args = #[.string (bA raw)] ∧ linesT t0 = pre ++ a :: t ∧ Lib.trimSuffix raw [10] = a ∧ raw.length ≤ 1000000 ∧ pre' = pre ++ [a]) [] (fun pre => pre = linesT t0) (Txt B) (Txt B t0) := by
  intro l J Jx W hJ hJx hY hT h0
  refine (lines1_in m hm l B t0 hlen J Jx (fun pre W h => hJ.drew h) (fun pre W v h => hJ.set h v) (fun pre a raw W1 v ht hr hl hj hv => by obtain ⟨t, ht⟩ := ht; exact hY pre _ (pre ++ [a]) W1 v ⟨a, raw, t, rfl, ht, hr, hl, rfl⟩ hj hv) W hT h0).mono ?_
  rintro e W' ⟨hv, h | h⟩
  · exact ⟨hv, .inl ⟨_, rfl, h⟩⟩
  · exact ⟨hv, .inr h⟩
end Go.Proofs.YtfppidnfomelpaaGreatDoor
