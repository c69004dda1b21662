/- A range over an iterator that keeps its state in a box, and ranges over another one itself. -/
import Derived.Test.YtfppidnfomelpaaGreatDoorRL
namespace Go.Proofs.YtfppidnfomelpaaGreatDoor
open Go.RowKit Go.Proofs Go.Lib Go.Joins

attribute [local go_sem] Oper.semAt_some

set_option maxHeartbeats 1000000 in
theorem split_seq (s sep : ByteArray) (w : World) :
    Calls Tryz.prog 169 #[.string s, .string sep, .int .i64 0] w fun e w' => e = .returned (.func (.func 184) #[] #[.pointer (some ⟨w.heap.size + 1, 0, none⟩), .pointer (some ⟨w.heap.size, 0, none⟩), .pointer (some ⟨w.heap.size + 2, 0, none⟩)]) ∧ w' = ((w.alloc (.cells #[.string s] 9)).alloc (.cells #[.string sep] 9)).alloc (.cells #[.int .i64 0] 3) := by
  go_enter Tryz.func169, Tryz.ntmps169
  go_wp2
  go_ret
  exact ⟨rfl, rfl⟩
set_option maxHeartbeats 1000000 in
theorem split_any (s sep : ByteArray) (w : World) :
    Calls Tryz.prog 145 #[.string s, .string sep] w fun e w' => e = .returned (.func (.func 184) #[] #[.pointer (some ⟨w.heap.size + 1, 0, none⟩), .pointer (some ⟨w.heap.size, 0, none⟩), .pointer (some ⟨w.heap.size + 2, 0, none⟩)]) ∧ w' = ((w.alloc (.cells #[.string s] 9)).alloc (.cells #[.string sep] 9)).alloc (.cells #[.int .i64 0] 3) := by
  go_enter Tryz.func145, Tryz.ntmps145
  go_wp2_with (go_at_call 169; refine (split_seq _ _ _).mono ?_; rintro e w1 ⟨rfl, rfl⟩)
  go_ret
  exact ⟨rfl, rfl⟩
/-- The three boxes of splitSeq$1: the text, the separator (a comma), how much of it is kept (nothing). -/
structure SpT (B : Nat) (r : List UInt8) (w : World) : Prop where
  txt : Txt B r w
  sep : Txt (B + 1) [44] w
  save : w.heap[B + 2]? = some (.cells #[.int .i64 0] 3 (0, 0))
theorem SpT.put {B : Nat} {r : List UInt8} {w : World} (h : SpT B r w) (q : List UInt8) : SpT B q (w.setCell ⟨B, 0, none⟩ (.string (bA q))) :=
  ⟨h.txt.put q, keep_setC h.sep (by omega), keep_setC h.save (by omega)⟩
set_option maxRecDepth 100000 in
set_option maxHeartbeats 4000000 in
theorem split1_in (n : Nat) (_hn : 1 ≤ n) (l B : Nat) (t0 : List UInt8) (hlen : t0.length ≤ 1000000) (I : List (List UInt8) → World → Prop) (Ix : World → Prop) (hIs : ∀ pre W v, I pre W → I pre (W.setCell ⟨B, 0, none⟩ v))
    (hY : ∀ pre a W v, (∃ t, splitT 44 t0 = pre ++ a :: t) → a.length ≤ 1000000 → I pre W → SpT B v W → YieldAt Fence.wide (n - 1) Tryz.prog l #[.string (bA a)] W fun e W' =>
      (e = .returned (.bool true) ∧ I (pre ++ [a]) W' ∧ SpT B v W') ∨ (e = .returned (.bool false) ∧ Ix W'))
    (W : World) (hB : SpT B t0 W) (h0 : I [] W) :
    CallsIn Fence.wide n Tryz.prog 184 #[.func (.yield l) #[] #[], .pointer (some ⟨B + 1, 0, none⟩), .pointer (some ⟨B, 0, none⟩), .pointer (some ⟨B + 2, 0, none⟩)] W fun e W' => (∃ v, e = .returned v) ∧ (I (splitT 44 t0) W' ∨ Ix W') := by
  refine callsIn_of_wp Tryz.func184 rfl trivial ?_ rfl
  simp only [Tryz.ntmps184, List.size_toArray, List.length_cons, List.length_nil, Nat.reduceAdd, Nat.reduceSub, Array.replicate_succ, Array.replicate_zero, List.push_toArray, List.append_toArray, List.nil_append, List.cons_append]
  have hc2 : W.cell? ⟨B + 1, 0, none⟩ = some (.string ⟨#[44]⟩) := hB.sep.cell
  gi_wp2
  clear hc2
  gi_loopw [7, 8] (fun _ _ wr => ∃ (pre : List (List UInt8)) (r : List UInt8), Hid (splitT 44 t0 = pre ++ splitT 44 r) ∧ r.length ≤ 1000000 ∧ Hid (I pre wr) ∧ Hid (SpT B r wr)) (fun _ _ wr => boxLen B wr)
  case atStart => exact ⟨[], t0, mkH rfl, hlen, mkH h0, mkH hB⟩
  case round =>
    obtain ⟨pre, r, HL, hr, HI, HT⟩ := hrel
    have hc := HT.out.txt.cell
    have hf := HT.out.txt.frozen
    have hcs : wr.cell? ⟨B + 1, 0, none⟩ = some (.string ⟨#[44]⟩) := HT.out.sep.cell
    have hcv := (cell1 HT.out.save).1
    have hsz : (bA r).size = r.length := bA_size
    have hbl := boxLen_eq hc
    have HIB := mkH (fun W => Tryz.strings_Index_one (bA r) 44 W)
    rw [bA_toList] at HIB
    rcases index_cases r 44 with hi | ⟨i, hi⟩
    · have hcut := cut_index_no hi
      rw [hi] at HIB
      have hln : splitT 44 r = [r] := by rw [splitT, dif_neg (by rw [hcut]; simp)]
      obtain ⟨fn, tmps, assign, body, hy, hR⟩ := hY pre r wr r ⟨[], by rw [HL.out, hln]⟩ hr HI.out HT.out
      have HR := mkH hR
      have HLN : Hid (splitT 44 t0 = pre ++ [r]) := mkH (by rw [HL.out, hln])
      clear hi hcut hln hR
      gi_wp2_with (refine ⟨trivial, ?_⟩; gi_at_call 186; refine (callsIn_wide.2 (HIB.out _)).mono ?_; rintro e w1 ⟨rfl, rfl⟩)
      refine HR.out.mono ?_
      rintro e W3 (⟨rfl, hI3, hT3⟩ | ⟨rfl, hx3⟩)
      · gi_wp2
        go_end0
        refine ⟨⟨_, rfl⟩, .inl ?_⟩
        rw [HLN.out]
        exact hI3
      · gi_wp2
        go_end0
        exact ⟨⟨_, rfl⟩, .inr hx3⟩
    · obtain ⟨hcut, hil⟩ := cut_index_yes hi
      rw [hi] at HIB
      have e1 : bA (r.take i) = (bA r).extract 0 i := by rw [extract_eq, bA_toList]; simp [bA]
      have e2 : bA (r.drop (i + 1)) = (bA r).extract (i + 1) (bA r).size := by
        rw [extract_eq, bA_toList, List.take_of_length_le (by rw [List.length_drop, bA_size]; exact Nat.le_refl _)]
        rfl
      have hln : splitT 44 r = r.take i :: splitT 44 (r.drop (i + 1)) := by rw [splitT, dif_pos (by rw [hcut]), hcut]
      obtain ⟨fn, tmps, assign, body, hy, hR⟩ := hY pre (r.take i) wr r ⟨_, by rw [HL.out, hln]⟩ (by rw [List.length_take]; omega) HI.out HT.out
      rw [e1] at hy
      have HR := mkH hR
      have HLN : Hid (splitT 44 t0 = (pre ++ [r.take i]) ++ splitT 44 (r.drop (i + 1))) := mkH (by rw [HL.out, hln]; simp)
      have HE2 := mkH e2
      have HIL := mkH hil
      have c1 : (0 : Int) ≤ (i : Int) := by omega
      have c0 : (i : Int) ≤ 1000000 := by omega
      have c3 : (0 : Int) ≤ (i : Int) + 1 := by omega
      have c4 : (i : Int) + 1 ≤ ((bA r).size : Int) := by omega
      have c5 : (i : Int) ≤ ((bA r).size : Int) := by omega
      clear hi hcut hln hR e1 e2 hil hsz
      gi_wp2_with (refine ⟨trivial, ?_⟩; gi_at_call 186; refine (callsIn_wide.2 (HIB.out _)).mono ?_; rintro e w1 ⟨rfl, rfl⟩)
      refine HR.out.mono ?_
      rintro e W3 (⟨rfl, hI3, hT3⟩ | ⟨rfl, hx3⟩)
      · have HI3 := mkH hI3
        have HT3 := mkH hT3
        have d1 := hT3.txt.cell
        have d2 : W3.cell? ⟨B + 1, 0, none⟩ = some (.string ⟨#[44]⟩) := hT3.sep.cell
        have d3 := hT3.txt.frozen
        clear hI3 hT3
        gi_wp2
        go_roundw
        case rel =>
          refine ⟨pre ++ [r.take i], r.drop (i + 1), HLN, by rw [List.length_drop]; omega, mkH ?_, mkH ?_⟩
          · exact hIs _ _ _ HI3.out
          · rw [← HE2.out]
            exact HT3.out.put _
        case measure =>
          rw [← HE2.out, boxLen_eq (HT3.out.put _).txt.cell, hbl, List.length_drop]
          have := HIL.out
          omega
      · gi_wp2
        refine bodyPost_ret (results_none rfl _ _ _) rfl ?_
        exact ⟨⟨_, rfl⟩, .inr hx3⟩
end Go.Proofs.YtfppidnfomelpaaGreatDoor

namespace Go.Proofs.YtfppidnfomelpaaGreatDoor
open Go.RowKit Go.Proofs Go.Lib Go.Joins

theorem SpT.kept {B : Nat} {r : List UInt8} {X : World} {q : Nat} {o o' : Obj} (h : SpT B r X) (ho : X.heap[q]? = some o) (hc : o.isCells = false) : SpT B r (X.putObj q o') := by
  refine ⟨h.txt.kept ho hc, h.sep.kept ho hc, (World.putObj_heap_other (fun e => ?_)).trans h.save⟩
  subst e
  rw [h.save] at ho
  cases ho
  cases hc
theorem split_iter (m B : Nat) (hm : 1 ≤ m) (t0 : List UInt8) (hlen : t0.length ≤ 1000000) :
    BoxIter m 184 #[.pointer (some ⟨B + 1, 0, none⟩), .pointer (some ⟨B, 0, none⟩), .pointer (some ⟨B + 2, 0, none⟩)] B (fun (pre : List (List UInt8)) args pre' => ∃ a t, args = #[.string (bA a)] ∧ splitT 44 t0 = pre ++ a :: t ∧ a.length ≤ 1000000 ∧ pre' = pre ++ [a]) [] (fun pre => pre = splitT 44 t0) (SpT B) (SpT B t0) := by
  intro l J Jx W hJ hJx hY hT h0
  refine (split1_in m hm l B t0 hlen J Jx (fun pre W v h => hJ.set h v) (fun pre a W1 v ht hl hj hv => by obtain ⟨t, ht⟩ := ht; exact hY pre _ (pre ++ [a]) W1 v ⟨a, t, rfl, ht, hl, rfl⟩ hj hv) W hT h0).mono ?_
  rintro e W' ⟨hv, h | h⟩
  · exact ⟨hv, .inl ⟨_, rfl, h⟩⟩
  · exact ⟨hv, .inr h⟩
end Go.Proofs.YtfppidnfomelpaaGreatDoor

namespace Go.Proofs.YtfppidnfomelpaaGreatDoor
open Go.RowKit Go.Proofs Go.Lib Go.Joins

/-- What an iterator that keeps its state in the box B gives: from b0 on, one step R a round, till E. -/
def BoxIter2 {β γ : Type} (m gf : Nat) (lb : Array Value) (B : Nat) (R : β → Array Value → β → Prop) (b0 : β) (E : β → Prop) (Kp : γ → World → Prop) (T0 : World → Prop) : Prop :=
  ∀ (l : Nat) (J : β → World → Prop) (Jx : World → Prop) (W : World), AbB B W.heap.size J → AbB B W.heap.size (fun (_ : Unit) => Jx) →
    (∀ b args b' W1 v, R b args b' → J b W1 → Kp v W1 → YieldAt Fence.wide (m - 1) Tryz.prog l args W1 fun e W' =>
      (e = .returned (.bool true) ∧ J b' W' ∧ Kp v W') ∨ (e = .returned (.bool false) ∧ Jx W' ∧ Kp v W')) →
    T0 W → J b0 W → CallsIn Fence.wide m Tryz.prog gf (#[.func (.yield l) #[] #[]] ++ lb) W fun e W' => (∃ v, e = .returned v) ∧ ((∃ b, E b ∧ J b W') ∨ Jx W')

/-- How the body of a round may be left. -/
def boxPost2 {β γ : Type} (w0 : Nat) (Kp : γ → World → Prop) (v : γ) (I : β → World → Prop) (Ix : Code → World → Prop) (b' : β) (W : World) : Exit → Act → World → Prop
  | .normal, _, W' => KeepsFrom w0 W W' ∧ I b' W' ∧ Kp v W'
  | .ret, _, W' => KeepsFrom w0 W W' ∧ Ix .ret W' ∧ Kp v W'
  | _, _, _ => False

/-- A range over such an iterator. -/
theorem range_box2 {β γ : Type} {g : Operand} {ps : Array Tmp} {assign body : Code} {Q : Exit → Act → World → Prop} {a : Act} {w : World} {n : Nat} (h1 : 1 ≤ n) {gf : Nat} {lb : Array Value} (hg : a.eval g = .func (.func gf) #[] lb) (eg : ∀ args w, (callFunc gf args).run Tryz.prog w = .ok (.enter gf args) w)
    {B : Nat} {R : β → Array Value → β → Prop} {b0 : β} {E : β → Prop} {Kp : γ → World → Prop} {T0 : World → Prop} (hseq : BoxIter2 (n - 1) gf lb B R b0 E Kp T0) (hKp : ∀ v X o o', Kp v X → X.heap[w.heap.size + 1]? = some o → o.isCells = false → Kp v (X.putObj (w.heap.size + 1) o')) (hps : ∀ b args b', R b args b' → args.size = ps.size)
    (hB0 : B ≠ w.heap.size) (hB1 : B ≠ w.heap.size + 1) (I : β → World → Prop) (Ix : Code → World → Prop) (hI : AbB B w.heap.size I) (hIx : ∀ c, AbB B w.heap.size (fun (_ : Unit) => Ix c)) (h0 : I b0 w)
    (hT : ∀ r, T0 ((w.alloc (.deferred (some []))).alloc (.loop r))) (a1 : Array Value → Act)
    (hassign : ∀ (l : Nat) (args : Array Value) (W : World) (K : Act → World → Prop), args.size = ps.size → K (a1 args) W →
      assign.wpIn (Fence.wide.inRound l) (n - 1 - 1) Tryz.prog (Exit.then K (fun _ _ _ => False)) { tmps := (ps.zip args).foldl (fun t (p, v) => t.setIfInBounds p v) a.tmps, defers := [] } W)
    (hbody : ∀ (l : Nat) (b : β) (args : Array Value) (b' : β) (W : World) (v : γ), w.heap.size ≤ l → R b args b' → I b W → Kp v W → body.wpIn (Fence.wide.inRound l) (n - 1 - 1) Tryz.prog (boxPost2 w.heap.size Kp v I Ix b' W) (a1 args) W)
    (hdone : ∀ (D : Nat) (b : β) (W : World), w.heap.size ≤ D → E b → I b W → W.heap[D]? = some (.deferred (some [])) → Q .normal { a with defers := { target := .collected D, args := #[] } :: a.defers } W)
    (hstop : ∀ (D : Nat) (c : Code) (W : World), w.heap.size ≤ D → Ix c W → W.heap[D]? = some (.deferred (some [])) → c.wpIn Fence.wide n Tryz.prog Q { a with defers := { target := .collected D, args := #[] } :: a.defers } W) :
    (Code.rangeFunc g ps assign body).wpIn Fence.wide n Tryz.prog Q a w := by
  refine wpIn_rangeFunc fun fn hfn => ?_
  obtain ⟨rec, hrec⟩ : ∃ rec : LoopState → Option Code → Loop, rec = fun st pe => { state := st, pending := pe, fn, tmps := a.tmps, params := ps, assign, body, defers := w.heap.size } := ⟨_, rfl⟩
  obtain ⟨W1, hW1⟩ : ∃ W1, (w.alloc (.deferred (some []))).alloc (.loop (rec .ready none)) = W1 := ⟨_, rfl⟩
  have hsz : W1.heap.size = w.heap.size + 2 := by rw [← hW1]; simp
  have hL1 : W1.heap[w.heap.size + 1]? = some (.loop (rec .ready none)) := by
    rw [← hW1]; have := World.alloc_heap_new (w.alloc (.deferred (some []))) (.loop (rec .ready none)); rwa [World.size_alloc] at this
  have hK1 : W1.heap[w.heap.size]? = some (.deferred (some [])) := by
    rw [← hW1]; exact (Below.heap_alloc _ _ _ (by simp)).trans (World.alloc_heap_new w _)
  have hI1 : I b0 W1 := by rw [← hW1]; exact hI.alloc (hI.alloc h0 _) _
  have hT1 : T0 W1 := by rw [← hW1]; exact hT _
  have keepK : ∀ {X Y : World} {row : Option Nat} (k : Nat) (o : Obj), k < w.heap.size + 2 → w.heap.size ≤ k → X.heap[k]? = some o → X.grownBy Y row → (∀ r, row = some r → r = B ∨ (W1.heap.size ≤ r ∧ ∃ o : Obj, X.heap[r]? = some o ∧ o.isCells = false)) → Y.heap[k]? = some o := by
    intro X Y row k o hk hk2 ho hg' hr
    refine (hg'.block k (blk_lt ho) (fun e => ?_)).trans ho
    rcases hr k e.symm with h | ⟨h, _⟩
    · omega
    · omega
  have lift : ∀ {X : World} {row : Option Nat}, (∀ r, row = some r → r = B ∨ (W1.heap.size ≤ r ∧ ∃ o : Obj, X.heap[r]? = some o ∧ o.isCells = false)) → ∀ r, row = some r → r = B ∨ (w.heap.size ≤ r ∧ ∃ o : Obj, X.heap[r]? = some o ∧ o.isCells = false) :=
    fun hr r e => (hr r e).imp id (fun ⟨q, o⟩ => ⟨by omega, o⟩)
  refine ⟨w.heap.size + 1, [{ target := .collected w.heap.size, args := #[] }], W1, { target := .fn (.func gf) lb, args := #[.func (.yield (w.heap.size + 1)) #[] #[]] }, W1, gf,
    #[.func (.yield (w.heap.size + 1)) #[] #[]] ++ lb, W1, ?_, ?_, fun _ _ => trivial, ?_, fun _ => h1, ?_⟩
  · rw [← hW1, hrec]; exact run_enterLoop_outer _ _ _ _ _
  · simp only [resolve, hg]
    simp [go_sem]
  · simp [invoke, go_sem, eg]
  · refine (hseq (w.heap.size + 1)
      (fun b W => I b W ∧ W.heap[w.heap.size + 1]? = some (.loop (rec .ready none)) ∧ W.heap[w.heap.size]? = some (.deferred (some [])))
      (fun W => ∃ c, Ix c W ∧ W.heap[w.heap.size + 1]? = some (.loop (rec .done (some c))) ∧ W.heap[w.heap.size]? = some (.deferred (some []))) W1
      (fun b X Y row hs hg' hr => ⟨hI b X Y row hs.1 hg' (lift hr), keepK _ _ (by omega) (by omega) hs.2.1 hg' hr, keepK _ _ (by omega) (by omega) hs.2.2 hg' hr⟩)
      (fun b X Y row hs hg' hr => by
        obtain ⟨c, hc, q1, q2⟩ := hs
        exact ⟨c, hIx c () X Y row hc hg' (lift hr), keepK _ _ (by omega) (by omega) q1 hg' hr, keepK _ _ (by omega) (by omega) q2 hg' hr⟩)
      ?_ hT1 ⟨hI1, hL1, hK1⟩).mono ?_
    · rintro b args b' W v hR ⟨hi, hl, hk⟩ hv
      have hlt : w.heap.size + 1 < W.heap.size := blk_lt hl
      have hy := run_yield (P := Tryz.prog) (args := args) hl (by rw [hrec]; exact hps b args b' hR)
      rw [hrec] at hy
      refine ⟨fn, _, assign, body, hy, roundIn_of_wpIn hfn (hassign _ args W _ (hps b args b' hR) ⟨_, run_beginRound hl (by rw [hrec]), ?_⟩)⟩
      have hl2 : (W.putObj (w.heap.size + 1) (.loop { rec .ready none with state := .busy })).heap[w.heap.size + 1]? = some (.loop { rec .ready none with state := .busy }) := World.putObj_heap_same hlt
      have hk2 : (W.putObj (w.heap.size + 1) (.loop { rec .ready none with state := .busy })).heap[w.heap.size]? = some (.deferred (some [])) := (World.putObj_heap_other (by omega)).trans hk
      have hv2 : Kp v (W.putObj (w.heap.size + 1) (.loop { rec .ready none with state := .busy })) := hKp _ _ _ _ hv hl rfl
      refine wpIn_mono (hbody _ b args b' _ v (by omega) hR (hI.put hi hl rfl (by omega) _) hv2) ?_
      have fin : ∀ (jump : Option Code) (W3 : World), KeepsFrom w.heap.size (W.putObj (w.heap.size + 1) (.loop { rec .ready none with state := .busy })) W3 →
          (Instr.endRound (w.heap.size + 1) jump).run Tryz.prog W3 = .ok (.bool jump.isNone) (W3.putObj (w.heap.size + 1) (.loop (rec (if jump.isNone then .ready else .done) jump))) ∧
          W3.heap[w.heap.size + 1]? = some (.loop { rec .ready none with state := .busy }) ∧
          (W3.putObj (w.heap.size + 1) (.loop (rec (if jump.isNone then .ready else .done) jump))).heap[w.heap.size + 1]? = some (.loop (rec (if jump.isNone then .ready else .done) jump)) ∧
          (W3.putObj (w.heap.size + 1) (.loop (rec (if jump.isNone then .ready else .done) jump))).heap[w.heap.size]? = some (.deferred (some [])) := fun jump W3 hk3 => by
        have hl3 := hk3.same _ _ (by omega) hl2 rfl
        have := run_endRound (P := Tryz.prog) jump hl3
        rw [hrec] at this ⊢
        exact ⟨this, by rw [hrec] at hl3; exact hl3, World.putObj_heap_same (blk_lt hl3), (World.putObj_heap_other (by omega)).trans (hk3.same _ _ (Nat.le_refl _) hk2 rfl)⟩
      rintro e a3 W3 hp
      cases e with
      | normal =>
        obtain ⟨hk3, hi3, hv3⟩ := hp
        obtain ⟨hr, hl3, hl4, hk4⟩ := fin none W3 hk3
        exact ⟨_, _, hr, .inl ⟨rfl, ⟨hI.put hi3 hl3 rfl (by omega) _, hl4, hk4⟩, hKp _ _ _ _ hv3 hl3 rfl⟩⟩
      | ret =>
        obtain ⟨hk3, hi3, hv3⟩ := hp
        obtain ⟨hr, hl3, hl4, hk4⟩ := fin (some .ret) W3 hk3
        exact ⟨_, _, hr, .inr ⟨rfl, ⟨.ret, (hIx .ret).put (b := ()) hi3 hl3 rfl (by omega) _, hl4, hk4⟩, hKp _ _ _ _ hv3 hl3 rfl⟩⟩
      | exit id => exact hp.elim
      | goto t => exact hp.elim
      | panic ch => exact hp.elim
      | outgrown => exact hp.elim
    · rintro e W2 ⟨⟨v, rfl⟩, (⟨b, hE, hi, hl, hk⟩ | ⟨c, hi, hl, hk⟩)⟩
      · exact ⟨none, _, by have := run_endLoop (P := Tryz.prog) hl (by rw [hrec]; simp); rw [hrec] at this; exact this, hdone _ b _ (Nat.le_refl _) hE (hI.put hi hl rfl (by omega) _) ((World.putObj_heap_other (by omega)).trans hk)⟩
      · exact ⟨some c, _, by have := run_endLoop (P := Tryz.prog) hl (by rw [hrec]; simp); rw [hrec] at this; exact this, hstop _ c _ (Nat.le_refl _) ((hIx c).put (b := ()) hi hl rfl (by omega) _) ((World.putObj_heap_other (by omega)).trans hk)⟩
theorem round_any {l l' n n' : Nat} {f : FuncId} {tmps : Array Value} {assign body : Code} {w : World} {R : Ending → World → Prop} (h : RoundIn Fence.wide n Tryz.prog l f tmps assign body w R) : RoundIn (Fence.wide.inRound l') n' Tryz.prog l f tmps assign body w R :=
  ⟨h.1, fun c cs _ => h.2 c cs (room_wide _)⟩
end Go.Proofs.YtfppidnfomelpaaGreatDoor
