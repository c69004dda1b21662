/- What schema.Row does, said of every call. -/
import Derived.RangeFuncNested
import Derived.RangeFuncCalls
import Derived.RangeFuncLeaves
import Derived.TacticsInMore
import Derived.OrdersIn
import Derived.Test.YtlnkbhbpkmnkaaaGreatDoorFX3
import Derived.RangeFuncBound
import Derived.Shelf.Abstract
import Derived.Shelf.RegionOpen
import Derived.WalkKit
import Derived.OwnWalkIn
import Derived.LoopNIn
import Derived.LoopIn
import Derived.Test.YtlnkbhbpkmnkaaaGreatDoorFW5
namespace Go.Proofs.YtlnkbhbpkmnkaaaGreatDoor.F
open Go.RowKit Go.Proofs Go.Shelf Go.Joins

theorem oper_round {o : Oper} {a : Act} {w : World} {K : Act → World → Prop} {Q : Exit → Act → World → Prop} {l n : Nat} (hs : ∀ c, o.op ≠ .defer c) (h : o.wp Tryz.prog a w K Q) : o.wpIn (Fence.wide.inRound l) n Tryz.prog a w K Q := by
  refine ⟨fun _ _ => trivial, ?_⟩
  rw [show (Fence.wide.inRound l).round = some l from rfl, Oper.semAt_some l a.eval o hs]
  unfold Oper.wp at h
  generalize (execOp a.eval o).run Tryz.prog w = r at h ⊢
  cases r with
  | ok nx w' =>
    cases nx with
    | value v => exact h
    | skip => exact h
    | defer d => exact h
    | enter f args => exact ⟨(fun h => by cases h), CallsIn.inRound l (callsIn_wide.2 h)⟩
    | row r args => exact ⟨(fun h => by cases h), fun c cs _ => let ⟨v, w', hr, hst⟩ := h c cs; ⟨v, w', hr, stepsIn_wide.2 hst⟩⟩
    | _ => exact h.elim
  | halt hh w' =>
    cases hh with
    | panic v => exact h
    | _ => exact h.elim
theorem any_round {ops : Array Oper} {md : Region.Mode} {Q : Exit → Act → World → Prop} {l n : Nat} (hops : ∀ (i : Nat) (o : Oper), ops[i]? = some o → ∀ c, o.op ≠ .defer c) (hQ : ¬ LetsOut Q) : ∀ (fuel : Nat) (listed : Array Bool) (a : Act) (w : World), wpAny Tryz.prog md ops Q fuel listed a w → wpAnyIn (Fence.wide.inRound l) n Tryz.prog md ops Q fuel listed a w
  | 0, _, _, _, h => h
  | fuel + 1, listed, a, w, h => by
    refine ⟨h.1, fun i hi => ?_⟩
    have h2 := h.2 i hi
    unfold wpOp at h2
    unfold wpOpIn
    cases ho : ops[i]? with
    | none => rw [ho] at h2; exact any_round hops hQ fuel _ a w h2
    | some o =>
      rw [ho] at h2
      simp only at h2 ⊢
      split
      · rename_i hw
        rw [if_pos hw] at h2
        rcases h2 with h2 | ⟨_, h2⟩
        · refine oper_round (hops i o ho) ?_
          exact Oper.wp_mono (fun a w hk => any_round hops hQ fuel _ a w hk) h2
        · exact absurd h2 hQ
      · rename_i hw
        rw [if_neg hw] at h2
        exact ⟨fun _ _ => trivial, any_round hops hQ fuel _ _ w h2⟩
end Go.Proofs.YtlnkbhbpkmnkaaaGreatDoor.F
namespace Go.Proofs.YtlnkbhbpkmnkaaaGreatDoor.F
open Go.RowKit Go.Proofs Go.Shelf Go.Joins

attribute [local go_sem] Oper.semAt_some

set_option maxHeartbeats 1000000 in
theorem chunk_any (ra : Option Addr) (len cap : Nat) (w : World) :
    Calls Tryz.prog 50 #[.slice ra len cap, .int .i64 6] w fun e w' => e = .returned (.func (.func 88) #[] #[.pointer (some ⟨w.heap.size, 0, none⟩), .pointer (some ⟨w.heap.size + 1, 0, none⟩)]) ∧ w' = (w.alloc (.cells #[.slice ra len cap] 23)).alloc (.cells #[.int .i64 6] 3) := by
  go_enter Tryz.func50, Tryz.ntmps50
  go_wp2
  go_ret
  exact ⟨rfl, rfl⟩

/-- Which chunk. -/
abbrev CK (n : Nat) := { k : Nat // 6 * k < n }
def ckN {n : Nat} (x : CK n) : Nat := x.1
def ckL (n k : Nat) : Nat := if n - 6 * k < 6 then n - 6 * k else 6
def ckV (b off n : Nat) (k : CK n) : Value := .slice (some ⟨b, off + 6 * k.1, none⟩) (ckL n k.1) (ckL n k.1)
def KpC (Bs Bn : Nat) (W W' : World) : Prop := W'.cell? ⟨Bs, 0, none⟩ = W.cell? ⟨Bs, 0, none⟩ ∧ W'.cell? ⟨Bn, 0, none⟩ = W.cell? ⟨Bn, 0, none⟩
theorem KpC.t {Bs Bn : Nat} {A B C : World} (h : KpC Bs Bn A B) (k : KpC Bs Bn B C) : KpC Bs Bn A C := ⟨k.1.trans h.1, k.2.trans h.2⟩

set_option maxRecDepth 100000 in
set_option maxHeartbeats 4000000 in
theorem chunk1_in (n : Nat) (_hn : 1 ≤ n) (l Bs Bn b off len cap : Nat) (hlen : len ≤ 1000) (hcap : len ≤ cap) (J Jx : List (CK len) → World → Prop) (hJd : ∀ pre W, J pre W → J pre W.drew)
    (hY : ∀ pre x W, J pre W → pre.length < nGr len → YieldAt Fence.wide (n - 1) Tryz.prog l #[ckV b off len x] W fun e W' =>
      (e = .returned (.bool true) ∧ J (pre ++ [x]) W' ∧ KpC Bs Bn W W') ∨ (e = .returned (.bool false) ∧ Jx (pre ++ [x]) W'))
    (W : World) (hBs : W.cell? ⟨Bs, 0, none⟩ = some (.slice (some ⟨b, off, none⟩) len cap)) (hBn : W.cell? ⟨Bn, 0, none⟩ = some (.int .i64 6)) (h0 : J [] W) :
    CallsIn Fence.wide n Tryz.prog 88 #[.func (.yield l) #[] #[], .pointer (some ⟨Bs, 0, none⟩), .pointer (some ⟨Bn, 0, none⟩)] W fun e W' => (∃ v, e = .returned v) ∧
      ((∃ ys : List (CK len), ys.map ckN = List.range (nGr len) ∧ J ys W') ∨ (∃ pre : List (CK len), True ∧ Jx pre W')) := by
  refine callsIn_of_wp Tryz.func88 rfl trivial ?_ rfl
  simp only [Tryz.ntmps88, List.size_toArray, List.length_cons, List.length_nil, Nat.reduceAdd, Nat.reduceSub, Array.replicate_succ, Array.replicate_zero, List.push_toArray, List.append_toArray, List.nil_append, List.cons_append]
  gi_wp2
  gi_loopw [4] (fun i wr => ∃ (k : Nat) (pre : List (CK len)), k ≤ nGr len ∧ i = .int .i64 ((6 * k : Nat) : Int) ∧ pre.map ckN = List.range k ∧ J pre wr ∧ wr.cell? ⟨Bs, 0, none⟩ = some (.slice (some ⟨b, off, none⟩) len cap) ∧ wr.cell? ⟨Bn, 0, none⟩ = some (.int .i64 6))
    (fun i _ => len + 6 - (intOf i).toNat)
  case atStart => exact ⟨0, [], Nat.zero_le _, rfl, rfl, h0, hBs, hBn⟩
  case round =>
    obtain ⟨k, pre, hk, rfl, hpre, hJs, q0, q1⟩ := hrel
    have hpl : pre.length = k := by have := congrArg List.length hpre; simpa using this
    by_cases hlt : 6 * k < len
    · obtain ⟨fn, tmps, assign, body, hy, hR⟩ := hY pre ⟨k, hlt⟩ wr.drew (hJd _ _ hJs) (by rw [hpl]; unfold nGr; omega)
      have HLT : Hid (6 * k < len) := mkH hlt
      have hkc : k < nGr len := by unfold nGr; omega
      obtain ⟨m, hm⟩ : ∃ m, 6 * k = m := ⟨_, rfl⟩
      have eL : ckL len k = (((m : Int) + min 6 ((len - m : Nat) : Int)).toNat - m) := by unfold ckL; rw [hm]; split <;> omega
      unfold ckV at hy
      dsimp only at hy
      rw [eL, hm] at hy
      rw [hm] at hlt ⊢
      have hlt' : (m : Int) < (len : Int) := by omega
      have hmle : (m : Int) ≤ (len : Int) := by omega
      have hm0 : (0 : Int) ≤ (m : Int) := by omega
      have hcm : ¬ cap = m := by omega
      have hmc : m ≤ cap := by omega
      have HM := mkH hm
      clear eL hm
      gi_wp2
      refine wpIn_wide.2 ?_
      go_region
      all_goals gi_wp2
      refine hR.mono ?_
      rintro e W3 (⟨rfl, hJ3, hk3⟩ | ⟨rfl, hJx3⟩)
      · have p0 : W3.cell? ⟨Bs, 0, none⟩ = some (.slice (some ⟨b, off, none⟩) len cap) := hk3.1.trans q0
        have p1 : W3.cell? ⟨Bn, 0, none⟩ = some (.int .i64 6) := hk3.2.trans q1
        gi_wp2
        go_roundw
        case rel =>
          refine ⟨k + 1, pre ++ [⟨k, HLT.out⟩], hkc, ?_, ?_, hJ3, p0, p1⟩
          · have := HM.out
            congr 1
            omega
          · rw [List.map_append, hpre, List.range_succ]; rfl
        case measure => simp [intOf]; omega
      · gi_wp2
        refine bodyPost_ret (results_none rfl _ _ _) rfl ?_
        exact ⟨⟨_, rfl⟩, .inr ⟨_, trivial, hJx3⟩⟩
    · have hge : ¬ ((6 * k : Nat) : Int) < (len : Int) := by omega
      have ek : k = nGr len := by unfold nGr at hk ⊢; omega
      gi_wp2
      go_end0
      exact ⟨⟨_, rfl⟩, .inl ⟨pre, by rw [hpre, ek], hJs⟩⟩

theorem chunk_stops (n : Nat) (hn : 1 ≤ n) (Bs Bn b off len cap : Nat) (hlen : len ≤ 1000) (hcap : len ≤ cap) (w : World) (hBs : Bs < w.heap.size) (hBn : Bn < w.heap.size) (hs : w.cell? ⟨Bs, 0, none⟩ = some (.slice (some ⟨b, off, none⟩) len cap)) (h6 : w.cell? ⟨Bn, 0, none⟩ = some (.int .i64 6)) :
    SeqStopsK Fence.wide n Tryz.prog 88 #[.pointer (some ⟨Bs, 0, none⟩), .pointer (some ⟨Bn, 0, none⟩)] (fun x : CK len => #[ckV b off len x]) (KpC Bs Bn) (fun ys => ys.map ckN = List.range (nGr len)) (fun _ => True) (nGr len) w := fun l J Jx W hW hJ _ hY h0 =>
  chunk1_in n hn l Bs Bn b off len cap hlen hcap J Jx (fun pre W h => hJ pre W _ none h ⟨rfl, rfl, rfl, Nat.le_refl _, fun _ _ _ => rfl⟩ (fun r e => by cases e)) hY W ((hW.cell (p := ⟨Bs, 0, none⟩) hBs).trans hs) ((hW.cell (p := ⟨Bn, 0, none⟩) hBn).trans h6) h0
end Go.Proofs.YtlnkbhbpkmnkaaaGreatDoor.F
namespace Go.Proofs.YtlnkbhbpkmnkaaaGreatDoor.F
open Go.RowKit Go.Proofs Go.Shelf Go.Joins

/-- One group's two slices, in memory of somebody's own. -/
def GrpO (w : World) (x : Int × Value × Value) (g : Grp) : Prop := x.1 = g.1 ∧ w.ownsRow 0 38 8 x.2.1 g.2.1.length (g.2.1.flatMap encS) ∧ w.ownsRow 0 9 1 x.2.2 g.2.2.length (g.2.2.flatMap encT)
theorem GrpO.at {w : World} {x : Int × Value × Value} {g : Grp} (h : GrpO w x g) : GrpAt w x g := ⟨h.1, SlE.of_own encS_len h.2.1 rfl, SlE.of_own (k := 1) (enc := encT) (fun _ => rfl) h.2.2 rfl⟩
theorem GrpO.up {w W : World} {x : Int × Value × Value} {g : Grp} (h : GrpO w x g) (hb : Below w.heap.size w W) : GrpO W x g := ⟨h.1, E.ownsRow_up h.2.1 hb, E.ownsRow_up h.2.2 hb⟩
/-- Nothing turns but a block that is no row of Stats, and none of texts. -/
theorem GrpO.other {w w' : World} {x : Int × Value × Value} {g : Grp} {row : Option Nat} (h : GrpO w x g) (hg : w.grownBy w' row) (hr : ∀ r cur fr, row = some r → w.heap[r]? ≠ some (.cells cur 38 fr) ∧ w.heap[r]? ≠ some (.cells cur 9 fr)) : GrpO w' x g := by
  refine ⟨h.1, h.2.1.kept hg ?_, h.2.2.kept hg ?_⟩
  · rcases h.2.1.2 with ⟨e, _⟩ | ⟨q, cap, cur, e, _, hh, _⟩
    · rw [e]; exact .inl rfl
    · rw [e]; exact .inr (fun e' => (hr q cur (0, 0) e'.symm).1 hh)
  · rcases h.2.2.2 with ⟨e, _⟩ | ⟨q, cap, cur, e, _, hh, _⟩
    · rw [e]; exact .inl rfl
    · rw [e]; exact .inr (fun e' => (hr q cur (0, 0) e'.symm).2 hh)
/-- Groups in a row of somebody's own, from base B on. -/
def SlGO (B : Nat) (w : World) (v : Value) (gs : List Grp) : Prop := ∃ xs : List (Int × Value × Value), xs.length = gs.length ∧ w.ownsRow B 101 3 v gs.length (xs.flatMap encG) ∧ ∀ (j : Nat) x g, xs[j]? = some x → gs[j]? = some g → GrpO w x g
theorem SlGO.slg {B : Nat} {w : World} {v : Value} {gs : List Grp} (h : SlGO B w v gs) : SlG w v gs := by
  obtain ⟨xs, h1, h2, h3⟩ := h
  exact ⟨xs, SlE.of_own (k := 3) (enc := encG) (fun _ => rfl) h2 h1.symm, h1, fun j x g hx hg => (h3 j x g hx hg).at⟩
theorem SlGO.up {B : Nat} {w W : World} {v : Value} {gs : List Grp} (h : SlGO B w v gs) (hb : Below w.heap.size w W) : SlGO B W v gs := by
  obtain ⟨xs, h1, h2, h3⟩ := h
  exact ⟨xs, h1, E.ownsRow_up h2 hb, fun j x g hx hg => (h3 j x g hx hg).up hb⟩
/-- Nothing turns but what is no cells, or a block that is none of theirs. -/
theorem SlGO.kept {B : Nat} {w w' : World} {v : Value} {gs : List Grp} {row : Option Nat} (h : SlGO B w v gs) (hg : w.grownBy w' row) (hr : ∀ r, row = some r → ∃ o : Obj, w.heap[r]? = some o ∧ (o.isCells = false ∨ ∃ cur, o = .cells cur 60 (0, 0))) : SlGO B w' v gs := by
  have key : ∀ (T : TypeId), T ≠ 60 → ∀ r cur fr, row = some r → w.heap[r]? ≠ some (.cells cur T fr) := by
    intro T hT r cur fr e hh
    obtain ⟨o, ho, hc⟩ := hr r e
    rw [hh] at ho
    injection ho with ho
    subst ho
    rcases hc with hc | ⟨cur', hc⟩
    · cases hc
    · injection hc with _ hc _
      exact hT hc
  obtain ⟨xs, h1, h2, h3⟩ := h
  refine ⟨xs, h1, h2.kept hg ?_, fun j x g hx hg' => (h3 j x g hx hg').other hg (fun r cur fr e => ⟨key _ (by decide) r cur fr e, key _ (by decide) r cur fr e⟩)⟩
  rcases h2.2 with ⟨e, _⟩ | ⟨q, cap, cur, e, _, hh, _⟩
  · rw [e]; exact .inl rfl
  · rw [e]; exact .inr (fun e' => key _ (by decide) q cur (0, 0) e'.symm hh)
theorem SlGO_nil (B : Nat) (w : World) : SlGO B w (.slice none 0 0) [] := ⟨[], rfl, World.ownsRow_nil _ _ _ _, fun j x g hx => by simp at hx⟩
theorem SlGO.app {B : Nat} {w w' : World} {v v' : Value} {gs : List Grp} {xs : List (Int × Value × Value)} {x : Int × Value × Value} {g : Grp} (h1 : xs.length = gs.length) (ho : w.ownsRow B 101 3 v gs.length (xs.flatMap encG)) (h3 : ∀ (j : Nat) x g, xs[j]? = some x → gs[j]? = some g → GrpO w x g) (hx : GrpO w x g)
    (ho' : w'.ownsRow B 101 3 v' (gs.length + 1) (xs.flatMap encG ++ encG x)) (hg : w.grownBy w' v.ownBlock) : SlGO B w' v' (gs ++ [g]) := by
  have hr : ∀ r cur fr, v.ownBlock = some r → w.heap[r]? ≠ some (.cells cur 38 fr) ∧ w.heap[r]? ≠ some (.cells cur 9 fr) := by
    intro r cur fr e
    rcases ho.2 with ⟨e', _⟩ | ⟨q, cap, cur', e', _, hh, _⟩
    · rw [e'] at e; cases e
    · rw [e'] at e
      injection e with e
      subst e
      rw [hh]
      constructor <;> (intro h; injection h with h; injection h with _ h _; revert h; decide)
  refine ⟨xs ++ [x], by simp [h1], by rw [List.length_append, List.flatMap_append]; simpa using ho', fun j y k hy hk => ?_⟩
  by_cases hj : j < gs.length
  · rw [List.getElem?_append_left (by omega)] at hy
    rw [List.getElem?_append_left hj] at hk
    exact (h3 j y k hy hk).other hg hr
  · rw [List.getElem?_append_right (by omega), h1] at hy
    rw [List.getElem?_append_right (by omega)] at hk
    have hj0 : j - gs.length = 0 := by have := lt_of_some hk; simp at this; omega
    rw [hj0] at hy hk
    simp at hy hk
    subst hy hk
    exact hx.other hg hr

/-- What lies when the chunks pre are done. -/
def MkI (l : List Col) (rows : List (List V)) (fb : Nat) (cv : Value) (w5 : World) (pre : List (CK rows.length)) (W : World) : Prop := (∃ gv, W.heap[fb]? = some (.cells #[cv, gv] 60) ∧ SlGO (fb + 3) W gv (pre.map fun k => groupOf l (part6 rows k.1))) ∧ Below fb w5 W ∧ fb + 3 ≤ W.heap.size
theorem MkI.own {l : List Col} {rows : List (List V)} {fb B : Nat} {cv : Value} {w5 : World} (hfb : fb ≤ w5.heap.size) (hB : fb ≤ B) : OwnFrom B (MkI l rows fb cv w5) := fun s A C row hs hg hr => by
  obtain ⟨⟨gv, hf, hgs⟩, hb, h3⟩ := hs
  refine ⟨⟨gv, (hg.block fb (E.blk_lt hf) (fun e => ?_)).trans hf, hgs.kept hg (fun r e => by obtain ⟨_, o, ho, hc⟩ := hr r e; exact ⟨o, ho, .inl hc⟩)⟩, hb.grown hg (Nat.le_trans hfb hb.size) (fun k e => Nat.le_trans hB (hr k e).1), Nat.le_trans h3 hg.size⟩
  obtain ⟨_, _, ho, hc⟩ := hr fb e.symm
  rw [hf] at ho
  injection ho with ho
  subst ho
  cases hc
theorem keeps_below {A B : World} (h : Below A.heap.size A B) : KeepsOthers A B := ⟨h.size, fun k _ hk _ => (h.block k (Array.getElem?_eq_some_iff.1 hk).1).trans hk⟩
theorem make_step {l : List Col} {rows : List (List V)} {fb B : Nat} {cv gv : Value} {w5 W w8 w9 : World} {xs : List (Int × Value × Value)} {pre : List (CK rows.length)} {k : CK rows.length} {sa ba : Option Addr} {sc bc g9 cap9 : Nat}
    (hb8 : Below W.heap.size W w8) (hxs : xs.length = pre.length) (hxo : W.ownsRow (fb + 3) 101 3 gv pre.length (xs.flatMap encG)) (hxg : ∀ (j : Nat) x g, xs[j]? = some x → (pre.map fun k => groupOf l (part6 rows k.1))[j]? = some g → GrpO W x g)
    (hsv : w8.ownsRow W.heap.size 38 8 (.slice sa l.length sc) l.length ((groupOf l (part6 rows k.1)).2.1.flatMap encS)) (hbv : w8.ownsRow W.heap.size 9 1 (.slice ba l.length bc) l.length ((groupOf l (part6 rows k.1)).2.2.flatMap encT))
    (ho9 : w9.ownsRow (fb + 3) 101 3 (.slice (some ⟨g9, 0, none⟩) (pre.length + 1) cap9) (pre.length + 1) (xs.flatMap encG ++ [.int .i64 (part6 rows k.1).length, .slice sa l.length sc, .slice ba l.length bc]))
    (hg9 : (w8.alloc (.cells #[.int .i64 (part6 rows k.1).length, .slice sa l.length sc, .slice ba l.length bc] 101)).grownBy w9 gv.ownBlock) (hf : W.heap[fb]? = some (.cells #[cv, gv] 60)) (h5 : Below fb w5 W) (h3 : fb + 3 ≤ W.heap.size) :
    w9.cell? ⟨fb, 1, none⟩ = some gv ∧ w9.frozen? ⟨fb, 1, none⟩ = false ∧ ∀ (Ix : Code → List (CK rows.length) → World → Prop) (a : Act), ownPostG B (KpC (fb + 1) (fb + 2)) (MkI l rows fb cv w5) Ix (pre ++ [k]) W .normal a (w9.setCell ⟨fb, 1, none⟩ (.slice (some ⟨g9, 0, none⟩) (pre.length + 1) cap9)) := by
  have hbA : Below W.heap.size W (w8.alloc (.cells #[.int .i64 (part6 rows k.1).length, .slice sa l.length sc, .slice ba l.length bc] 101)) := ups hb8 ((Below.refl _ _).alloc (Nat.le_refl _) _)
  have hsA : fb + 3 ≤ (w8.alloc (.cells #[.int .i64 (part6 rows k.1).length, .slice sa l.length sc, .slice ba l.length bc] 101)).heap.size := Nat.le_trans h3 hbA.size
  have hoA := E.ownsRow_up hxo hbA
  have far : ∀ q, q < fb + 3 → some q ≠ gv.ownBlock := fun q hq e => by have := (hxo.lt q e.symm).1; omega
  have hf9 : w9.heap[fb]? = some (.cells #[cv, gv] 60) := (hg9.block fb (by omega) (far fb (by omega))).trans ((hbA.block fb (by omega)).trans hf)
  have hcells : ∀ q, q < fb + 3 → w9.cell? ⟨q, 0, none⟩ = W.cell? ⟨q, 0, none⟩ := fun q hq => (hg9.cell_far ⟨q, 0, none⟩ (by show q < _; omega) (far q hq)).trans (hbA.cell (p := ⟨q, 0, none⟩) (by show q < _; omega))
  obtain ⟨c0, c1⟩ := row2 hf9
  refine ⟨c1, frozen_of_row w9 fb 1 _ _ hf9, fun Ix a => ⟨?_, ?_, ?_, ?_, Nat.le_trans (Nat.le_trans hsA hg9.size) (E.grown_set w9 fb 1 (.slice (some ⟨g9, 0, none⟩) (pre.length + 1) cap9)).size⟩⟩
  · refine KeepsOthers.from (((keeps_below hbA).trans (KeepsOthers.of_grownBy hg9 (fun j o e ho => ?_))).trans (KeepsOthers.setCell _ _ _)) _
    rcases hoA.2 with ⟨e', _⟩ | ⟨q, cap, cur, e', _, hh, _⟩
    · rw [e'] at e; cases e
    · rw [e'] at e
      injection e with e
      subst e
      rw [hh] at ho
      injection ho with ho
      subst ho
      rfl
  · have hs := E.grown_set w9 fb 1 (.slice (some ⟨g9, 0, none⟩) (pre.length + 1) cap9)
    have h9 := hg9.size
    exact ⟨(hs.cell_far ⟨fb + 1, 0, none⟩ (by show fb + 1 < _; omega) (by simp)).trans (hcells _ (by omega)), (hs.cell_far ⟨fb + 2, 0, none⟩ (by show fb + 2 < _; omega) (by simp)).trans (hcells _ (by omega))⟩
  · have hset := heap_setCell_same w9 fb 1 _ _ (.slice (some ⟨g9, 0, none⟩) (pre.length + 1) cap9) hf9
    refine ⟨_, hset, ?_⟩
    rw [List.map_append]
    have hx : GrpO (w8.alloc (.cells #[.int .i64 (part6 rows k.1).length, .slice sa l.length sc, .slice ba l.length bc] 101)) ((part6 rows k.1).length, .slice sa l.length sc, .slice ba l.length bc) (groupOf l (part6 rows k.1)) := by
      have e1 : (groupOf l (part6 rows k.1)).2.1.length = l.length := by simp [groupOf]
      have e2 : (groupOf l (part6 rows k.1)).2.2.length = l.length := by simp [groupOf]
      refine ⟨rfl, ?_, ?_⟩
      · rw [e1]; exact (E.ownsRow_base hsv (Nat.zero_le _)).alloc _
      · rw [e2]; exact (E.ownsRow_base hbv (Nat.zero_le _)).alloc _
    have happ := SlGO.app (v' := .slice (some ⟨g9, 0, none⟩) (pre.length + 1) cap9) (gs := pre.map fun k => groupOf l (part6 rows k.1)) (by simpa using hxs) (by rw [List.length_map]; exact hoA) (fun j x g hx hg => (hxg j x g hx hg).up hbA) hx (by rw [List.length_map]; exact ho9) hg9
    refine happ.kept (E.grown_set w9 fb 1 (.slice (some ⟨g9, 0, none⟩) (pre.length + 1) cap9)) (fun r e => ?_)
    injection e with e
    subst e
    exact ⟨_, hf9, .inr ⟨_, rfl⟩⟩
  · exact (E.below_grown_own (h5.trans (hbA.mono (by have := h5.size; omega))) (E.ownsRow_base hoA (Nat.le_add_right fb 3)) hg9 (by omega)).setCell (p := ⟨fb, 1, none⟩) (Nat.le_refl _) _
theorem slR_chunk {w : World} {b off n c : Nat} {rows : List (List V)} (h : SlR w (.slice (some ⟨b, off, none⟩) n c) rows) (hn : n = rows.length) (k : CK rows.length) : SlR w (ckV b off rows.length k) (part6 rows k.1) := by
  obtain ⟨vs, h1, h2, h3⟩ := h
  have hk := k.2
  obtain ⟨b', off', c', e, hc, hb, hcell⟩ := h1.cons (by omega)
  injection e with e1 _ _
  injection e1 with e1
  injection e1 with eb eo _
  subst eb eo
  have hl : (part6 rows k.1).length = ckL rows.length k.1 := by simp only [part6, List.length_take, List.length_drop, ckL]; split <;> omega
  have hl2 : ((vs.drop (6 * k.1)).take 6).length = ckL rows.length k.1 := by simp only [List.length_take, List.length_drop, ckL, h2]; split <;> omega
  refine ⟨(vs.drop (6 * k.1)).take 6, ⟨_, ckL rows.length k.1, by rw [hl2]; rfl, by rw [hl2]; exact Nat.le_refl _, fun _ => ⟨b, off + 6 * k.1, rfl, hb, fun j x hx i u hu => ?_⟩⟩, by rw [hl, hl2], fun j x r hx hr => ?_⟩
  · have hj : j < 6 := by have := lt_of_some hx; rw [List.length_take] at this; omega
    rw [List.getElem?_take_of_lt hj, List.getElem?_drop] at hx
    have := hcell (6 * k.1 + j) x hx i u hu
    rwa [show off + (6 * k.1 + j) * 1 + i = off + 6 * k.1 + j * 1 + i by omega] at this
  · have hj : j < 6 := by have := lt_of_some hx; rw [List.length_take] at this; omega
    rw [List.getElem?_take_of_lt hj, List.getElem?_drop] at hx
    unfold part6 at hr
    rw [List.getElem?_take_of_lt hj, List.getElem?_drop] at hr
    exact h3 _ x r hx hr
end Go.Proofs.YtlnkbhbpkmnkaaaGreatDoor.F
namespace Go.Proofs.YtlnkbhbpkmnkaaaGreatDoor.F
open Go.RowKit Go.Proofs Go.Shelf Go.Joins

def errV (x : Int) : Value := if x = 0 then .nilIface else .iface 89 (.int .i64 x)
theorem rowGo_drop {l : List Col} {r : List V} {k : Nat} {c : Col} {v : V} (hc : l[k]? = some c) (hv : r[k]? = some v) : rowGo (l.drop k) (r.drop k) = if fitV c v = false then 1 else if (c.2.2.2.1 && v.1 == 0) = true then 7 else rowGo (l.drop (k + 1)) (r.drop (k + 1)) := by
  have e1 : l.drop k = c :: l.drop (k + 1) := by rw [List.drop_eq_getElem_cons (lt_of_some hc)]; rw [List.getElem?_eq_getElem (lt_of_some hc)] at hc; injection hc with hc; rw [hc]
  have e2 : r.drop k = v :: r.drop (k + 1) := by rw [List.drop_eq_getElem_cons (lt_of_some hv)]; rw [List.getElem?_eq_getElem (lt_of_some hv)] at hv; injection hv with hv; rw [hv]
  rw [e1, e2, rowGo]
set_option maxHeartbeats 4000000 in
set_option maxRecDepth 100000 in
theorem row_any (lv rv : Value) (l : List Col) (r : List V) (w : World) (hl : SlE 7 C.encC w lv l) (hr : E.Sl w rv r) (hlen : l.length ≤ 1000) (ht : ∀ v ∈ r, v.2.2.size ≤ maxLen) :
    Calls Tryz.prog 47 #[lv, rv] w fun e w' => e = .returned (errV (rowE l r)) ∧ Below w.heap.size w w' := by
  have HL := mkH hl
  have HT := mkH ht
  obtain ⟨la, lc, rfl, _⟩ := hl.slice
  obtain ⟨ra, rc, rfl, hrc, hrcell⟩ := hr
  have HRC := mkH hrcell
  clear hl ht hrcell
  by_cases hne : r.length = l.length
  · rw [← hne]
    have HE : Hid (rowE l r = rowGo (l.drop 0) (r.drop 0)) := mkH (by unfold rowE; rw [if_pos hne]; rfl)
    have HNE := mkH hne
    have hrl : r.length ≤ 1000 := by omega
    clear hne
    go_enter Tryz.func47, Tryz.ntmps47
    go_wp2
    go_loopw [15] (fun vi wr => ∃ k : Nat, k ≤ r.length ∧ vi = .int .i64 k ∧ Hid (rowE l r = rowGo (l.drop k) (r.drop k)) ∧ Hid (Below w.heap.size w wr)) (fun vi _ => r.length - (intOf vi).toNat)
    case atStart => exact ⟨0, Nat.zero_le _, rfl, HE, mkH (Below.refl _ _)⟩
    case round =>
      obtain ⟨k, hk, rfl, hgo, hbR⟩ := hrel
      by_cases hlt : k < r.length
      · have hkl : k < l.length := by rw [← HNE.out]; exact hlt
        obtain ⟨⟨vk, vn, vt⟩, hv⟩ : ∃ x, r[k]? = some x := ⟨_, List.getElem?_eq_getElem hlt⟩
        obtain ⟨⟨c1, c2, c3, c4, c5, c6, c7⟩, hc⟩ : ∃ x, l[k]? = some x := ⟨_, List.getElem?_eq_getElem hkl⟩
        obtain ⟨rb, ro, rfl, hrb, hcell⟩ := HRC.out (by intro e; rw [e] at hlt; simp at hlt)
        obtain ⟨lb, lo, lc', el, _, hlb, hlcell⟩ := (HL.out.up hbR.out).cons (by omega)
        injection el with el1 _ el2
        subst el1 el2
        obtain ⟨q0, q1, q2, q3, q4, q5, q6⟩ := cells7 hlcell hc
        obtain ⟨v0, v1, v2⟩ := hcell k _ hv
        replace v0 := cell_up hbR.out v0
        replace v1 := cell_up hbR.out v1
        replace v2 := cell_up hbR.out v2
        have HF := mkH (fun W => C.fits_any c1 c2 c3 c4 c5 c6 c7 vk vn vt W (HT.out _ (List.mem_of_getElem? hv)))
        have HG : Hid (rowE l r = if C.fitB c3 vk vn vt = false then 1 else if (c4 && vk == 0) = true then 7 else rowGo (l.drop (k + 1)) (r.drop (k + 1))) := mkH (by rw [hgo.out, rowGo_drop hc hv]; rfl)
        have hki : (k : Int) < (r.length : Int) := by omega
        have hbX : Below wr.heap.size wr (wr.alloc (.cells #[.int .i64 vk, .int .i64 vn, .string vt] 29)) := (Below.refl _ _).alloc (Nat.le_refl _) _
        obtain ⟨x0, x1, x2⟩ := E.cell_box (heap_alloc_new wr (.cells #[.int .i64 vk, .int .i64 vn, .string vt] 29))
        have HBX := mkH (ups hbR.out hbX)
        clear hcell hlcell hgo hv hc
        go_wp2_with fail
        replace q0 := cell_up hbX q0
        replace q1 := cell_up hbX q1
        replace q2 := cell_up hbX q2
        replace q3 := cell_up hbX q3
        replace q4 := cell_up hbX q4
        replace q5 := cell_up hbX q5
        replace q6 := cell_up hbX q6
        clear v0 v1 v2 hbX hbR
        generalize wr.alloc (.cells #[.int .i64 vk, .int .i64 vn, .string vt] 29) = Wb at *
        generalize wr.heap.size = xb at *
        have HU : Hid (∀ W, Below Wb.heap.size Wb W → (W.cell? ⟨lb, lo + k * 7, none⟩ = some (.int .i64 c1) ∧ W.cell? ⟨lb, lo + k * 7 + 1, none⟩ = some (.string c2) ∧ W.cell? ⟨lb, lo + k * 7 + 2, none⟩ = some (.int .i64 c3) ∧ W.cell? ⟨lb, lo + k * 7 + 3, none⟩ = some (.bool c4) ∧ W.cell? ⟨lb, lo + k * 7 + 4, none⟩ = some (.int .i64 c5) ∧ W.cell? ⟨lb, lo + k * 7 + 5, none⟩ = some (.int .i64 c6) ∧ W.cell? ⟨lb, lo + k * 7 + 6, none⟩ = some (.string c7) ∧ W.cell? ⟨xb, 0, none⟩ = some (.int .i64 vk) ∧ W.cell? ⟨xb, 1, none⟩ = some (.int .i64 vn) ∧ W.cell? ⟨xb, 2, none⟩ = some (.string vt))) := mkH (fun W hW => ⟨cell_up hW q0, cell_up hW q1, cell_up hW q2, cell_up hW q3, cell_up hW q4, cell_up hW q5, cell_up hW q6, cell_up hW x0, cell_up hW x1, cell_up hW x2⟩)
        go_region_held3 (fun W => W.cell? ⟨lb, lo + k * 7, none⟩ = some (.int .i64 c1) ∧ W.cell? ⟨lb, lo + k * 7 + 1, none⟩ = some (.string c2) ∧ W.cell? ⟨lb, lo + k * 7 + 2, none⟩ = some (.int .i64 c3) ∧ W.cell? ⟨lb, lo + k * 7 + 3, none⟩ = some (.bool c4) ∧ W.cell? ⟨lb, lo + k * 7 + 4, none⟩ = some (.int .i64 c5) ∧ W.cell? ⟨lb, lo + k * 7 + 5, none⟩ = some (.int .i64 c6) ∧ W.cell? ⟨lb, lo + k * 7 + 6, none⟩ = some (.string c7) ∧ W.cell? ⟨xb, 0, none⟩ = some (.int .i64 vk) ∧ W.cell? ⟨xb, 1, none⟩ = some (.int .i64 vn) ∧ W.cell? ⟨xb, 2, none⟩ = some (.string vt))
          (first | (go_keep; done) | exact HU.out _ hb1 | fail)
          (first | (go_at_call 86; refine (HF.out _).mono ?_; rintro e w1 ⟨rfl, hb1'⟩; have hb1 : Below Wb.heap.size Wb w1 := ups (Below.refl _ _).drew hb1') | fail)
        obtain ⟨_, _, _, p3, _, _, _, p7, _, _⟩ := HU.out w1 hb1
        have hbf := ups HBX.out hb1
        clear q0 q1 q2 q3 q4 q5 q6 x0 x1 x2 HU hb1'
        cases hf : C.fitB c3 vk vn vt with
        | false =>
          have HR : Hid (rowE l r = 1) := mkH (by rw [HG.out, hf]; rfl)
          go_wp2
          go_ret
          rw [HR.out]
          exact ⟨rfl, hbf⟩
        | true =>
          have HG2 : Hid (rowE l r = if (c4 && vk == 0) = true then 7 else rowGo (l.drop (k + 1)) (r.drop (k + 1))) := mkH (by rw [HG.out, hf]; rfl)
          clear HG hf
          cases c4 with
          | false =>
            have HR : Hid (rowE l r = rowGo (l.drop (k + 1)) (r.drop (k + 1))) := mkH (by rw [HG2.out]; rfl)
            go_wp2
            go_roundw
            case rel => exact ⟨k + 1, by omega, by go_num, HR, mkH hbf⟩
            case measure => simp [intOf]; omega
          | true =>
            by_cases hv0 : vk = 0
            · subst hv0
              have HR : Hid (rowE l r = 7) := mkH (by rw [HG2.out]; rfl)
              go_wp2
              go_ret
              rw [HR.out]
              exact ⟨rfl, hbf⟩
            · have hvb : (vk == 0) = false := by simpa using hv0
              have HR : Hid (rowE l r = rowGo (l.drop (k + 1)) (r.drop (k + 1))) := mkH (by rw [HG2.out, hvb]; rfl)
              clear hv0
              go_wp2
              go_roundw
              case rel => exact ⟨k + 1, by omega, by go_num, HR, mkH hbf⟩
              case measure => simp [intOf]; omega
      · have ek : k = r.length := by omega
        subst ek
        have HR : Hid (rowE l r = 0) := mkH (by rw [hgo.out, HNE.out, List.drop_length]; rfl)
        go_wp2
        go_ret
        rw [HR.out]
        exact ⟨rfl, hbR.out⟩
  · have hneb : ((r.length : Int) == (l.length : Int)) = false := by simp; omega
    have HE : Hid (rowE l r = 1) := mkH (by unfold rowE; rw [if_neg hne])
    clear hne
    go_enter Tryz.func47, Tryz.ntmps47
    go_wp2
    go_ret
    rw [HE.out]
    exact ⟨rfl, Below.refl _ _⟩
end Go.Proofs.YtlnkbhbpkmnkaaaGreatDoor.F
