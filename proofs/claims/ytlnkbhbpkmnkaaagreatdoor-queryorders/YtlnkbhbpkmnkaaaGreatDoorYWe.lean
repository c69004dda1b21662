/- The law's sorted at rows wherever they lie; a digit's text; what the law's runs does at its four texts. -/
import Derived.Test.YtlnkbhbpkmnkaaaGreatDoorYRl
import Derived.Test.YtlnkbhbpkmnkaaaGreatDoorFX1
import Derived.Test.YtlnkbhbpkmnkaaaGreatDoorFX0
import Derived.Test.YtlnkbhbpkmnkaaaGreatDoorYUn
import Derived.Test.YtlnkbhbpkmnkaaaGreatDoorYRa
import Derived.Shelf.SlSortCmp.NoneTotal
namespace Go.Proofs.YtlnkbhbpkmnkaaaGreatDoor.F
open Go.RowKit Go.Proofs Go.Shelf Go.Joins

attribute [local go_sem] Oper.semAt_some

set_option maxHeartbeats 1000000 in
theorem chunkA_any (ra : Option Addr) (len cap : Nat) (w : World) :
    Calls Tryz.prog 50 #[.slice ra len cap, .int .i64 1] w fun e w' => e = .returned (.func (.func 88) #[] #[.pointer (some ⟨w.heap.size, 0, none⟩), .pointer (some ⟨w.heap.size + 1, 0, none⟩)]) ∧ w' = (w.alloc (.cells #[.slice ra len cap] 23)).alloc (.cells #[.int .i64 1] 3) := by
  go_enter Tryz.func50, Tryz.ntmps50
  go_wp2
  go_ret
  exact ⟨rfl, rfl⟩

/-- Which row. -/
abbrev CK1 (n : Nat) := { k : Nat // k < n }
def ckN1 {n : Nat} (x : CK1 n) : Nat := x.1
def ckVA (b off : Nat) {n : Nat} (k : CK1 n) : Value := .slice (some ⟨b, off + k.1, none⟩) 1 1
set_option maxRecDepth 100000 in
set_option maxHeartbeats 4000000 in
theorem chunkA_in (n : Nat) (_hn : 1 ≤ n) (l Bs Bn b off len cap : Nat) (hlen : len ≤ 1000) (hcap : len ≤ cap) (J Jx : List (CK1 len) → World → Prop) (hJd : ∀ pre W, J pre W → J pre W.drew)
    (hY : ∀ pre x W, J pre W → pre.length < len → YieldAt Fence.wide (n - 1) Tryz.prog l #[ckVA b off x] W fun e W' =>
      (e = .returned (.bool true) ∧ J (pre ++ [x]) W' ∧ KpC Bs Bn W W') ∨ (e = .returned (.bool false) ∧ Jx (pre ++ [x]) W'))
    (W : World) (hBs : W.cell? ⟨Bs, 0, none⟩ = some (.slice (some ⟨b, off, none⟩) len cap)) (hBn : W.cell? ⟨Bn, 0, none⟩ = some (.int .i64 1)) (h0 : J [] W) :
    CallsIn Fence.wide n Tryz.prog 88 #[.func (.yield l) #[] #[], .pointer (some ⟨Bs, 0, none⟩), .pointer (some ⟨Bn, 0, none⟩)] W fun e W' => (∃ v, e = .returned v) ∧
      ((∃ ys : List (CK1 len), ys.map ckN1 = List.range len ∧ J ys W') ∨ (∃ pre : List (CK1 len), True ∧ Jx pre W')) := by
  refine callsIn_of_wp Tryz.func88 rfl trivial ?_ rfl
  simp only [Tryz.ntmps88, List.size_toArray, List.length_cons, List.length_nil, Nat.reduceAdd, Nat.reduceSub, Array.replicate_succ, Array.replicate_zero, List.push_toArray, List.append_toArray, List.nil_append, List.cons_append]
  gi_wp2
  gi_loopw [4] (fun i wr => ∃ (k : Nat) (pre : List (CK1 len)), k ≤ len ∧ i = .int .i64 (k : Int) ∧ pre.map ckN1 = List.range k ∧ J pre wr ∧ wr.cell? ⟨Bs, 0, none⟩ = some (.slice (some ⟨b, off, none⟩) len cap) ∧ wr.cell? ⟨Bn, 0, none⟩ = some (.int .i64 1))
    (fun i _ => len + 1 - (intOf i).toNat)
  case atStart => exact ⟨0, [], Nat.zero_le _, rfl, rfl, h0, hBs, hBn⟩
  case round =>
    obtain ⟨k, pre, hk, rfl, hpre, hJs, q0, q1⟩ := hrel
    have hpl : pre.length = k := by have := congrArg List.length hpre; simpa using this
    by_cases hlt : k < len
    · obtain ⟨fn, tmps, assign, body, hy, hR⟩ := hY pre ⟨k, hlt⟩ wr.drew (hJd _ _ hJs) (by rw [hpl]; exact hlt)
      have HLT : Hid (k < len) := mkH hlt
      have eL : (1 : Nat) = (((k : Int) + min 1 ((len - k : Nat) : Int)).toNat - k) := by omega
      unfold ckVA at hy
      dsimp only at hy
      rw [eL] at hy
      have hlt' : (k : Int) < (len : Int) := by omega
      have hmle : (k : Int) ≤ (len : Int) := by omega
      have hm0 : (0 : Int) ≤ (k : Int) := by omega
      have hcm : ¬ cap = k := by omega
      have hmc : k ≤ cap := by omega
      clear eL hpl
      gi_wp2
      refine wpIn_wide.2 ?_
      go_region
      all_goals gi_wp2
      refine hR.mono ?_
      rintro e W3 (⟨rfl, hJ3, hk3⟩ | ⟨rfl, hJx3⟩)
      · have p0 : W3.cell? ⟨Bs, 0, none⟩ = some (.slice (some ⟨b, off, none⟩) len cap) := hk3.1.trans q0
        have p1 : W3.cell? ⟨Bn, 0, none⟩ = some (.int .i64 1) := hk3.2.trans q1
        gi_wp2
        go_roundw
        case rel =>
          refine ⟨k + 1, pre ++ [⟨k, HLT.out⟩], HLT.out, ?_, ?_, hJ3, p0, p1⟩
          · congr 1
          · rw [List.map_append, hpre, List.range_succ]; rfl
        case measure => simp [intOf]; omega
      · gi_wp2
        refine bodyPost_ret (results_none rfl _ _ _) rfl ?_
        exact ⟨⟨_, rfl⟩, .inr ⟨_, trivial, hJx3⟩⟩
    · have hge : ¬ (k : Int) < (len : Int) := by omega
      have ek : k = len := by omega
      gi_wp2
      go_end0
      exact ⟨⟨_, rfl⟩, .inl ⟨pre, by rw [hpre, ek], hJs⟩⟩

theorem chunkA_stops (n : Nat) (hn : 1 ≤ n) (Bs Bn b off len cap : Nat) (hlen : len ≤ 1000) (hcap : len ≤ cap) (w : World) (hBs : Bs < w.heap.size) (hBn : Bn < w.heap.size) (hs : w.cell? ⟨Bs, 0, none⟩ = some (.slice (some ⟨b, off, none⟩) len cap)) (h1 : w.cell? ⟨Bn, 0, none⟩ = some (.int .i64 1)) :
    SeqStopsK Fence.wide n Tryz.prog 88 #[.pointer (some ⟨Bs, 0, none⟩), .pointer (some ⟨Bn, 0, none⟩)] (fun x : CK1 len => #[ckVA b off x]) (KpC Bs Bn) (fun ys => ys.map ckN1 = List.range len) (fun _ => True) len w := fun l J Jx W hW hJ _ hY h0 =>
  chunkA_in n hn l Bs Bn b off len cap hlen hcap J Jx (fun pre W h => hJ pre W _ none h ⟨rfl, rfl, rfl, Nat.le_refl _, fun _ _ _ => rfl⟩ (fun r e => by cases e)) hY W ((hW.cell (p := ⟨Bs, 0, none⟩) hBs).trans hs) ((hW.cell (p := ⟨Bn, 0, none⟩) hBn).trans h1) h0

/-- What lies between two rounds of AppendSeq: the box, and the parts so far in a row of the call's own. -/
def ApI (b off B : Nat) {len : Nat} (w : World) (pre : List (CK1 len)) (W : World) : Prop :=
  (∃ v, W.heap[B]? = some (.cells #[v] 82) ∧ W.ownsRow (B + 1) 23 1 v pre.length (pre.map (ckVA b off))) ∧ Below B w W ∧ B + 1 ≤ W.heap.size
theorem ApI.own {b off B Bq len : Nat} {w : World} (hB : B ≤ w.heap.size) (hq : B ≤ Bq) : OwnFrom Bq (ApI b off B (len := len) w) := fun s A C row hs hg hr => by
  obtain ⟨⟨v, hf, ho⟩, hb, h3⟩ := hs
  refine ⟨⟨v, (hg.block B (E.blk_lt hf) (fun e => ?_)).trans hf, ho.kept hg ?_⟩, hb.grown hg (Nat.le_trans hB hb.size) (fun k e => Nat.le_trans hq (hr k e).1), Nat.le_trans h3 hg.size⟩
  · obtain ⟨_, _, ho', hc⟩ := hr B e.symm
    rw [hf] at ho'
    injection ho' with ho'
    subst ho'
    cases hc
  · rcases ho.2 with ⟨e, _⟩ | ⟨q, cap, cur, e, _, hh, _⟩
    · rw [e]; exact .inl rfl
    · rw [e]
      refine .inr fun e' => ?_
      obtain ⟨_, o, h1, h2⟩ := hr q (by simpa [Value.ownBlock] using e'.symm)
      rw [hh] at h1
      injection h1 with h1
      subst h1
      cases h2
set_option maxRecDepth 100000 in
set_option maxHeartbeats 4000000 in
theorem appA_any (Bs Bn b off len cap : Nat) (hlen : len ≤ 1000) (hcap : len ≤ cap) (w : World) (hBs : Bs < w.heap.size) (hBn : Bn < w.heap.size) (hs : w.cell? ⟨Bs, 0, none⟩ = some (.slice (some ⟨b, off, none⟩) len cap)) (h1 : w.cell? ⟨Bn, 0, none⟩ = some (.int .i64 1)) :
    Calls Tryz.prog 115 #[.slice none 0 0, .func (.func 88) #[] #[.pointer (some ⟨Bs, 0, none⟩), .pointer (some ⟨Bn, 0, none⟩)]] w fun e w' => ∃ (v : Value) (ys : List (CK1 len)), e = .returned v ∧ ys.map ckN1 = List.range len ∧ w'.ownsRow w.heap.size 23 1 v ys.length (ys.map (ckVA b off)) ∧ Below w.heap.size w w' := by
  refine (callsIn_wide (n := 5)).1 ?_
  refine callsIn_of_wp_marks Tryz.func115 rfl trivial ?_ rfl
  simp only [Tryz.ntmps115, List.size_toArray, List.length_cons, List.length_nil, Nat.reduceAdd, Nat.reduceSub, Array.replicate_succ, Array.replicate_zero, List.push_toArray, List.append_toArray, List.nil_append, List.cons_append]
  have hv0 := heap_alloc_new w (.cells #[.slice none 0 0] 82)
  have hb0 : Below w.heap.size w (w.alloc (.cells #[.slice none 0 0] 82)) := (Below.refl _ _).alloc (Nat.le_refl _) _
  have hs0 : (w.alloc (.cells #[.slice none 0 0] 82)).heap.size = w.heap.size + 1 := by simp
  have hcs := (hb0.cell (p := ⟨Bs, 0, none⟩) hBs).trans hs
  have hcn := (hb0.cell (p := ⟨Bn, 0, none⟩) hBn).trans h1
  obtain ⟨iS, hiS, hzS, hz1S, hz2S⟩ := info_parts infoSlR
  have HIS := mkH (And.intro hiS (And.intro hzS (And.intro hz1S hz2S)))
  clear hiS hzS hz1S hz2S
  gi_wp2
  generalize w.alloc (.cells #[.slice none 0 0] 82) = W0 at *
  refine wpIn_rangeFunc_ownG (w0 := W0) rfl (by decide) (gf := 88) (lb := #[.pointer (some ⟨Bs, 0, none⟩), .pointer (some ⟨Bn, 0, none⟩)]) (by rfl) trivial (enters_of Tryz.func88 (by kernel_rfl) rfl)
    (chunkA_stops _ (by decide) Bs Bn b off len cap hlen hcap W0 (by omega) (by omega) hcs hcn) KpC.t ?hKb (Below.refl _ _) (fun _ => rfl) (ApI b off w.heap.size w) (fun _ _ _ => False) (ApI.own (Nat.le_refl _) (by omega)) (fun _ _ _ _ _ h _ _ => h) ⟨⟨_, hv0, World.ownsRow_nil _ _ _ _⟩, hb0, by omega⟩ ?a1 ?assign ?body ?done ?stop
  case hKb =>
    intro W q o1 o2 hq hq1 _ _
    constructor
    · unfold World.cell?; rw [World.putObj_heap_other (by show Bs ≠ q; omega)]
    · unfold World.cell?; rw [World.putObj_heap_other (by show Bn ≠ q; omega)]
  case assign =>
    intro q x W K hK
    gi_wp2
    exact hK
  case stop =>
    rintro D c pre W _ _ h _
    exact h.elim
  case body =>
    rintro q pre k W ⟨⟨v, hf, hrow⟩, hb, hsz⟩ hpl
    have c0 : W.cell? ⟨w.heap.size, 0, none⟩ = some v := cell_of_block hf 0
    rw [show ckVA b off k = .slice (some ⟨b, off + k.1, none⟩) 1 1 from rfl]
    gi_wp2_with (first
      | (gi_at_builtin; refine wpListIn_append_own _ rfl _ _ 82 rfl (w.heap.size + 1) 23 iS (.slice none 0 0) 1 24 Tryz.underlying82 HIS.out.1 HIS.out.2.1 HIS.out.2.2.1 HIS.out.2.2.2 rfl (by decide) v pre.length (pre.map (ckVA b off)) rfl (hrow.alloc _) ⟨W.heap.size, 0, none⟩ 1 1 [.slice (some ⟨b, off + k.1, none⟩) 1 1] rfl rfl (cell_one_new _ _ _) (by simp [Value.oneCell']) (by unfold maxLen; omega) (by omega) (by simp; omega) ?_
         intro v' w3 hown' hg3 hnil3
         obtain ⟨va, vc, rfl, _⟩ := E.ownsRow_slice hown'
         have HO3 := mkH hown'
         have HG3 := mkH hg3
         clear hnil3
         have hf3 : w3.heap[w.heap.size]? = some (.cells #[v] 82) := (hg3.block w.heap.size (by simp; omega) (fun e => by have := (hrow.lt _ e.symm).1; omega)).trans ((Below.heap_alloc _ _ w.heap.size (by omega)).trans hf)
         have c3 : w3.cell? ⟨w.heap.size, 0, none⟩ = some v := cell_of_block hf3 0
         have f3 := frozen_of_row w3 w.heap.size 0 _ _ hf3
         clear hown' hg3)
      | fail)
    have hbA : Below W.heap.size W (W.alloc (.cells #[.slice (some ⟨b, off + k.1, none⟩) 1 1] 23)) := (Below.refl _ _).alloc (Nat.le_refl _) _
    have hsA := hbA.size
    have far : ∀ q, q < w.heap.size + 1 → some q ≠ v.ownBlock := fun q hq e => by have := (hrow.lt q e.symm).1; omega
    have hgs := E.grown_set w3 w.heap.size 0 (.slice va (pre.length + 1) vc)
    have h3s := HG3.out.size
    have hcells : ∀ q, q < w.heap.size → (w3.setCell ⟨w.heap.size, 0, none⟩ (.slice va (pre.length + 1) vc)).cell? ⟨q, 0, none⟩ = W.cell? ⟨q, 0, none⟩ := fun q hq => (hgs.cell_far ⟨q, 0, none⟩ (by show q < _; omega) (by simp; omega)).trans ((HG3.out.cell_far ⟨q, 0, none⟩ (by show q < _; omega) (far q (by omega))).trans (hbA.cell (p := ⟨q, 0, none⟩) (by show q < _; omega)))
    refine ⟨?_, ⟨hcells Bs hBs, hcells Bn hBn⟩, ⟨_, heap_setCell_same w3 w.heap.size 0 _ _ (.slice va (pre.length + 1) vc) hf3, ?_⟩, ?_, ?_⟩
    · refine KeepsOthers.from (((keeps_below hbA).trans (KeepsOthers.of_grownBy HG3.out (fun j o e ho => ?_))).trans (KeepsOthers.setCell _ _ _)) _
      rcases (hrow.alloc (.cells #[.slice (some ⟨b, off + k.1, none⟩) 1 1] 23)).2 with ⟨e', _⟩ | ⟨q, cap, cur, e', _, hh, _⟩
      · rw [e'] at e; cases e
      · rw [e'] at e
        injection e with e
        subst e
        rw [hh] at ho
        injection ho with ho
        subst ho
        rfl
    · have := HO3.out.kept hgs (.inr (fun e => by have := (HO3.out.lt _ e).1; omega))
      rw [List.map_append, List.length_append]
      exact this
    · exact ((hb.alloc hb.size _).grown HG3.out (by omega) (fun j e => by have := (hrow.lt j e).1; omega)).setCell (Nat.le_refl _) _
    · have := hgs.size; omega
  case done =>
    rintro D ys W hD hys ⟨⟨v, hf, hrow⟩, hb, hsz⟩ hK
    have c0 : W.cell? ⟨w.heap.size, 0, none⟩ = some v := cell_of_block hf 0
    gi_wp2
    refine ⟨by simp, .inl ⟨_, _, rfl, run_takeDeferred hK, ?_⟩⟩
    have hg := grownBy_putObj' W D (.deferred none)
    refine ⟨_, results_tmp rfl _ _ _, v, ys, rfl, hys, E.ownsRow_base (hrow.kept hg ?_) (Nat.le_succ _), hb.grown hg hb.size (fun k e => by cases e; omega)⟩
    rcases hrow.2 with ⟨e, _⟩ | ⟨q, cap, cur, e, _, hh, _⟩
    · rw [e]; exact .inl rfl
    · rw [e]
      refine .inr fun e' => ?_
      have e2 : q = D := by simpa [Value.ownBlock] using e'
      subst e2
      rw [hh] at hK
      cases hK
set_option maxHeartbeats 1000000 in
theorem collectA_any (Bs Bn b off len cap : Nat) (hlen : len ≤ 1000) (hcap : len ≤ cap) (w : World) (hBs : Bs < w.heap.size) (hBn : Bn < w.heap.size) (hs : w.cell? ⟨Bs, 0, none⟩ = some (.slice (some ⟨b, off, none⟩) len cap)) (h1 : w.cell? ⟨Bn, 0, none⟩ = some (.int .i64 1)) :
    Calls Tryz.prog 80 #[.func (.func 88) #[] #[.pointer (some ⟨Bs, 0, none⟩), .pointer (some ⟨Bn, 0, none⟩)]] w fun e w' => ∃ (v : Value) (ys : List (CK1 len)), e = .returned v ∧ ys.map ckN1 = List.range len ∧ w'.ownsRow w.heap.size 23 1 v ys.length (ys.map (ckVA b off)) ∧ Below w.heap.size w w' := by
  have HA := mkH (appA_any Bs Bn b off len cap hlen hcap w hBs hBn hs h1)
  go_enter Tryz.func80, Tryz.ntmps80
  go_wp2_with fail
  refine HA.out.mono ?_
  rintro e w1 ⟨v, ys, rfl, hys, hrow, hb⟩
  obtain ⟨va, vc, rfl, _⟩ := E.ownsRow_slice hrow
  go_wp2
  go_ret
  exact ⟨_, ys, rfl, hys, hrow, hb⟩
/-- Rows, each alone, lie in memory. -/
theorem slP_alone {w : World} {b off cap : Nat} {v : Value} {rows : List (List V)} {ys : List (CK1 rows.length)} {B : Nat} (hr : SlR w (.slice (some ⟨b, off, none⟩) rows.length cap) rows) (hy : ys.map ckN1 = List.range rows.length) (ho : w.ownsRow B 23 1 v ys.length (ys.map (ckVA b off))) : SlP w v (rows.map fun r => [r]) := by
  have hyl : ys.length = rows.length := by have := congrArg List.length hy; simpa using this
  refine ⟨ys.map (ckVA b off), SlE.of_own (k := 1) (enc := encR) (l := ys.map (ckVA b off)) (w := w) (v := v) (fun _ => rfl) (B := B) (n := ys.length) (T := 23) (by
    have e : (ys.map (ckVA b off)).flatMap encR = ys.map (ckVA b off) := by
      show (ys.map (ckVA b off)).flatMap (fun x => [x]) = _
      simp
    rw [e]; exact ho) (by simp), by simp [hyl], fun j x g hx hg => ?_⟩
  rw [List.getElem?_map] at hx hg
  obtain ⟨vs, h1, h2, h3⟩ := hr
  cases hyj : ys[j]? with
  | none => rw [hyj] at hx; cases hx
  | some k =>
    rw [hyj] at hx
    injection hx with hx
    subst hx
    have hkj : k.1 = j := by
      have := congrArg (fun l => l[j]?) hy
      simp only [List.getElem?_map, hyj, Option.map_some] at this
      have hj := lt_of_some hyj
      rw [List.getElem?_range (by omega)] at this
      injection this
    have hj : j < rows.length := by rw [← hkj]; exact k.2
    rw [List.getElem?_eq_getElem hj] at hg
    injection hg with hg
    subst hg
    obtain ⟨b', off', c', e, hc, hb, hcell⟩ := h1.cons (by omega)
    injection e with e1 _ _
    injection e1 with e1
    injection e1 with eb eo _
    subst eb eo
    obtain ⟨x, hx⟩ : ∃ x, vs[j]? = some x := ⟨_, List.getElem?_eq_getElem (by omega)⟩
    refine ⟨[x], ⟨_, 1, by rw [show ckVA b off k = .slice (some ⟨b, off + j, none⟩) 1 1 by rw [← hkj]; rfl]; rfl, Nat.le_refl _, fun _ => ⟨b, off + j, rfl, hb, fun i y hy2 i2 u hu => ?_⟩⟩, rfl, fun i y r hy2 hr2 => ?_⟩
    · cases i with
      | succ i => simp at hy2
      | zero =>
        simp at hy2
        subst hy2
        have := hcell j x hx i2 u hu
        rw [Nat.mul_one] at this
        rw [show off + j + 0 * 1 + i2 = off + j + i2 by omega]
        exact this
    · cases i with
      | succ i => simp at hy2
      | zero =>
        simp at hy2 hr2
        subst hy2 hr2
        exact h3 j x _ hx (List.getElem?_eq_getElem hj)
end Go.Proofs.YtlnkbhbpkmnkaaaGreatDoor.F
namespace Go.Proofs.YtlnkbhbpkmnkaaaGreatDoor.F
open Go.RowKit Go.Proofs Go.Shelf Go.Joins

set_option maxHeartbeats 4000000 in
set_option maxRecDepth 100000 in
theorem parts_alone (lv rv iv ov : Value) (L : List (Fn × ByteArray)) (rows : List (List V)) (ba : Option Addr) (bc : Nat) (lm : Int) (w : World) (hlv : ∃ a n c, lv = .slice a n c) (hr : SlR w rv rows) (hi : SlE 2 encF w iv L) (h0 : 0 < L.length) (hl : L.length ≤ 1000) (hf : hasFn L = false) (ho : ∃ a n c, ov = .slice a n c) (hr0 : 0 < rows.length) (hrl : rows.length ≤ 1000) :
    Calls Tryz.prog 41 #[lv, rv, .agg #[iv, .pointer none, .slice ba 0 bc, ov, .int .i64 lm]] w fun e w' => ∃ v, e = .returned v ∧ SlP w' v (rows.map fun r => [r]) ∧ Below w.heap.size w w' := by
  have HT := mkH (fun W (hb : Below w.heap.size w W) => together_no iv L ba bc ov lm W (hi.up hb) h0 hl ho)
  rw [hf] at HT
  have HR := mkH hr
  obtain ⟨oa, om, oc, rfl⟩ := ho
  obtain ⟨ca, cn, cc, rfl⟩ := hlv
  obtain ⟨ia, ic, rfl, _⟩ := hi.slice
  obtain ⟨vs, h1, h2, h3⟩ := hr
  obtain ⟨rb, ro, rc, rfl, hrc, _, _⟩ := h1.cons (by omega)
  rw [h2] at hrc HR ⊢
  clear h1 h2 h3 hi hf
  go_enter Tryz.func41, Tryz.ntmps41
  go_wp2_with fail
  with_reducible refine (HT.out _ ((Below.refl _ _).alloc (Nat.le_refl _) _)).mono ?_
  rintro e w1 ⟨rfl, hb1'⟩
  have HB1 := mkH (ups ((Below.refl _ _).alloc (Nat.le_refl _) _) hb1')
  clear hb1' HT
  go_wp2_with fail
  with_reducible refine (chunkA_any _ _ _ _).mono ?_
  rintro e w2 ⟨rfl, rfl⟩
  obtain ⟨hs9, hS9, hN9, hb9⟩ := two_new w1 (.cells #[.slice (some ⟨rb, ro, none⟩) rows.length rc] 23) (.cells #[.int .i64 1] 3)
  have HB9 := mkH (ups HB1.out hb9)
  go_wp2_with fail
  generalize (w1.alloc (.cells #[.slice (some ⟨rb, ro, none⟩) rows.length rc] 23)).alloc (.cells #[.int .i64 1] 3) = W9 at *
  have c0 : W9.cell? ⟨w1.heap.size, 0, none⟩ = some (.slice (some ⟨rb, ro, none⟩) rows.length rc) := cell_of_block hS9 0
  have c1 : W9.cell? ⟨w1.heap.size + 1, 0, none⟩ = some (.int .i64 1) := cell_of_block hN9 0
  with_reducible refine (collectA_any w1.heap.size (w1.heap.size + 1) rb ro rows.length rc hrl hrc W9 (by omega) (by omega) c0 c1).mono ?_
  rintro e w3 ⟨v, ys, rfl, hys, hrow, hb3⟩
  have HP := mkH (slP_alone (HR.out.up (ups HB9.out hb3)) hys hrow)
  obtain ⟨va, vc, rfl, _⟩ := E.ownsRow_slice hrow
  have HB3 := mkH (ups HB9.out hb3)
  clear hrow hys hb3
  go_wp2
  go_ret
  exact ⟨_, rfl, HP.out, HB3.out⟩
end Go.Proofs.YtlnkbhbpkmnkaaaGreatDoor.F
namespace Go.Proofs.YtlnkbhbpkmnkaaaGreatDoor
open Go.RowKit Go.Proofs Go.Lib Go.Joins Go.Proofs.YtlnkbhbpkmnkaaaGreatDoor.Ask
theorem parts_do_alone (w : World) (lv rv : Value) (q : QQ) (rows : List (List F.V)) (hq : q.byn = none) (hfn : F.hasFn (itsF q) = false) (hil : (itsF q).length ≤ 1000)
    (hlv : ∃ a n c, lv = .slice a n c) (hr : F.SlR w rv rows) (hr0 : 0 < rows.length) (hrl : rows.length ≤ 1000) :
    PartsDo w lv rv q false (rows.map fun r => [r]) := by
  intro iv nv ov W hb hi hn ho
  have hnm : namesF q = [] := by unfold namesF; rw [hq]; rfl
  rw [hnm] at hn
  have hfo : ∃ a n c, ov = .slice a n c := by obtain ⟨a, c, e, _⟩ := ho; exact ⟨a, _, c, e⟩
  have h0 : 0 < (itsF q).length := by unfold itsF; simp
  obtain ⟨na, nc, rfl, _⟩ := hn.slice
  constructor
  · have := F.together_no iv (itsF q) na nc ov (limN q.lim) W hi h0 hil hfo
    rw [hfn] at this
    exact this
  · exact F.parts_alone lv rv iv ov (itsF q) rows na nc _ W hlv (hr.up hb) hi h0 hil hfn hfo hr0 hrl
end Go.Proofs.YtlnkbhbpkmnkaaaGreatDoor
namespace Go.Proofs.YtlnkbhbpkmnkaaaGreatDoor
open Go.RowKit Go.Proofs Go.Lib Go.Joins Go.Proofs.YtlnkbhbpkmnkaaaGreatDoor.Ask
open Go.Proofs.YtlnkbhbpkmnkaaaGreatDoor.Stb (ss)

def itO (c : F.Col) : It := (.no, some c.2.1.data.toList)
def qO (c0 : F.Col) (cs : List F.Col) (ord : Option (Nat × Bool)) (lim : Option Nat) : QQ := ⟨itO c0, cs.map itO, none, ord, lim⟩
theorem qO_ok {c0 : F.Col} {cs : List F.Col} {ord : Option (Nat × Bool)} {lim : Option Nat} (hn : ∀ c ∈ c0 :: cs, nmL c.2.1.data.toList = true ∧ c.2.1.size ≤ 60) (hl : cs.length ≤ 7) (ho : ∀ x, ord = some x → x.1 < cs.length + 1) (hm : ∀ n, lim = some n → 1 ≤ n ∧ n ≤ 9) : QOk (qO c0 cs ord lim) where
  its y hy := by
    have hy' : y ∈ (c0 :: cs).map itO := hy
    obtain ⟨c, hc, rfl⟩ := List.mem_map.1 hy'
    exact ⟨fun n e => by
      have e' : c.2.1.data.toList = n := by injection e
      subst e'
      exact ⟨(hn c hc).1, by rw [sz_list]; have := (hn c hc).2; omega⟩, fun e => by cases e⟩
  few := by simp [qO]; omega
  byn n e := by cases e
  ord x e := ⟨by have := ho x e; omega, by have := ho x e; simpa [qO] using this⟩
  lim n e := hm n e
theorem comO_len : ∀ cs : List F.Col, (comT (cs.map itO)).length = 2 * cs.length
  | [] => rfl
  | c :: cs => by
    have := comO_len cs
    simp [comT, itO, itT] at this ⊢
    omega
theorem qO_80 (c0 : F.Col) (cs : List F.Col) (ord : Option (Nat × Bool)) (lim : Option Nat) (hl : cs.length ≤ 7) : (qT (qO c0 cs ord lim)).length ≤ 80 := by
  have h := comO_len cs
  have h1 : (ordT ord).length ≤ 5 := by
    cases ord with
    | none => simp [ordT]
    | some x => obtain ⟨k, b⟩ := x; cases b <;> simp [ordT, orT]
  have h2 : (limT lim).length ≤ 2 := by cases lim <;> simp [limT]
  simp only [qT, qO, byT, List.length_cons, List.length_append, List.length_nil, h]
  have : (itT (itO c0)).length = 1 := rfl
  omega
theorem its_qO (c0 : F.Col) (cs : List F.Col) (ord : Option (Nat × Bool)) (lim : Option Nat) : itsF (qO c0 cs ord lim) = (c0 :: cs).map fun c => (F.Fn.no, bA c.2.1.data.toList) := by
  simp [itsF, qO, itO, inB]
theorem qO_fine {c0 : F.Col} {cs : List F.Col} {next : Int} (hr : C.RightP C.colB C.fitB (c0 :: cs) next) (ord : Option (Nat × Bool)) (lim : Option Nat) : F.FineQ (c0 :: cs) (itsF (qO c0 cs ord lim)) (namesF (qO c0 cs ord lim)) false where
  nms nm h := by simp [namesF, qO] at h
  its x hx := by
    rw [its_qO] at hx
    obtain ⟨c, hc, rfl⟩ := List.mem_map.1 hx
    obtain ⟨k, hk, e⟩ := List.getElem_of_mem hc
    exact ⟨fineI_of hr (k := k) (by rw [List.getElem?_eq_getElem hk, e]) .no (fun e => by cases e), .inr (.inl rfl)⟩
/-- All columns, by their places. -/
def psO (n : Nat) : List (F.Fn × Int) := (List.range n).map fun (i : Nat) => (F.Fn.no, (i : Int))
theorem ps_qO {c0 : F.Col} {cs : List F.Col} {next : Int} (hr : C.RightP C.colB C.fitB (c0 :: cs) next) (ord : Option (Nat × Bool)) (lim : Option Nat) : psF (c0 :: cs) (qO c0 cs ord lim) = psO (cs.length + 1) := by
  unfold psF psO
  rw [its_qO, List.map_map]
  refine List.ext_getElem? fun i => ?_
  by_cases hi : i < cs.length + 1
  · have h1 : (c0 :: cs)[i]? = some ((c0 :: cs)[i]'(by simpa using hi)) := List.getElem?_eq_getElem _
    rw [List.getElem?_map, List.getElem?_map, List.getElem?_range hi, h1]
    show some _ = some _
    congr 1
    exact Prod.ext rfl (find_col hr h1)
  · rw [List.getElem?_eq_none (by simp; omega), List.getElem?_eq_none (by simp; omega)]
theorem told_row {r : List F.V} {n : Nat} (h : r.length = n) : (psO n).map (F.ofI [r]) = r := by
  unfold psO
  rw [List.map_map]
  refine List.ext_getElem? fun i => ?_
  rw [List.getElem?_map]
  by_cases hi : i < n
  · rw [List.getElem?_range hi, List.getElem?_eq_getElem (by omega)]
    show some (F.atV r ((i : Int)).toNat) = _
    unfold F.atV
    rw [Int.toNat_natCast, List.getElem?_eq_getElem (by omega)]
    rfl
  · rw [List.getElem?_eq_none (by simp; omega), List.getElem?_eq_none (by omega)]
    rfl
theorem told_alone {rows : List (List F.V)} {n : Nat} (h : ∀ r ∈ rows, r.length = n) : F.toldQ (psO n) (rows.map fun r => [r]) = rows := by
  unfold F.toldQ
  rw [List.map_map]
  calc _ = rows.map id := List.map_congr_left fun r hr => told_row (h r hr)
    _ = rows := List.map_id _
theorem psO_ok (n : Nat) (hn : n ≤ 8) (r : List F.V) : F.PsOk (psO n) [r] := by
  intro x hx
  obtain ⟨i, hi, rfl⟩ := List.mem_map.1 hx
  have := List.mem_range.1 hi
  exact ⟨fun _ => ⟨by simp, by show (0 : Int) ≤ (i : Int); omega⟩, by show (i : Int) ≤ 1000; omega⟩
/-- What comes of rows in an order, no more than so many. -/
def ordQ (ord : Option (Nat × Bool)) (lim : Option Nat) (rows : List (List F.V)) : List (List F.V) := F.limR (limN lim) (ss (F.ltB ord.toList) rows)
theorem runs_orders (lv rv : Value) (c0 : F.Col) (cs : List F.Col) (next : Int) (rows : List (List F.V)) (ord : Option (Nat × Bool)) (lim : Option Nat) (s : ByteArray) (w : World) (hr : C.RightP C.colB C.fitB (c0 :: cs) next) (hn : ∀ c ∈ c0 :: cs, nmL c.2.1.data.toList = true ∧ c.2.1.size ≤ 60)
    (ho : ∀ x, ord = some x → x.1 < cs.length + 1) (hm9 : ∀ n, lim = some n → 1 ≤ n ∧ n ≤ 9) (hs : s = bA (qX (qO c0 cs ord lim))) (hs6 : s.size ≤ 1000000) (hm : MkB w) (hg : GB w) (hw : 10 ≤ w.heap.size)
    (hcs : F.SlE 7 C.encC w lv (c0 :: cs)) (hrs : F.SlR w rv rows) (h0 : 0 < rows.length) (hl : rows.length ≤ 900) (hrl : ∀ r ∈ rows, r.length = cs.length + 1) :
    Calls Tryz.prog 11 #[lv, rv, .string s] w (RunsPost (ordQ ord lim rows) w) := by
  have h8 : cs.length + 1 ≤ 8 := hr.2.1
  have hrv : ∃ a n c, rv = .slice a n c := by obtain ⟨a, c, e, _⟩ := hrs.slice; exact ⟨a, _, c, e⟩
  have hlv : ∃ a n c, lv = .slice a n c := by obtain ⟨a, c, e, _⟩ := hcs.slice; exact ⟨a, _, c, e⟩
  have hps := ps_qO hr ord lim
  have h := runs_any lv rv (c0 :: cs) (qO c0 cs ord lim) false (rows.map fun r => [r]) s w hs hs6 (qO_ok hn (by omega) ho hm9) (qO_80 c0 cs ord lim (by omega)) hm hg hw hcs (by simp) hr.2.1 hrv (qO_fine hr ord lim)
    (parts_do_alone w lv rv _ rows rfl (by
      rw [its_qO]
      unfold F.hasFn
      rw [List.any_eq_false]
      intro x hx
      obtain ⟨c, _, rfl⟩ := List.mem_map.1 hx
      simp) (by rw [its_qO]; simp; omega) hlv hrs h0 (by omega)) (by simp; omega)
    (fun g hgm => by
      rw [hps]
      obtain ⟨r, _, rfl⟩ := List.mem_map.1 hgm
      exact ⟨psO_ok _ h8 r, by simp⟩)
  rw [hps, told_alone hrl] at h
  exact h
end Go.Proofs.YtlnkbhbpkmnkaaaGreatDoor
namespace Go.Proofs.YtlnkbhbpkmnkaaaGreatDoor
open Go.RowKit Go.Proofs Go.Lib Go.Joins Go.Proofs.YtlnkbhbpkmnkaaaGreatDoor.Ask

def selW : ByteArray := ⟨#[115, 101, 108, 101, 99, 116, 32]⟩
def comW : ByteArray := ⟨#[44, 32]⟩
def ordW : ByteArray := ⟨#[32, 111, 114, 100, 101, 114, 32]⟩
def desW : ByteArray := ⟨#[32, 100, 101, 115, 99]⟩
def limW : ByteArray := ⟨#[32, 108, 105, 109, 105, 116, 32]⟩
/-- The text as it stands before the i-th column. -/
def selB (l : List F.Col) : Nat → ByteArray
  | 0 => selW
  | i + 1 => (if 0 < i then selB l i ++ comW else selB l i) ++ ((l[i]?).getD F.zC).2.1
theorem selB_size (l : List F.Col) (h : ∀ c ∈ l, c.2.1.size ≤ 60) : ∀ i, i ≤ l.length → (selB l i).size ≤ 7 + 62 * i
  | 0, _ => Nat.le_refl 7
  | i + 1, hi => by
    have ih := selB_size l h i (by omega)
    have hc : ((l[i]?).getD F.zC).2.1.size ≤ 60 := by rw [List.getElem?_eq_getElem (by omega)]; exact h _ (List.getElem_mem _)
    have hw : comW.size = 2 := rfl
    unfold selB
    split <;> simp only [ByteArray.size_append] <;> omega
theorem comX_app : ∀ (a b : List It), comX (a ++ b) = comX a ++ comX b
  | [], _ => rfl
  | x :: a, b => by
    show 44 :: 32 :: (itX x ++ comX (a ++ b)) = (44 :: 32 :: (itX x ++ comX a)) ++ comX b
    rw [comX_app a b]
    simp
theorem selB_data (c0 : F.Col) (cs : List F.Col) : ∀ i, i ≤ cs.length → (selB (c0 :: cs) (i + 1)).data.toList = wSel ++ 32 :: (itX (itO c0) ++ comX ((cs.take i).map itO))
  | 0, _ => by
    simp [selB, selW, itO, itX, inX, comX, wSel, ByteArray.data_append]
  | i + 1, hi => by
    have ih := selB_data c0 cs i (by omega)
    have hg : (c0 :: cs)[i + 1]? = some (cs[i]'(by omega)) := by rw [List.getElem?_cons_succ, List.getElem?_eq_getElem (by omega)]
    have ht : cs.take (i + 1) = cs.take i ++ [cs[i]'(by omega)] := S.take_one_more (List.getElem?_eq_getElem (by omega))
    show ((if 0 < i + 1 then selB (c0 :: cs) (i + 1) ++ comW else selB (c0 :: cs) (i + 1)) ++ (((c0 :: cs)[i + 1]?).getD F.zC).2.1).data.toList = _
    rw [if_pos (by omega), hg, ht, List.map_append, comX_app]
    simp only [ByteArray.data_append, Array.toList_append, ih]
    simp [comW, comX, itO, itX, inX]
/-- The text behind the columns. -/
def sufX (ord : Option (Nat × Bool)) (lim : Option Nat) : List UInt8 := ordX ord ++ limX lim
theorem qO_text (c0 : F.Col) (cs : List F.Col) (ord : Option (Nat × Bool)) (lim : Option Nat) : qX (qO c0 cs ord lim) = (selB (c0 :: cs) (cs.length + 1)).data.toList ++ sufX ord lim := by
  rw [selB_data c0 cs cs.length (Nat.le_refl _), List.take_length]
  simp [qX, qO, byX, sufX]
def dgB (n : Nat) : ByteArray := ⟨#[UInt8.ofNat (48 + n)]⟩
theorem text_plain (c0 : F.Col) (cs : List F.Col) : selB (c0 :: cs) (cs.length + 1) = bA (qX (qO c0 cs none none)) := by
  refine ba_ext ?_
  rw [qO_text]
  simp [sufX, ordX, limX]
theorem text_up (c0 : F.Col) (cs : List F.Col) (k : Nat) : selB (c0 :: cs) (cs.length + 1) ++ ordW ++ dgB (k + 1) = bA (qX (qO c0 cs (some (k, false)) none)) := by
  refine ba_ext ?_
  rw [qO_text]
  simp [sufX, ordX, limX, ByteArray.data_append, ordW, dgB, dgL, wOrd]
theorem text_down (c0 : F.Col) (cs : List F.Col) (k : Nat) : selB (c0 :: cs) (cs.length + 1) ++ ordW ++ dgB (k + 1) ++ desW = bA (qX (qO c0 cs (some (k, true)) none)) := by
  refine ba_ext ?_
  rw [qO_text]
  simp [sufX, ordX, limX, ByteArray.data_append, ordW, dgB, dgL, wOrd, desW, wDesc]
theorem text_few (c0 : F.Col) (cs : List F.Col) (k n : Nat) : selB (c0 :: cs) (cs.length + 1) ++ ordW ++ dgB (k + 1) ++ limW ++ dgB n = bA (qX (qO c0 cs (some (k, false)) (some n))) := by
  refine ba_ext ?_
  rw [qO_text]
  simp [sufX, ordX, limX, ByteArray.data_append, ordW, dgB, dgL, wOrd, limW, wLim]
theorem text_size (c0 : F.Col) (cs : List F.Col) (h : ∀ c ∈ c0 :: cs, c.2.1.size ≤ 60) (hl : cs.length ≤ 7) (x : ByteArray) (hx : x.size ≤ 1000) : (selB (c0 :: cs) (cs.length + 1) ++ x).size ≤ 1000000 := by
  have := selB_size (c0 :: cs) h (cs.length + 1) (by simp)
  rw [ByteArray.size_append]
  omega
end Go.Proofs.YtlnkbhbpkmnkaaaGreatDoor
namespace Go.Proofs.YtlnkbhbpkmnkaaaGreatDoor.F
open Go.RowKit Go.Proofs Go.Shelf Go.Joins

/-- Rows in order. -/
def sortR (l : List (List V)) : List (List V) := l.mergeSort fun x y => decide (rowC x y ≤ 0)
theorem rowC_le_trans (a b c : List V) (h1 : rowC a b ≤ 0) (h2 : rowC b c ≤ 0) : rowC a c ≤ 0 := by
  rcases rowC_range a b with e1 | e1 | e1
  · rcases rowC_range b c with e2 | e2 | e2
    · have := rowC_trans a b c e1 e2; omega
    · have := rowC_zero b c e2; subst this; exact h1
    · omega
  · have := rowC_zero a b e1; subst this; exact h2
  · omega
theorem sortR_unique {l l' : List (List V)} (hp : l'.Perm l) (hs : l'.Pairwise fun x y => rowC x y ≤ 0) : l' = sortR l := by
  have h2 : (sortR l).Pairwise fun x y => rowC x y ≤ 0 := by
    have h := List.pairwise_mergeSort (le := fun x y : List V => decide (rowC x y ≤ 0)) (fun a b c h1 h2 => by simp at h1 h2 ⊢; exact rowC_le_trans a b c h1 h2) (fun a b => by
      have := rowC_swap a b
      simp only [Bool.or_eq_true, decide_eq_true_eq]
      omega) l
    exact h.imp fun h => by simpa using h
  refine List.Perm.eq_of_pairwise (le := fun x y => rowC x y ≤ 0) ?_ hs h2 (hp.trans (List.mergeSort_perm _ _).symm)
  intro a b _ _ h1 h2
  have := rowC_swap a b
  exact rowC_zero a b (by omega)
theorem sortR_perm {l l' : List (List V)} (hp : l'.Perm l) : sortR l' = sortR l := by
  have h2 : (sortR l').Pairwise fun x y => rowC x y ≤ 0 := by
    have h := List.pairwise_mergeSort (le := fun x y : List V => decide (rowC x y ≤ 0)) (fun a b c h1 h2 => by simp at h1 h2 ⊢; exact rowC_le_trans a b c h1 h2) (fun a b => by
      have := rowC_swap a b
      simp only [Bool.or_eq_true, decide_eq_true_eq]
      omega) l'
    exact h.imp fun h => by simpa using h
  exact sortR_unique ((List.mergeSort_perm _ _).trans hp) h2
theorem sortR_len (l : List (List V)) : (sortR l).length = l.length := by unfold sortR; rw [List.length_mergeSort]
theorem mem_sortR {l : List (List V)} {r : List V} (h : r ∈ sortR l) : r ∈ l := (List.mergeSort_perm _ _).mem_iff.mp h
theorem lt_row (x y : List V) : (rowC x y ≤ 0) ↔ ¬ rowC y x < 0 := by have := rowC_swap x y; omega
theorem swoR {P : Value × List V → Prop} : Go.Sort.SWO (ltOf fun (x y : {p : Value × List V // P p}) => rowC x.1.2 y.1.2) where
  irrefl x := by simp [ltOf, rowC_self]
  trans x y z h1 h2 := by
    simp only [ltOf, decide_eq_true_eq] at *
    have e1 : rowC x.1.2 y.1.2 = -1 := by rcases rowC_range x.1.2 y.1.2 with e | e | e <;> omega
    have e2 : rowC y.1.2 z.1.2 = -1 := by rcases rowC_range y.1.2 z.1.2 with e | e | e <;> omega
    have := rowC_trans _ _ _ e1 e2
    omega
  ntrans x y z h1 h2 := by
    simp only [ltOf, decide_eq_false_iff_not] at *
    have e1 := (lt_row y.1.2 x.1.2).mpr h1
    have e2 := (lt_row z.1.2 y.1.2).mpr h2
    exact (lt_row z.1.2 x.1.2).mp (rowC_le_trans _ _ _ e2 e1)
/-- A row that lies in w, where it can be sorted. -/
def RowP (w : World) (p : Value × List V) : Prop := E.Sl w p.1 p.2 ∧ p.2.length ≤ 1000
set_option maxHeartbeats 4000000 in
theorem sortF_any (g c : Nat) (vs : List Value) (rows : List (List V)) (w : World) (hv : vs.length = rows.length) (h : w.ownsRow g 35 1 (.slice (some ⟨g, 0, none⟩) rows.length c) rows.length vs) (he : ∀ (j : Nat) x r, vs[j]? = some x → rows[j]? = some r → E.Sl w x r ∧ r.length ≤ 1000) (hl : rows.length ≤ 1000000) (hc : rows.length ≤ c) :
    Calls Tryz.prog 33 #[.slice (some ⟨g, 0, none⟩) rows.length c, .func (.func 34) #[] #[]] w fun e w' => e = .returned (.tuple #[]) ∧ SlR w' (.slice (some ⟨g, 0, none⟩) rows.length c) (sortR rows) ∧ Below g w w' := by
  obtain ⟨dl, hd1, hd2⟩ := paired (P := fun x r => RowP w (x, r)) vs rows hv he
  have hdl : dl.length = rows.length := by rw [← hd2, List.length_map]
  let α : Type := {p : Value × List V // RowP w (p.1, p.2)}
  letI : Inhabited α := ⟨⟨(.slice none 0 0, []), ⟨none, 0, rfl, by simp, fun h => absurd rfl h⟩, by simp⟩⟩
  let enc : α → Value := fun p => p.1.1
  let cf : α → α → Int := fun x y => rowC x.1.2 y.1.2
  have henc : ∀ x : α, ∃ a n c, enc x = .slice a n c := fun x => by obtain ⟨a, c, e, _⟩ := x.2.1; exact ⟨a, _, c, e⟩
  have hone : OneCell enc := fun x => by obtain ⟨a, n, c, e⟩ := henc x; rw [e]; rfl
  let d : Array α := dl.toArray
  have hds : d.size = rows.length := by simp [d, hdl]
  have hblk : g < w.heap.size ∧ ∃ cur, w.heap[g]? = some (.cells cur 35 (0, 0)) := by
    rcases h.2 with ⟨e, _⟩ | ⟨g', cap, cur, e, _, hh, _⟩
    · cases e
    · injection e with e1 _ _
      injection e1 with e1
      injection e1 with e1 _ _
      subst e1
      exact ⟨E.blk_lt hh, cur, hh⟩
  have hH : Go.Sort.Holds enc w g 0 d := fun j hj => by
    constructor
    · have hj' : j < rows.length * 1 := by omega
      rw [Nat.zero_add, h.cellAt j hj', ← hd1, List.getElem?_map, List.getElem?_eq_getElem (by omega)]
      simp [d, enc, getElem!_pos, hdl, show j < rows.length by omega]
    · obtain ⟨_, cur, hh⟩ := hblk
      simp [World.frozen?, hh]
  have hcmp : CmpLays1 Tryz.prog 34 #[] enc cf g 0 d.size w := fun m os dk hs x y => by
    have h1 := sort_sl (m := m) (os := os) hs hH henc x.2.1
    have h2 := sort_sl (m := m) (os := os) hs hH henc y.2.1
    exact (sorted1 (enc x) (enc y) x.1.2 y.1.2 _ h1 h2 x.2.2 y.2.2)
  have hS := Any.slices_SortFunc Tryz.laySort enc hone cf swoR 34 #[] g 0 c d w (enters_of Tryz.func34 (by kernel_rfl) rfl) hcmp hH hblk.1 (by omega)
  rw [hds] at hS
  refine hS.mono ?_
  rintro e w' ⟨rfl, d', n, os, hp, hs, rfl⟩
  obtain ⟨hp1, _, hp3⟩ := hp
  have hd's : d'.size = rows.length := by rw [hp1, hds]
  have e1 : d'.extract 0 rows.length = d' := by rw [← hd's]; exact Array.extract_size
  have e2 : d.extract 0 rows.length = d := by rw [← hds]; exact Array.extract_size
  rw [e1, e2] at hp3
  have hrows : d'.toList.map (·.1.2) = sortR rows := by
    refine sortR_unique ?_ ?_
    · have := hp3.map (·.1.2)
      rw [show d.toList = dl from rfl, hd2] at this
      exact this
    · rw [List.pairwise_map, List.pairwise_iff_getElem]
      intro i j hi hj hij
      have hi' : i < d'.size := by simpa using hi
      have hj' : j < d'.size := by simpa using hj
      have := hs i j (Nat.zero_le _) hij (by omega)
      rw [getElem!_pos d' i hi', getElem!_pos d' j hj'] at this
      simp only [ltOf, decide_eq_false_iff_not, cf] at this
      exact (lt_row _ _).mpr (by simpa using this)
  refine ⟨rfl, ⟨d'.toList.map (·.1.1), ⟨_, c, by simp [hd's], by simp [hd's]; exact hc, fun _ => ⟨g, 0, rfl, ?_, fun j x hj i u hu => ?_⟩⟩, by simp [sortR_len, hd's], fun j x r hx hr => ?_⟩, sort_below (Nat.le_refl _) (Nat.le_of_lt hblk.1)⟩
  · exact Nat.lt_of_lt_of_le hblk.1 (sort_below (B := g) (Nat.le_refl _) (Nat.le_of_lt hblk.1)).size
  · cases i with
    | succ i => simp [encR] at hu
    | zero =>
      simp [encR] at hu
      subst hu
      have hj' : j < d'.size := by have := lt_of_some hj; simpa using this
      rw [List.getElem?_map, List.getElem?_eq_getElem (by simpa using hj')] at hj
      simp at hj
      subst hj
      rw [Nat.mul_one, Nat.add_zero]
      unfold sortWorld
      rw [Go.Sort.cell?_grow _ _ _ (by simpa using hblk.1), Go.Sort.cell?_putRow enc _ g 0 d d' (Go.Sort.holds_ahead enc w n g 0 d hH) (by omega) j hj', getElem!_pos d' j hj']
  · rw [← hrows, List.getElem?_map] at hr
    rw [List.getElem?_map] at hx
    cases hz : d'.toList[j]? with
    | none => rw [hz] at hx; cases hx
    | some z =>
      rw [hz] at hx hr
      simp at hx hr
      subst hx hr
      exact sort_sl (by omega) hH henc z.2.1
set_option maxHeartbeats 4000000 in
theorem sorted_any (B : Nat) (v : Value) (rows : List (List V)) (w : World) (h : SlO B w v rows) (hl : rows.length ≤ 1000000) (hr : ∀ r ∈ rows, r.length ≤ 1000) :
    Calls Tryz.prog 15 #[v] w fun e w' => ∃ v', e = .returned v' ∧ SlR w' v' (sortR rows) ∧ Below w.heap.size w w' := by
  obtain ⟨vs, h1, h2, h3⟩ := h
  have hone : ∀ u ∈ vs, u.oneCell' = true := fun u hu => by
    obtain ⟨j, hj, rfl⟩ := List.mem_iff_getElem.mp hu
    obtain ⟨a, c, e, _⟩ := own_slice (h3 j _ _ (List.getElem?_eq_getElem hj) (List.getElem?_eq_getElem (by omega)))
    rw [e]; rfl
  have HCL := mkH (cloneR_any B v rows.length vs w h2 hone hl)
  have HE : Hid (∀ (j : Nat) x r, vs[j]? = some x → rows[j]? = some r → E.Sl w x r ∧ r.length ≤ 1000) := mkH fun j x r hx hq => ⟨E.Sl_of_owns (h3 j x r hx hq), hr r (List.mem_of_getElem? hq)⟩
  obtain ⟨va, vc, rfl, _⟩ := own_slice h2
  have H1 := mkH h1
  clear h1 h2 h3 hone hr
  go_enter Tryz.func15, Tryz.ntmps15
  go_wp2_with fail
  refine HCL.out.mono ?_
  rintro e w1 ⟨a, c, rfl, ho, hb1⟩
  rcases own_forms ho with ⟨e1, e0⟩ | ⟨g, c', e1, hgb, hg, hc1, hc2⟩
  · have e0' := List.eq_nil_of_length_eq_zero e0
    subst e0'
    injection e1 with e1 _ e3
    subst e1 e3
    have HN := mkH (AnyF.slices_SortFunc_none Tryz.laySort0 none 0 (.func (.func 34) #[] #[]) w1)
    have HB1 := mkH hb1
    clear ho hb1 HCL HE H1 e0
    go_wp2_with fail
    refine HN.out.mono ?_
    rintro e w2 ⟨rfl, rfl⟩
    go_wp2
    go_ret
    exact ⟨_, rfl, ⟨[], ⟨none, 0, rfl, by simp, fun h => absurd rfl h⟩, by rw [sortR_len]; rfl, fun j x r hx => by simp at hx⟩, HB1.out⟩
  · injection e1 with e1 _ e3
    subst e1 e3
    have HS := mkH (sortF_any g c vs rows w1 H1.out (own_at ho) (fun j x r hx hq => ⟨((HE.out j x r hx hq).1).up hb1, (HE.out j x r hx hq).2⟩) hl hc1)
    have HB1 := mkH hb1
    have HGB := mkH hgb
    clear ho hb1 HCL HE H1 hgb
    go_wp2_with fail
    refine HS.out.mono ?_
    rintro e w2 ⟨rfl, hr2, hb2⟩
    have HR2 := mkH hr2
    have HB2 := mkH (HB1.out.trans (hb2.mono HGB.out))
    clear hr2 hb2 HS
    go_wp2
    go_ret
    exact ⟨_, rfl, HR2.out, HB2.out⟩
end Go.Proofs.YtlnkbhbpkmnkaaaGreatDoor.F
namespace Go.Proofs.YtlnkbhbpkmnkaaaGreatDoor.F
open Go.RowKit Go.Proofs Go.Shelf Go.Joins

set_option maxHeartbeats 4000000 in
theorem sortedS_any (v : Value) (rows : List (List V)) (w : World) (h : SlR w v rows) (hl : rows.length ≤ 1000000) (h0 : 0 < rows.length) (hr : ∀ r ∈ rows, r.length ≤ 1000) :
    Calls Tryz.prog 15 #[v] w fun e w' => ∃ a c, e = .returned (.slice a rows.length c) ∧ SlR w' (.slice a rows.length c) (sortR rows) ∧ Below w.heap.size w w' := by
  have HCL := mkH (cloneS_any v rows w h hl)
  obtain ⟨va, vc, rfl, _⟩ := h.slice
  clear h
  unfold ClPost at HCL
  go_enter Tryz.func15, Tryz.ntmps15
  go_wp2_with fail
  refine HCL.out.mono ?_
  rintro e w1 ⟨a, c, vs, rfl, hvl, ho, he, hb1⟩
  rcases own_forms ho with ⟨e1, e0⟩ | ⟨g, c', e1, hgb, hg, hc1, hc2⟩
  · omega
  · injection e1 with e1 _ e3
    subst e1 e3
    have HS := mkH (sortF_any g c vs rows w1 hvl (own_at ho) (fun j x r hx hq => ⟨he j x r hx hq, hr r (List.mem_of_getElem? hq)⟩) hl hc1)
    have HB1 := mkH hb1
    have HGB := mkH hgb
    clear ho hb1 HCL he hgb hvl
    go_wp2_with fail
    refine HS.out.mono ?_
    rintro e w2 ⟨rfl, hr2, hb2⟩
    have HR2 := mkH hr2
    have HB2 := mkH (HB1.out.trans (hb2.mono HGB.out))
    clear hr2 hb2 HS
    go_wp2
    go_ret
    exact ⟨_, _, rfl, HR2.out, HB2.out⟩
theorem convD (n : Nat) (hn : n ≤ 9) (w : World) : (convert 41 9 (.slice (some ⟨w.heap.size, 0, none⟩) 1 1)).run Tryz.prog (w.alloc (.cells #[.int .u8 (48 + (n : Int))] 5)) = .ok (.string (dgB n)) (w.alloc (.cells #[.int .u8 (48 + (n : Int))] 5)) :=
  run_convert_bytes_back _ 41 9 5 ⟨w.heap.size, 0, none⟩ 1 [UInt8.ofNat (48 + n)] Tryz.underlying41 Tryz.underlying5 Tryz.underlying9 (fun j hj => by
    have h1 := u8_back (x := 48 + n) (by omega)
    match j, hj with
    | 0, _ => simp [Addr.add, World.cell?_alloc_at]; push_cast at h1; omega)
theorem convE (k : Nat) (hk : k ≤ 8) (w : World) : (convert 41 9 (.slice (some ⟨w.heap.size, 0, none⟩) 1 1)).run Tryz.prog (w.alloc (.cells #[.int .u8 (49 + (k : Int))] 5)) = .ok (.string (dgB (k + 1))) (w.alloc (.cells #[.int .u8 (49 + (k : Int))] 5)) := by
  have h := convD (k + 1) (by omega) w
  rw [show (48 : Int) + ((k + 1 : Nat) : Int) = 49 + (k : Int) by push_cast; omega] at h
  exact h
end Go.Proofs.YtlnkbhbpkmnkaaaGreatDoor.F
namespace Go.Proofs.YtlnkbhbpkmnkaaaGreatDoor
open Go.RowKit Go.Proofs Go.Lib Go.Joins Go.Proofs.YtlnkbhbpkmnkaaaGreatDoor.Ask
open Go.Proofs.YtlnkbhbpkmnkaaaGreatDoor.Stb (ss)

theorem runs_ord (lv rv : Value) (l : List F.Col) (next : Int) (rows : List (List F.V)) (ord : Option (Nat × Bool)) (lim : Option Nat) (s : ByteArray) (w : World) (hr : C.RightP C.colB C.fitB l next) (hk : ∀ c ∈ l, F.keptC c = false) (hz : ∀ c ∈ l, c.2.1.size ≤ 60)
    (ho : ∀ x, ord = some x → x.1 < l.length) (hm9 : ∀ n, lim = some n → 1 ≤ n ∧ n ≤ 9) (hs : ∀ c0 cs, l = c0 :: cs → s = bA (qX (qO c0 cs ord lim))) (hs6 : s.size ≤ 1000000) (hm : MkB w) (hg : GB w) (hw : 10 ≤ w.heap.size)
    (hcs : F.SlE 7 C.encC w lv l) (hrs : F.SlR w rv rows) (h0 : rows ≠ []) (hl : rows.length ≤ 900) (hrl : ∀ r ∈ rows, r.length = l.length) :
    Calls Tryz.prog 11 #[lv, rv, .string s] w (RunsPost (ordQ ord lim rows) w) := by
  cases l with
  | nil => exact absurd hr.1 (by simp)
  | cons c0 cs =>
    exact runs_orders lv rv c0 cs next rows ord lim s w hr (fun c hc => ⟨kept_nm (hr.2.2.1 c hc).1.2.2.1 (hk c hc), hz c hc⟩) (fun x hx => by simpa using ho x hx) hm9 (hs c0 cs rfl) hs6 hm hg hw hcs hrs (Nat.pos_of_ne_zero fun e => h0 (List.length_eq_zero_iff.1 e)) hl (fun r h => by simpa using hrl r h)
/-- Rows in an order. -/
def upR (k : Nat) (rows : List (List F.V)) : List (List F.V) := ss (F.ltB [(k, false)]) rows
def downR (k : Nat) (rows : List (List F.V)) : List (List F.V) := ss (F.ltB [(k, true)]) rows
theorem ord_plain (rows : List (List F.V)) : ordQ none none rows = rows := by
  show F.limR 0 (ss (F.ltB []) rows) = rows
  rw [ss_none, limR_none]
theorem ord_up (k : Nat) (rows : List (List F.V)) : ordQ (some (k, false)) none rows = upR k rows := limR_none _
theorem ord_down (k : Nat) (rows : List (List F.V)) : ordQ (some (k, true)) none rows = downR k rows := limR_none _
theorem ord_few (k n : Nat) (hn : 1 ≤ n) (rows : List (List F.V)) : ordQ (some (k, false)) (some n) rows = (upR k rows).take (min n rows.length) := by
  show F.limR (n : Int) (upR k rows) = _
  have hl : (upR k rows).length = rows.length := Stb.ss_len _ _
  rw [F.limR_head, F.limR_len _ (by omega), hl]
  congr 1
  split <;> omega
theorem up_len (k : Nat) (rows : List (List F.V)) : (upR k rows).length = rows.length := Stb.ss_len _ _
theorem down_len (k : Nat) (rows : List (List F.V)) : (downR k rows).length = rows.length := Stb.ss_len _ _
theorem up_at (k : Nat) (rows : List (List F.V)) (i : Nat) (a b : List F.V) (h1 : (upR k rows)[i]? = some a) (h2 : (upR k rows)[i + 1]? = some b) : S.cmpW (F.atV a k) (F.atV b k) ≤ 0 := by
  have hl1 := F.lt_of_some h1
  have hl2 := F.lt_of_some h2
  rw [List.getElem?_eq_getElem hl1] at h1
  rw [List.getElem?_eq_getElem hl2] at h2
  injection h1 with h1
  injection h2 with h2
  have hp := (List.pairwise_iff_getElem.1 (Stb.ss_up _ (F.ordB [(k, false)]) rows)) i (i + 1) hl1 hl2 (by omega)
  have hq : F.ltB [(k, false)] b a = false := by rw [← h1, ← h2]; exact hp
  have h3 : ¬ F.stC [(k, false)] b a < 0 := by simpa only [F.ltB, decide_eq_false_iff_not] using hq
  rw [stC_one, S.cmpW_swap] at h3
  omega
theorem stC_two (p : Nat) (a b : List F.V) : F.stC [(p, true)] a b = S.cmpW (F.atV b p) (F.atV a p) := by
  unfold F.stC
  simp only [if_true]
  split
  · rename_i h
    rw [h]
    rfl
  · rfl
theorem down_at (k : Nat) (rows : List (List F.V)) (i : Nat) (a b : List F.V) (h1 : (downR k rows)[i]? = some a) (h2 : (downR k rows)[i + 1]? = some b) : 0 ≤ S.cmpW (F.atV a k) (F.atV b k) := by
  have hl1 := F.lt_of_some h1
  have hl2 := F.lt_of_some h2
  rw [List.getElem?_eq_getElem hl1] at h1
  rw [List.getElem?_eq_getElem hl2] at h2
  injection h1 with h1
  injection h2 with h2
  have hp := (List.pairwise_iff_getElem.1 (Stb.ss_up _ (F.ordB [(k, true)]) rows)) i (i + 1) hl1 hl2 (by omega)
  have hq : F.ltB [(k, true)] b a = false := by rw [← h1, ← h2]; exact hp
  have h3 : ¬ F.stC [(k, true)] b a < 0 := by simpa only [F.ltB, decide_eq_false_iff_not] using hq
  rw [stC_two] at h3
  omega
theorem up_sort (k : Nat) (rows : List (List F.V)) : F.sortR (upR k rows) = F.sortR rows := F.sortR_perm (Stb.ss_perm _ _)
theorem down_sort (k : Nat) (rows : List (List F.V)) : F.sortR (downR k rows) = F.sortR rows := F.sortR_perm (Stb.ss_perm _ _)
/-- A row's value in memory. -/
theorem sl_atV {w : World} {v : Value} {r : List F.V} (h : E.Sl w v r) {k : Nat} (hk : k < r.length) : ∃ b o c, v = .slice (some ⟨b, o, none⟩) r.length c ∧ b < w.heap.size ∧ w.cell? ⟨b, o + k * 3, none⟩ = some (.int .i64 (F.atV r k).1) ∧ w.cell? ⟨b, o + k * 3 + 1, none⟩ = some (.int .i64 (F.atV r k).2.1) ∧ w.cell? ⟨b, o + k * 3 + 2, none⟩ = some (.string (F.atV r k).2.2) := by
  obtain ⟨a, c, e, hc, hl⟩ := h
  obtain ⟨b, o, rfl, hb, hcell⟩ := hl (by intro e; rw [e] at hk; simp at hk)
  have hx : r[k]? = some (F.atV r k) := by unfold F.atV; rw [List.getElem?_eq_getElem hk]; rfl
  have h1 := hcell k _ hx
  exact ⟨b, o, c, e, hb, h1.1, h1.2.1, h1.2.2⟩
end Go.Proofs.YtlnkbhbpkmnkaaaGreatDoor
