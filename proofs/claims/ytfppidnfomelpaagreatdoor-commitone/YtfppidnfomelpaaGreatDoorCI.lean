/- Where the law CommitOne stands between two turns. -/
import Derived.Test.YtfppidnfomelpaaGreatDoorCE
import Derived.Test.YtfppidnfomelpaaGreatDoorC2
namespace Go.Proofs.YtfppidnfomelpaaGreatDoor
open Go.RowKit Go.Proofs Go.Lib Go.Joins

/-- A bucket of one's own, from a world w0 on that holds the variables. -/
structure Base (w0 w : World) (NF bb n : Nat) (D : DataW Unit) (fs : List Int) (mv fv : Value) : Prop where
  bu : B.Bu w bb n D fs mv fv
  low : Below w0.heap.size w0 w
  hb : w0.heap.size ≤ bb
  hm : ∀ k, mv = .map (some k) → w0.heap.size ≤ k
  er : ErrB w0
  nc : NcB w0
  tb : TabB w0
  hf : ∀ b off l c, fv = .slice (some ⟨b, off, none⟩) (l + 1) c → b < NF
theorem Base.ground {w0 w : World} {NF bb n : Nat} {D : DataW Unit} {fs : List Int} {mv fv : Value} (h : Base w0 w NF bb n D fs mv fv) : Ground w bb n D mv :=
  ⟨h.bu.1.c0, h.bu.2.1, h.er.below h.low, h.nc.below h.low, h.tb.below h.low⟩
theorem Base.up {w0 w W : World} {NF bb n : Nat} {D : DataW Unit} {fs : List Int} {mv fv : Value} (h : Base w0 w NF bb n D fs mv fv) (hb : Below w.heap.size w W) : Base w0 W NF bb n D fs mv fv :=
  ⟨h.bu.below hb, Below.ups h.low hb, h.hb, h.hm, h.er, h.nc, h.tb, h.hf⟩
theorem keepT {W Y : World} {bb n : Nat} {D : DataW Unit} {fs : List Int} {mv fv : Value} {b : Nat} {cs : Array Value} {T : TypeId} (h : B.Bu W bb n D fs mv fv) (ho : B.Only (B.Own bb mv) W Y) (hb : W.heap[b]? = some (.cells cs T (0, 0))) (hT : T ≠ 42) : Y.heap[b]? = some (.cells cs T (0, 0)) := by
  refine (ho.block b (blk_lt hb) ?_).trans hb
  rintro (e | e)
  · subst e
    have hB : W.heap[b]? = _ := h.1
    rw [hB] at hb
    injection hb with hb
    injection hb with _ hb
    exact hT hb.symm
  · rcases h.2.1 with ⟨h0, _⟩ | ⟨m, e', es, clock, hbm, _⟩
    · rw [h0] at e; cases e
    · rw [e'] at e
      cases e
      rw [hbm] at hb
      cases hb
/-- What Put does, from w0 on. -/
theorem put_base {w0 w : World} {NF bb n : Nat} {D : DataW Unit} {fs : List Int} {mv fv : Value} (h : Base w0 w NF bb n D fs mv fv) (hn : n < 100000) (i : Nat) (s : ByteArray) (hs : s.size ≤ maxLen) (r : Int × DataW Unit × List Int) (hr : B.putR D fs (keyB i) s = r) :
    Calls Tryz.prog 33 #[.pointer (some ⟨bb, 0, none⟩), .string (keyB i), .string s] w fun e w' => e = .returned (B.errV r.1) ∧ ∃ mv' fv', Base w0 w' NF bb (n + 1) r.2.1 r.2.2 mv' fv' ∧ B.Only (B.Own bb mv) w w' ∧ ∀ k, mv' = .map (some k) → mv = .map (some k) ∨ w.heap.size ≤ k := by
  refine (B.put_any bb n D fs mv fv (keyB i) s w h.bu (by unfold maxLen; omega) (by rw [key_size]; decide) hs).mono ?_
  rw [hr]
  rintro e w' ⟨rfl, mv', fv', hb', ho, hm', hsb⟩
  refine ⟨rfl, mv', fv', ⟨hb', ho.below h.low h.low.size ?_, h.hb, fun k hk => ?_, h.er, h.nc, h.tb, fun b off l c e => ?_⟩, ho, hm'⟩
  · rintro i (rfl | e)
    · exact h.hb
    · exact h.hm i e
  · rcases hm' k hk with e | e
    · exact h.hm k e
    · exact Nat.le_trans h.low.size e
  · obtain ⟨o0, l0, c0, e0⟩ := hsb b off l c e
    exact h.hf b o0 l0 c0 e0
theorem key_ok (i : Nat) : B.okKey (keyB i) = true := rfl
theorem putR_twice {D : DataW Unit} {fs : List Int} {i : Nat} {s : ByteArray} (h : Maps.has D (B.lit (keyB i)) = true) : B.putR D fs (keyB i) s = (9, D, fs) := by
  unfold B.putR
  rw [key_ok, h]
  rfl
theorem putR_new {D : DataW Unit} {fs : List Int} {i : Nat} {s : ByteArray} (h : Maps.has D (B.lit (keyB i)) = false) : B.putR D fs (keyB i) s = if fs.headD 0 = 1 then (14, D, fs.tail) else if fs.headD 0 = 2 then (14, D.put (B.lit (keyB i)) (B.txt s), fs.tail) else (0, D.put (B.lit (keyB i)) (B.txt s), fs.tail) := by
  unfold B.putR
  rw [key_ok, h]
  rfl
/-- No commit from j up to i fights C. -/
def NoFight (C : Com) (H : List (Com × Snap)) (j i : Nat) : Prop := ∀ x c, j ≤ x → x < i → (H[x]?).map (·.1) = some c → fightsB C c = false
theorem noFight_snoc {C : Com} {H : List (Com × Snap)} {j i : Nat} {c : Com} (h : NoFight C H j i) (hc : (H[i]?).map (·.1) = some c) (hf : fightsB C c = false) : NoFight C H j (i + 1) := fun x d h1 h2 hd => by
  rcases Nat.lt_or_ge x i with hlt | hge
  · exact h x d h1 hlt hd
  · have : x = i := by omega
    subst this
    rw [hc] at hd
    cases hd
    exact hf
/-- Why a commit is not made. -/
def TryNo (C : Com) (H : List (Com × Snap)) (fs : List Int) (j : Nat) (er : Value) : Prop :=
  printOk C = false ∨ (∃ i, j ≤ i ∧ i ≤ H.length ∧ NoFight C H j i ∧ ∀ t, ¬ AppliesL (snapAt H i) C t) ∨ (∃ i c, j ≤ i ∧ (H[i]?).map (·.1) = some c ∧ fightsB C c = true ∧ er = .iface 73 (.int .i64 6)) ∨ (NoFight C H j H.length ∧ fs.headD 0 = 1)
/-- What Try comes to. -/
def TryPost (w0 w : World) (NF bb n : Nat) (D : DataW Unit) (fs : List Int) (mv : Value) (C : Com) (H : List (Com × Snap)) (j : Nat) (e : Ending) (w' : World) : Prop :=
  ∃ n' D' fs' mv' fv', Base w0 w' NF bb n' D' fs' mv' fv' ∧ n' ≤ n + 50 ∧ B.Only (B.Own bb mv) w w' ∧ (∀ k, mv' = .map (some k) → mv = .map (some k) ∨ w.heap.size ≤ k) ∧
    ((∃ t, e = .returned (.tuple #[.int .i64 (H.length + 1 : Nat), .nilIface]) ∧ AppliesL (snapAt H H.length) C t ∧ printOk C = true ∧ NoFight C H j H.length ∧ D' = D.put (B.lit (keyB (H.length + 1))) (B.txt (printB C))) ∨
     (∃ ty x, e = .returned (.tuple #[.int .i64 0, .iface ty x]) ∧ D' = D ∧ TryNo C H fs j (.iface ty x)))
/-- Between two tries. -/
structure TrI (w0 w : World) (NF bb n : Nat) (D : DataW Unit) (fs : List Int) (mv : Value) (C : Com) (aa : Option Addr) (an ac : Nat) (H : List (Com × Snap)) (j kb : Nat) (W : World) (k : Nat) (a1 : Option Addr) (n1 c1 : Nat) (x2 : Int) (a2 : Option Addr) (n2 c2 : Nat) (mv' fv' : Value) : Prop where
  base : Base w0 W NF bb (n + (k - j)) D fs mv' fv'
  only : B.Only (B.Own bb mv) w W
  link : ∀ k, mv' = .map (some k) → mv = .map (some k) ∨ w.heap.size ≤ k
  box : W.heap[w.heap.size]? = some (.cells #[.int .i64 k, .slice a1 n1 c1, .int .i64 x2, .slice a2 n2 c2] 47 (0, 0))
  snap : SnapW W (snapAt H k) (snv k a1 n1 c1 x2 a2 n2 c2)
  com : W.heap[w.heap.size + 1]? = some (.cells #[.string C.1, .bool C.2.1, .slice aa an ac] 24 (0, 0))
  kb : W.heap[kb]? = some (.cells #[.pointer (some ⟨bb, 0, none⟩)] 39 (0, 0))
  st : Stays w W
  quiet : NoFight C H j k
theorem TrI.up {w0 w : World} {NF bb n : Nat} {D : DataW Unit} {fs : List Int} {mv : Value} {C : Com} {aa : Option Addr} {an ac : Nat} {H : List (Com × Snap)} {j kb : Nat} {W Y : World} {k : Nat} {a1 : Option Addr} {n1 c1 : Nat} {x2 : Int} {a2 : Option Addr} {n2 c2 : Nat} {mv' fv' : Value} (h : TrI w0 w NF bb n D fs mv C aa an ac H j kb W k a1 n1 c1 x2 a2 n2 c2 mv' fv') (hb : Below W.heap.size W Y) : TrI w0 w NF bb n D fs mv C aa an ac H j kb Y k a1 n1 c1 x2 a2 n2 c2 mv' fv' :=
  ⟨h.base.up hb, h.only.trans (B.Only.of_below (S := fun _ => False) hb) (fun _ _ h => h.elim), h.link, (hb.block _ (blk_lt h.box)).trans h.box, h.snap.up hb, (hb.block _ (blk_lt h.com)).trans h.com, (hb.block _ (blk_lt h.kb)).trans h.kb, h.st.trans (Stays.of_below hb), h.quiet⟩
/-- .. behind a Put. -/
theorem TrI.put {w0 w : World} {NF bb n n' : Nat} {D D' : DataW Unit} {fs fs' : List Int} {mv : Value} {C : Com} {aa : Option Addr} {an ac : Nat} {H : List (Com × Snap)} {j kb : Nat} {W Y : World} {k : Nat} {a1 : Option Addr} {n1 c1 : Nat} {x2 : Int} {a2 : Option Addr} {n2 c2 : Nat} {mv' fv' mv2 fv2 : Value} (h : TrI w0 w NF bb n D fs mv C aa an ac H j kb W k a1 n1 c1 x2 a2 n2 c2 mv' fv') (_hB : Base w0 Y NF bb n' D' fs' mv2 fv2) (ho : B.Only (B.Own bb mv') W Y) (hl : ∀ k, mv2 = .map (some k) → mv' = .map (some k) ∨ W.heap.size ≤ k) :
    B.Only (B.Own bb mv) w Y ∧ (∀ k, mv2 = .map (some k) → mv = .map (some k) ∨ w.heap.size ≤ k) ∧ Y.heap[w.heap.size]? = some (.cells #[.int .i64 k, .slice a1 n1 c1, .int .i64 x2, .slice a2 n2 c2] 47 (0, 0)) ∧ SnapW Y (snapAt H k) (snv k a1 n1 c1 x2 a2 n2 c2) ∧ Y.heap[w.heap.size + 1]? = some (.cells #[.string C.1, .bool C.2.1, .slice aa an ac] 24 (0, 0)) ∧ Y.heap[kb]? = some (.cells #[.pointer (some ⟨bb, 0, none⟩)] 39 (0, 0)) ∧ Stays w Y := by
  refine ⟨h.only.trans ho (fun i hi e => ?_), fun k hk => ?_, keepT h.base.bu ho h.box (by decide), h.snap.only h.base.bu ho, keepT h.base.bu ho h.com (by decide), keepT h.base.bu ho h.kb (by decide), h.st.trans (Stays.put h.base.bu ho)⟩
  · rcases e with e | e
    · exact .inl e
    · rcases h.link i e with e | e
      · exact .inr e
      · omega
  · rcases hl k hk with e | e
    · exact h.link k e
    · exact .inr (Nat.le_trans h.only.size e)
/-- A store into a block that is none of the bucket's. -/
theorem Base.store {w0 W Y : World} {NF bb n : Nat} {D : DataW Unit} {fs : List Int} {mv fv : Value} {b : Nat} {cs : Array Value} {T : TypeId} (h : Base w0 W NF bb n D fs mv fv) (hb : W.heap[b]? = some (.cells cs T (0, 0))) (hT : T ≠ 42) (hN : NF ≤ b) (hw : w0.heap.size ≤ b) (hg : W.grownBy Y (some b)) : Base w0 Y NF bb n D fs mv fv := by
  obtain ⟨hB, hTh, hF⟩ := h.bu
  have hne : b ≠ bb := fun e => by
    subst e
    have hB' : W.heap[b]? = _ := hB
    rw [hB'] at hb
    injection hb with hb
    injection hb with _ hb
    exact hT hb.symm
  refine ⟨⟨hB.keep (hg.block bb hB.lt (fun e => by injection e with e; exact hne e.symm)), hTh.keep fun m e => hg.block m (hTh.lt e) (fun e2 => ?_), ?_⟩, h.low.grown hg h.low.size (fun j hj => by injection hj with hj; omega), h.hb, h.hm, h.er, h.nc, h.tb, h.hf⟩
  · injection e2 with e2
    subst e2
    rcases hTh with ⟨h0, _⟩ | ⟨m', e', es, clock, hbm, _⟩
    · rw [h0] at e; cases e
    · rw [e'] at e
      cases e
      rw [hbm] at hb
      cases hb
  · obtain ⟨a, cap, e, hc, hl⟩ := hF
    refine ⟨a, cap, e, hc, fun hn => ?_⟩
    obtain ⟨g, off, ea, hcell⟩ := hl hn
    refine ⟨g, off, ea, fun i x hx => ?_⟩
    have hlt : g < NF := by
      cases hfs : fs with
      | nil => exact absurd hfs hn
      | cons y l =>
        refine h.hf g off l.length cap ?_
        rw [e, ea, hfs]
        rfl
    have hcx := hcell i x hx
    have e1 := hg.block g (cell_lt hcx) (fun e => by injection e with e; omega)
    simp only [World.cell?, e1] at hcx ⊢
    exact hcx
theorem keep_ne {W Y : World} {b q : Nat} {cs ds : Array Value} {T U : TypeId} (h : W.heap[b]? = some (.cells cs T (0, 0))) (hq : W.heap[q]? = some (.cells ds U (0, 0))) (hT : T ≠ U) (hg : W.grownBy Y (some q)) : Y.heap[b]? = some (.cells cs T (0, 0)) :=
  (hg.block b (blk_lt h) (fun e => by
    injection e with e
    subst e
    rw [h] at hq
    injection hq with hq
    injection hq with _ hq
    exact hT hq)).trans h
end Go.Proofs.YtfppidnfomelpaaGreatDoor

namespace Go.Proofs.YtfppidnfomelpaaGreatDoor
open Go.RowKit Go.Proofs Go.Lib Go.Joins

theorem eql_97 (w : World) : (binOp .eql 28 (.iface 73 (.int .i64 9)) (.iface 73 (.int .i64 14))).run Tryz.prog w = .ok (.bool false) w := by kernel_rfl
theorem eql_1414 (w : World) : (binOp .eql 28 (.iface 73 (.int .i64 14)) (.iface 73 (.int .i64 14))).run Tryz.prog w = .ok (.bool true) w := by kernel_rfl
/-- Apply at a table that is at hand, with its result's version. -/
theorem apply_at {s : Snap} {y0 : Int} {b1 : Option Addr} {m1 d1 : Nat} {y2 : Int} {b2 : Option Addr} {m2 d2 : Nat} {C : Com} {aa : Option Addr} {an ac : Nat} {w : World} (h : SnapW w s (snv y0 b1 m1 d1 y2 b2 m2 d2)) (hg : Good colB fitB s) (hv0 : 0 ≤ s.ver) (hv1 : s.ver ≤ 1000) (ha : ActsAt w (.slice aa an ac) C.2.2) (h12 : C.2.2.length ≤ 1000) (htx : C.1.size ≤ maxLen) (hw : NcB w) :
    Calls Tryz.prog 20 #[.agg #[.int .i64 y0, .slice b1 m1 d1, .int .i64 y2, .slice b2 m2 d2], .agg #[.string C.1, .bool C.2.1, .slice aa an ac]] w fun e w' => Below w.heap.size w w' ∧ ((∃ t a1 n1 c1 x2 a2 n2 c2, e = .returned (.tuple #[.agg #[.int .i64 (s.ver + 1), .slice a1 n1 c1, .int .i64 x2, .slice a2 n2 c2], .nilIface]) ∧ AppliesL s C t) ∨ (∃ x0 a1 n1 c1 x2 a2 n2 c2 ty x, e = .returned (.tuple #[.agg #[.int .i64 x0, .slice a1 n1 c1, .int .i64 x2, .slice a2 n2 c2], .iface ty x]) ∧ ∀ t, ¬ AppliesL s C t)) := by
  obtain ⟨tx, rd, A⟩ := C
  refine (apply_out s _ tx rd A aa an ac w h hg hv0 hv1 ha h12 htx hw).mono ?_
  rintro e w' ⟨x0, a1, n1, c1, x2, a2, n2, c2, er, rfl, hb, ⟨rfl, t, h1, h2⟩ | ⟨ty, x, rfl, hno⟩⟩
  · obtain ⟨_, _, _, _, _, _, _, ev⟩ := snapW_form h2
    unfold snv at ev
    simp only [Value.agg.injEq, Array.mk.injEq, List.cons.injEq, Value.int.injEq, Value.slice.injEq] at ev
    have hx : x0 = s.ver + 1 := by rw [ev.1.2, applies_ver h1]
    subst hx
    exact ⟨hb, .inl ⟨t, a1, n1, c1, x2, a2, n2, c2, rfl, h1⟩⟩
  · exact ⟨hb, .inr ⟨x0, a1, n1, c1, x2, a2, n2, c2, ty, x, rfl, hno⟩⟩
set_option maxHeartbeats 8000000 in
set_option maxRecDepth 100000 in
theorem try_any (w0 : World) (NF bb n : Nat) (D : DataW Unit) (fs : List Int) (mv fv : Value) (tx : ByteArray) (rd : Bool) (A : List Actn) (aa : Option Addr) (an ac : Nat) (H : List (Com × Snap)) (j : Nat) (a1 : Option Addr) (n1 c1 : Nat) (x2 : Int) (a2 : Option Addr) (n2 c2 : Nat) (w : World) (h : Base w0 w NF bb n D fs mv fv) (hNF : NF ≤ w.heap.size) (hn : n ≤ 90000) (hl : Lain D H) (hp : Past' H) (h40 : H.length ≤ 40) (hj : j ≤ H.length)
    (hs : SnapW w (snapAt H j) (snv j a1 n1 c1 x2 a2 n2 c2)) (hA : ActsAt w (.slice aa an ac) A) (h12 : A.length ≤ 12) (htx : tx.size ≤ 60) (hlo : ∀ a ∈ A, rightA a = true → LineOk a) :
    Calls Tryz.prog 15 #[.pointer (some ⟨bb, 0, none⟩), snv j a1 n1 c1 x2 a2 n2 c2, .agg #[.string tx, .bool rd, .slice aa an ac]] w (TryPost w0 w NF bb n D fs mv (tx, rd, A) H j) := by
  have htm : tx.size ≤ maxLen := by unfold maxLen; omega
  obtain ⟨t0, t1, t2, t3⟩ := two_alloc w (.cells #[.int .i64 j, .slice a1 n1 c1, .int .i64 x2, .slice a2 n2 c2] 47) (.cells #[.string tx, .bool rd, .slice aa an ac] 24)
  have HPR := mkH (print_any tx rd A aa an ac _ (hA.below t3) (by omega) htm hlo (h.ground.nc.below t3) (h.ground.tb.below t3))
  unfold snv
  cases hpo : printOk (tx, rd, A) with
  | false =>
    unfold printE at HPR
    rw [hpo] at HPR
    have HNO : Hid (∀ W, Below w.heap.size w W → TryPost w0 w NF bb n D fs mv (tx, rd, A) H j (.returned (.tuple #[.int .i64 0, .iface 73 (.int .i64 1)])) W) := mkH (fun W hb => ⟨n, D, fs, mv, fv, h.up hb, by omega, B.Only.of_below hb, fun k hk => .inl hk, .inr ⟨_, _, rfl, rfl, .inl hpo⟩⟩)
    have HT3 := mkH t3
    clear h hl hp hs hA hlo hpo t0 t1 t2 t3
    go_enter Tryz.func15, Tryz.ntmps15
    go_wp2_with fail
    refine HPR.out.mono ?_
    rintro e w1 ⟨rfl, hb1⟩
    clear HPR
    go_wp2_with fail
    go_ret2
    exact HNO.out _ (Below.ups HT3.out hb1)
  | true =>
    unfold printE at HPR
    rw [hpo] at HPR
    have HLY : Hid (Lay (tx, rd, A)) := mkH ⟨hpo, fun a ha => by
      simp only [printOk, Bool.and_eq_true, List.all_eq_true] at hpo
      exact hlo a ha (hpo.2 a ha), h12⟩
    have hpl := print_len hpo HLY.out.lines h12
    have HI0 : Hid (∀ W, Below ((w.alloc (.cells #[.int .i64 j, .slice a1 n1 c1, .int .i64 x2, .slice a2 n2 c2] 47)).alloc (.cells #[.string tx, .bool rd, .slice aa an ac] 24)).heap.size ((w.alloc (.cells #[.int .i64 j, .slice a1 n1 c1, .int .i64 x2, .slice a2 n2 c2] 47)).alloc (.cells #[.string tx, .bool rd, .slice aa an ac] 24)) W → TrI w0 w NF bb n D fs mv (tx, rd, A) aa an ac H j W.heap.size (W.alloc (.cells #[.pointer (some ⟨bb, 0, none⟩)] 39)) j a1 n1 c1 x2 a2 n2 c2 mv fv) := mkH (fun W hb => by
      have hb' := Below.ups (Below.ups t3 hb) ((Below.refl _ W).alloc (Nat.le_refl _) (.cells #[.pointer (some ⟨bb, 0, none⟩)] 39))
      have hb2 := Below.ups hb ((Below.refl _ W).alloc (Nat.le_refl _) (.cells #[.pointer (some ⟨bb, 0, none⟩)] 39))
      refine ⟨by rw [Nat.sub_self]; exact h.up hb', B.Only.of_below hb', fun k hk => .inl hk, (hb2.block _ (blk_lt t1)).trans t1, hs.up hb', (hb2.block _ (blk_lt t2)).trans t2, heap_alloc_new _ _, Stays.of_below hb', fun x c h1 h2 => by omega⟩)
    have HL := mkH hl
    have HP := mkH hp
    have HLW := mkH h.low.size
    have HA0 := mkH hA
    clear h hl hp hs hA hlo t0 t1 t2 t3 hpo
    have q1 := eql_nn
    have q2 := eql_77
    have q3 := eql_97
    have q4 := eql_1414
    go_enter Tryz.func15, Tryz.ntmps15
    go_wp2_with fail
    refine HPR.out.mono ?_
    rintro e w1 ⟨rfl, hb1⟩
    have HI1 := mkH (HI0.out w1 hb1)
    clear HPR HI0 hb1
    go_wp2_with (go_at_call 31; refine (lying_any _ _).mono ?_; rintro e w2 ⟨rfl, rfl⟩)
    generalize w1.alloc (.cells #[.pointer (some ⟨bb, 0, none⟩)] 39) = wa at *
    generalize w1.heap.size = kb at *
    generalize hpb : printB (tx, rd, A) = pb at *
    have HPB := mkH hpb
    clear hpb
    go_loopw [11, 12, 13, 14] (fun _ _ _ _ wr => ∃ k a1 n1 c1 x2 a2 n2 c2 mv' fv', k ≤ H.length ∧ j ≤ k ∧ Hid (TrI w0 w NF bb n D fs mv (tx, rd, A) aa an ac H j kb wr k a1 n1 c1 x2 a2 n2 c2 mv' fv')) (fun _ _ _ _ wr => H.length - verOf w.heap.size wr)
    case atStart => exact ⟨j, a1, n1, c1, x2, a2, n2, c2, mv, fv, hj, Nat.le_refl _, HI1⟩
    case round =>
      obtain ⟨k, a1, n1, c1, x2, a2, n2, c2, mv', fv', hkm, hjk, HI⟩ := hrel
      clear HI1
      obtain ⟨hg1, hg2, hg3⟩ := past_good HP.out (i := k) hkm
      have HAP := mkH (apply_at (C := (tx, rd, A)) HI.out.snap hg1 (by rw [hg3]; omega) (by rw [hg3]; omega) (HA0.out.stays HI.out.st) (by show A.length ≤ 1000; omega) htm HI.out.base.ground.nc)
      rw [hg3] at HAP
      simp only at HAP
      have HG := mkH (And.intro hg1 hg3)
      have hz1 : (k : Int) + 1 ≤ 41 := by omega
      have hz2 : (0 : Int) ≤ (k : Int) := by omega
      have hz3 : ¬ (200 : Int) ≤ (k : Int) := by omega
      clear hg1 hg2 hg3
      obtain ⟨x0, x1, x3, x4, xf⟩ := cells4 HI.out.box
      have hvk := mkH (verOf_eq x0)
      obtain ⟨y0, y1, y2, yf⟩ := cells3 HI.out.com
      go_wp2_with fail
      refine HAP.out.mono ?_
      rintro e w2 ⟨hb2, ⟨t, b1, m1, d1, z2, b2, m2, d2, rfl, hap⟩ | ⟨z0, b1, m1, d1, z2, b2, m2, d2, ty, x, rfl, hno⟩⟩
      · have HB2 : Hid (Below wr.heap.size wr (w2.alloc (.cells #[.int .i64 ((k : Int) + 1), .slice b1 m1 d1, .int .i64 z2, .slice b2 m2 d2] 47))) := mkH (Below.ups hb2 ((Below.refl _ _).alloc (Nat.le_refl _) _))
        have HI2 := mkH (HI.out.up HB2.out)
        have HN2 := mkH (heap_alloc_new w2 (.cells #[.int .i64 ((k : Int) + 1), .slice b1 m1 d1, .int .i64 z2, .slice b2 m2 d2] 47))
        have HT := mkH hap
        have HK3 := mkH (key_any (k + 1) (w2.alloc (.cells #[.int .i64 ((k : Int) + 1), .slice b1 m1 d1, .int .i64 z2, .slice b2 m2 d2] 47)) (by omega) HI2.out.base.ground.tb)
        have e1 : ((k + 1 : Nat) : Int) = (k : Int) + 1 := by omega
        rw [e1] at HK3
        have X2 := mkH HI2.out.box
        clear x0 x1 x3 x4 xf y0 y1 y2 yf hb2 hap HAP
        obtain ⟨x0, x1, x3, x4, xf⟩ := cells4 X2.out
        go_wp2_with fail
        refine HK3.out.mono ?_
        rintro e w3 ⟨rfl, hb3⟩
        have HI3 := mkH (HI2.out.up hb3)
        have HN3 := mkH ((hb3.block _ (blk_lt HN2.out)).trans HN2.out)
        clear x0 x1 x3 x4 xf hb3 HK3 HI2 HN2 HB2 X2
        by_cases hlt : k < H.length
        · obtain ⟨c, hc, hapc, hlay⟩ := past_at HP.out hlt
          obtain ⟨hh, hat⟩ := (HL.out.2 k (by omega)).1 c hc
          have HPU := mkH (put_base HI3.out.base (by omega) (k + 1) pb (by unfold maxLen; omega) (9, D, fs) (putR_twice hh))
          rw [show B.errV ((9 : Int), D, fs).1 = Value.iface 73 (.int .i64 9) from rfl] at HPU
          go_wp2_with fail
          refine HPU.out.mono ?_
          rintro e w4 ⟨rfl, mv4, fv4, hB4, ho4, hl4⟩
          obtain ⟨o1, l1, bx, sn, cm, kb', ac'⟩ := HI3.out.put hB4 ho4 hl4
          have HN4 := mkH (keepT HI3.out.base.bu ho4 HN3.out (by decide))
          have en : n + (k - j) + 1 = n + 1 + (k - j) := by omega
          have HI4 : Hid (TrI w0 w NF bb (n + 1) D fs mv (tx, rd, A) aa an ac H j kb w4 k a1 n1 c1 x2 a2 n2 c2 mv4 fv4) := mkH ⟨en ▸ hB4, o1, l1, bx, sn, cm, kb', ac', HI3.out.quiet⟩
          have HAT := mkH (at_yes bb kb _ D mv4 (k + 1) c w4 (by omega) hB4.ground kb' hh hat hlay)
          rw [e1] at HAT
          obtain ⟨ctx, crd, cA⟩ := c
          simp only at HAT
          have HC := mkH (And.intro hc (And.intro hapc hlay))
          clear hB4 ho4 hl4 o1 l1 bx sn cm kb' ac' HPU hh hat hapc hlay hc HI3 HN3
          obtain ⟨x0, x1, x3, x4, xf⟩ := cells4 HN4.out
          go_wp2_with fail
          refine HAT.out.mono ?_
          rintro e w5 ⟨ba, bn, bc, rfl, hA5, hb5⟩
          generalize printB (ctx, crd, cA) = cpb at *
          have HB5 : Hid (Below w4.heap.size w4 (w5.alloc (.cells #[.string cpb, .string ctx, .bool crd, .slice ba bn bc] 89))) := mkH (Below.ups hb5 ((Below.refl _ _).alloc (Nat.le_refl _) _))
          have HI5 := mkH (HI4.out.up HB5.out)
          have HA5 := mkH (hA5.below ((Below.refl _ _).alloc (Nat.le_refl _) (.cells #[.string cpb, .string ctx, .bool crd, .slice ba bn bc] 89)))
          have HE5 := mkH (heap_alloc_new w5 (.cells #[.string cpb, .string ctx, .bool crd, .slice ba bn bc] 89))
          have hc12 : cA.length ≤ 12 := HC.out.2.2.few
          have HFI := mkH (fights_any tx rd aa an ac A ctx crd ba bn bc cA _ (HA0.out.stays HI5.out.st) HA5.out (by omega) (by omega))
          clear x0 x1 x3 x4 xf hA5 hb5 HAT HN4
          obtain ⟨y0, y1, y2, yf⟩ := cells3 HI5.out.com
          go_wp2_with fail
          refine HFI.out.mono ?_
          rintro e w6 ⟨rfl, hb6⟩
          have HI6 := mkH (HI5.out.up hb6)
          have HA6 := mkH (HA5.out.below hb6)
          have HE6 := mkH ((hb6.block _ (blk_lt HE5.out)).trans HE5.out)
          clear y0 y1 y2 yf hb6 HFI HI5 HA5 HE5 HB5 HI4
          cases hf : fightsB (tx, rd, A) (ctx, crd, cA) with
          | true =>
            have HPO : Hid (TryPost w0 w NF bb n D fs mv (tx, rd, A) H j (.returned (.tuple #[.int .i64 0, .iface 73 (.int .i64 6)])) w6) := mkH ⟨_, _, _, _, _, HI6.out.base, by omega, HI6.out.only, HI6.out.link, .inr ⟨_, _, rfl, rfl, .inr (.inr (.inl ⟨k, _, hjk, HC.out.1, hf, rfl⟩))⟩⟩
            clear hf
            go_wp2_with fail
            go_ret2
            exact HPO.out
          | false =>
            have htc : ctx.size ≤ maxLen := by
              have hh := HC.out.2.2.ok
              simp only [printOk, Bool.and_eq_true] at hh
              have := name_size hh.1
              unfold maxLen
              omega
            have HBE := mkH (behind_yes _ _ k a1 n1 c1 x2 a2 n2 c2 ctx crd cA ba bn bc w6 HI6.out.snap HG.out.1 (by rw [HG.out.2]; omega) (by rw [HG.out.2]; omega) HA6.out (by omega) htc HI6.out.base.ground.nc HC.out.2.1)
            have HQ := mkH (noFight_snoc HI6.out.quiet HC.out.1 hf)
            have HV1 : Hid ((snapAt H (k + 1)).ver = (k + 1 : Nat)) := mkH (past_good HP.out (i := k + 1) (by omega)).2.2
            unfold snv at HBE
            obtain ⟨x0, x1, x3, x4, xf⟩ := cells4 HI6.out.box
            obtain ⟨y0, y1, y2, y3, yf⟩ := cells4 HE6.out
            clear hf htc
            go_wp2_with fail
            refine HBE.out.mono ?_
            rintro e w7 ⟨u0, g1, p1, q1', u2, g2, p2, q2', rfl, hs7, hb7⟩
            obtain ⟨_, _, _, _, _, _, _, ev⟩ := snapW_form hs7
            unfold snv at ev
            simp only [Value.agg.injEq, Array.mk.injEq, List.cons.injEq, Value.int.injEq, Value.slice.injEq] at ev
            have hu0 : u0 = ((k + 1 : Nat) : Int) := by rw [ev.1.2, HV1.out]
            clear ev
            subst hu0
            have HS7 := mkH hs7
            have HI7 := mkH (HI6.out.up hb7)
            clear x0 x1 x3 x4 xf y0 y1 y2 y3 yf hs7 hb7 HBE HI6 HA6 HE6
            obtain ⟨_, _, _, _, gf⟩ := cells4 HI7.out.box
            have g0' := gf 0
            have g1' := gf 1
            have g2' := gf 2
            have g3' := gf 3
            clear gf e1
            generalize hkn : ((k + 1 : Nat) : Int) = ki at *
            go_wp2_with fail
            subst hkn
            obtain ⟨hP, hG⟩ := put4 _ _ _ _ _ _ (.int .i64 ((k + 1 : Nat) : Int)) (.slice g1 p1 q1') (.int .i64 u2) (.slice g2 p2 q2') _ HI7.out.box
            have hw0 : w0.heap.size ≤ w.heap.size := HLW.out
            have en : n + 1 + (k - j) = n + (k + 1 - j) := by omega
            refine ⟨⟨k + 1, g1, p1, q1', u2, g2, p2, q2', mv4, fv4, by omega, by omega, mkH ⟨en ▸ HI7.out.base.store HI7.out.box (by decide) hNF hw0 hG, HI7.out.only.grown hG (fun m hm hlt => by injection hm with hm; omega), HI7.out.link, hP, HS7.out.put HI7.out.box hG, ?_, ?_, ?_, HQ.out⟩⟩, ?_⟩
            · exact (hG.block _ (blk_lt HI7.out.com) (fun e => by injection e with e; omega)).trans HI7.out.com
            · exact keep_ne HI7.out.kb HI7.out.box (by decide) hG
            · exact ⟨Nat.le_trans HI7.out.st.size hG.size, fun g o x hc => (hG.block g (Nat.lt_of_lt_of_le (cell_lt hc) HI7.out.st.size) (fun e => by injection e with e; have := cell_lt hc; omega)).trans (HI7.out.st.same g o x hc)⟩
            · have e1 := verOf_eq (cells4 hP).1
              rw [hvk.out, e1]
              omega
        · have hke : k = H.length := by omega
          have hh := (HL.out.2 k (by omega)).2 (by omega)
          have hfree := putR_new (fs := fs) (s := pb) hh
          have HAL : Hid (AppliesL (snapAt H H.length) (tx, rd, A) t) := mkH (hke ▸ HT.out)
          have HQL : Hid (NoFight (tx, rd, A) H j H.length) := mkH (hke ▸ HI3.out.quiet)
          have HEV : Hid (((H.length + 1 : Nat) : Int) = (k : Int) + 1) := mkH (by omega)
          have HKE : Hid (D.put (B.lit (keyB (k + 1))) (B.txt pb) = D.put (B.lit (keyB (H.length + 1))) (B.txt (printB (tx, rd, A)))) := mkH (by rw [HPB.out, hke])
          clear hke
          by_cases f1 : fs.headD 0 = 1
          · have HPU := mkH (put_base HI3.out.base (by omega) (k + 1) pb (by unfold maxLen; omega) (14, D, fs.tail) (by rw [hfree, if_pos f1]))
            rw [show B.errV ((14 : Int), D, fs.tail).1 = Value.iface 73 (.int .i64 14) from rfl] at HPU
            have F1 := mkH f1
            clear f1 hfree
            go_wp2_with fail
            refine HPU.out.mono ?_
            rintro e w4 ⟨rfl, mv4, fv4, hB4, ho4, hl4⟩
            obtain ⟨o1, l1, bx, sn, cm, kb', ac'⟩ := HI3.out.put hB4 ho4 hl4
            have HN4 := mkH (keepT HI3.out.base.bu ho4 HN3.out (by decide))
            have HAT := mkH (at_no bb kb _ D mv4 (k + 1) w4 (by omega) hB4.ground kb' hh)
            rw [e1] at HAT
            have HPO : Hid (∀ W, Below w4.heap.size w4 W → TryPost w0 w NF bb n D fs mv (tx, rd, A) H j (.returned (.tuple #[.int .i64 0, .iface 73 (.int .i64 14)])) W) := mkH (fun W hb => ⟨_, _, _, _, _, hB4.up hb, by omega, o1.trans (B.Only.of_below (S := fun _ => False) hb) (fun _ _ h => h.elim), l1, .inr ⟨_, _, rfl, rfl, .inr (.inr (.inr ⟨HQL.out, F1.out⟩))⟩⟩)
            clear hB4 ho4 hl4 o1 l1 bx sn cm kb' ac' HPU hh HI3 HN3
            obtain ⟨x0, x1, x3, x4, xf⟩ := cells4 HN4.out
            go_wp2_with fail
            refine HAT.out.mono ?_
            rintro e w5 ⟨rfl, hb5⟩
            clear HAT
            go_wp2_with fail
            go_ret2
            exact HPO.out _ (Below.ups hb5 ((Below.refl _ _).alloc (Nat.le_refl _) _))
          · by_cases f2 : fs.headD 0 = 2
            · have HPU := mkH (put_base HI3.out.base (by omega) (k + 1) pb (by unfold maxLen; omega) (14, D.put (B.lit (keyB (k + 1))) (B.txt pb), fs.tail) (by rw [hfree, if_neg f1, if_pos f2]))
              rw [show B.errV ((14 : Int), D.put (B.lit (keyB (k + 1))) (B.txt pb), fs.tail).1 = Value.iface 73 (.int .i64 14) from rfl] at HPU
              clear f1 f2 hfree
              go_wp2_with fail
              refine HPU.out.mono ?_
              rintro e w4 ⟨rfl, mv4, fv4, hB4, ho4, hl4⟩
              obtain ⟨o1, l1, bx, sn, cm, kb', ac'⟩ := HI3.out.put hB4 ho4 hl4
              have HN4 := mkH (keepT HI3.out.base.bu ho4 HN3.out (by decide))
              have HAT := mkH (at_yes bb kb _ _ mv4 (k + 1) (tx, rd, A) w4 (by omega) hB4.ground kb' (Maps.has_put_same HL.out.1 key_lit _) (by rw [Maps.atKey_put_same HL.out.1 key_lit, HPB.out]) HLY.out)
              rw [e1, HPB.out] at HAT
              simp only at HAT
              have HPO : Hid (∀ W, Below w4.heap.size w4 W → TryPost w0 w NF bb n D fs mv (tx, rd, A) H j (.returned (.tuple #[.int .i64 ((k : Int) + 1), .nilIface])) W) := mkH (fun W hb => ⟨_, _, _, _, _, hB4.up hb, by omega, o1.trans (B.Only.of_below (S := fun _ => False) hb) (fun _ _ h => h.elim), l1, .inl ⟨t, by rw [HEV.out], HAL.out, HLY.out.ok, HQL.out, HKE.out⟩⟩)
              clear hB4 ho4 hl4 o1 l1 bx sn cm kb' ac' HPU hh HI3 HN3
              obtain ⟨x0, x1, x3, x4, xf⟩ := cells4 HN4.out
              go_wp2_with fail
              refine HAT.out.mono ?_
              rintro e w5 ⟨ba, bn, bc, rfl, hA5, hb5⟩
              have HB5 : Hid (Below w4.heap.size w4 (w5.alloc (.cells #[.string pb, .string tx, .bool rd, .slice ba bn bc] 89))) := mkH (Below.ups hb5 ((Below.refl _ _).alloc (Nat.le_refl _) _))
              have HN5 := mkH ((HB5.out.block _ (blk_lt HN4.out)).trans HN4.out)
              clear HAT x0 x1 x3 x4 xf hA5 hb5 HN4
              obtain ⟨x0, x1, x3, x4, xf⟩ := cells4 HN5.out
              go_wp2_with fail
              go_ret2
              exact HPO.out _ HB5.out
            · have HPU := mkH (put_base HI3.out.base (by omega) (k + 1) pb (by unfold maxLen; omega) (0, D.put (B.lit (keyB (k + 1))) (B.txt pb), fs.tail) (by rw [hfree, if_neg f1, if_neg f2]))
              rw [show B.errV ((0 : Int), D.put (B.lit (keyB (k + 1))) (B.txt pb), fs.tail).1 = Value.nilIface from rfl] at HPU
              clear f1 f2 hfree
              go_wp2_with fail
              refine HPU.out.mono ?_
              rintro e w4 ⟨rfl, mv4, fv4, hB4, ho4, hl4⟩
              obtain ⟨o1, l1, bx, sn, cm, kb', ac'⟩ := HI3.out.put hB4 ho4 hl4
              have HN4 := mkH (keepT HI3.out.base.bu ho4 HN3.out (by decide))
              have HPO : Hid (TryPost w0 w NF bb n D fs mv (tx, rd, A) H j (.returned (.tuple #[.int .i64 ((k : Int) + 1), .nilIface])) w4) := mkH ⟨_, _, _, _, _, hB4, by omega, o1, l1, .inl ⟨t, by rw [HEV.out], HAL.out, HLY.out.ok, HQL.out, HKE.out⟩⟩
              clear hB4 ho4 hl4 o1 l1 bx sn cm kb' ac' HPU hh HI3 HN3
              obtain ⟨x0, x1, x3, x4, xf⟩ := cells4 HN4.out
              go_wp2_with fail
              go_ret2
              exact HPO.out
      · have HPO : Hid (TryPost w0 w NF bb n D fs mv (tx, rd, A) H j (.returned (.tuple #[.int .i64 0, .iface ty x])) (w2.alloc (.cells #[.int .i64 z0, .slice b1 m1 d1, .int .i64 z2, .slice b2 m2 d2] 47))) := by
          have hI := HI.out.up (Below.ups hb2 ((Below.refl _ _).alloc (Nat.le_refl _) (.cells #[.int .i64 z0, .slice b1 m1 d1, .int .i64 z2, .slice b2 m2 d2] 47)))
          exact mkH ⟨_, _, _, _, _, hI.base, by omega, hI.only, hI.link, .inr ⟨_, _, rfl, rfl, .inr (.inl ⟨k, hjk, hkm, hI.quiet, hno⟩)⟩⟩
        clear x0 x1 x3 x4 xf y0 y1 y2 yf hb2 hno HAP
        go_wp2_with fail
        go_ret2
        exact HPO.out
end Go.Proofs.YtfppidnfomelpaaGreatDoor

namespace Go.Proofs.YtfppidnfomelpaaGreatDoor
open Go.RowKit Go.Proofs Go.Lib Go.Joins

def acts1 : List Actn := [(4, ⟨#[]⟩, 0, [], [col0], 2)]
def com1 : Com := (⟨#[116]⟩, false, acts1)
def com2 : Com := (⟨#[117]⟩, false, acts1)
def snap1 : Snap := ⟨1, [col0], 2, []⟩
theorem ap1 : AppliesL zeroS com1 snap1 := ⟨by kernel_rfl, snap1, .inr (.inr (.inr ⟨rfl, ⟨(rightB_iff _ _).1 (by kernel_rfl), by decide⟩, rfl⟩)), rfl⟩
theorem ap2 : AppliesL zeroS com2 snap1 := ⟨by kernel_rfl, snap1, .inr (.inr (.inr ⟨rfl, ⟨(rightB_iff _ _).1 (by kernel_rfl), by decide⟩, rfl⟩)), rfl⟩
theorem okA : printOk com1 = true := by kernel_rfl
theorem okB : printOk com2 = true := by kernel_rfl
theorem fight21 : fightsB com2 com1 = true := by kernel_rfl
theorem ok1 : ∀ a ∈ acts1, rightA a = true → LineOk a := by
  have h0 : I64 0 := ⟨by decide, by decide⟩
  have h1 : I64 1 := ⟨by decide, by decide⟩
  have h2 : I64 2 := ⟨by decide, by decide⟩
  intro a ha _
  simp only [acts1, List.mem_cons, List.not_mem_nil, or_false] at ha
  subst ha
  exact ⟨by decide, h0, by simp, by simp, by intro x hx; simp at hx; subst hx; exact ⟨h1, by decide, h1, h0, by decide⟩, by simp, h2⟩
theorem lay1 : Lay com1 := ⟨okA, fun a ha => ok1 a ha (by simp only [com1, acts1, List.mem_cons, List.not_mem_nil, or_false] at ha; subst ha; kernel_rfl), by decide⟩
theorem past1 : Past' [(com1, snap1)] := ⟨ap1, lay1, trivial⟩
theorem acts1_at {W : World} {g q : Nat} (h1 : W.heap[g]? = some (.cells #[.int .i64 1, .string ⟨#[97]⟩, .int .i64 1, .bool false, .int .i64 0, .int .i64 0, .string ⟨#[]⟩] 67 (0, 0))) (h3 : W.heap[q]? = some (.cells #[.int .i64 4, .string ⟨#[]⟩, .int .i64 0, .slice none 0 0, .slice (some ⟨g, 0, none⟩) 1 1, .int .i64 2] 62 (0, 0))) : ActsAt W (.slice (some ⟨q, 0, none⟩) 1 1) acts1 := by
  refine .inr ⟨_, 0, 1, rfl, Nat.le_refl _, blk_lt h3, fun j hj => ?_⟩
  have hj3 : j = 0 := by have : j < 1 := hj; omega
  subst hj3
  refine ⟨none, 0, 0, some ⟨g, 0, none⟩, 1, 1, ⟨.inl ⟨⟨_, _, rfl⟩, rfl⟩, lies7 h1, by decide, by decide, ?_⟩, ?_⟩
  · intro x hx
    have hx' : x ∈ [col0] := hx
    simp at hx'
    subst hx'
    exact ⟨by decide, by decide⟩
  · refine ⟨?_, ?_, ?_, ?_, ?_, ?_⟩ <;> simp [World.cell?, h3, acts1]
theorem lain1 : Lain ((DataW.map [] : DataW Unit).put (B.lit (keyB 1)) (B.txt (printB com1))) [(com1, snap1)] := lain_put (H := []) lain_nil (by decide) com1 snap1
theorem base_new (w : World) (he : ErrB w) (hw : NcB w) (ht : TabB w) : Base w (w.alloc (.cells #[.map none, .slice none 0 0] 42)) 0 w.heap.size 0 (.map []) [] (.map none) (.slice none 0 0) :=
  ⟨B.bu_new w, (Below.refl _ _).alloc (Nat.le_refl _) _, Nat.le_refl _, fun k hk => (by cases hk), he, hw, ht, fun b off l c e => (by cases e)⟩
theorem try1 {w0 w w' : World} {NF bb n : Nat} {mv : Value} {e : Ending} (h : TryPost w0 w NF bb n (.map []) [] mv com1 [] 0 e w') : ∃ n' fs' mv' fv', Base w0 w' NF bb n' ((DataW.map [] : DataW Unit).put (B.lit (keyB 1)) (B.txt (printB com1))) fs' mv' fv' ∧ n' ≤ n + 50 ∧ B.Only (B.Own bb mv) w w' ∧ e = .returned (.tuple #[.int .i64 1, .nilIface]) := by
  obtain ⟨n', D', fs', mv', fv', hB, hn, ho, _, ⟨t, rfl, _, _, _, rfl⟩ | ⟨ty, x, rfl, _, hno⟩⟩ := h
  · exact ⟨n', fs', mv', fv', hB, hn, ho, rfl⟩
  · exfalso
    rcases hno with h | ⟨i, _, hi, _, h⟩ | ⟨i, c, _, hc, _⟩ | ⟨_, h⟩
    · rw [okA] at h; cases h
    · have : i = 0 := by simpa using hi
      subst this
      exact h snap1 ap1
    · simp at hc
    · cases h
theorem try2 {w0 w w' : World} {NF bb n : Nat} {D : DataW Unit} {fs : List Int} {mv : Value} {e : Ending} (h : TryPost w0 w NF bb n D fs mv com2 [(com1, snap1)] 0 e w') : ∃ n' fs' mv' fv', Base w0 w' NF bb n' D fs' mv' fv' ∧ e = .returned (.tuple #[.int .i64 0, .iface 73 (.int .i64 6)]) := by
  obtain ⟨n', D', fs', mv', fv', hB, hn, ho, _, ⟨t, rfl, _, _, hq, rfl⟩ | ⟨ty, x, rfl, rfl, hno⟩⟩ := h
  · have := hq 0 com1 (Nat.le_refl _) (by decide) rfl
    rw [fight21] at this
    cases this
  · rcases hno with h | ⟨i, _, hi, hq, h⟩ | ⟨i, c, _, hc, _, e⟩ | ⟨hq, h⟩
    · rw [okB] at h; cases h
    · rcases Nat.eq_zero_or_pos i with rfl | hpos
      · exact absurd ap2 (h snap1)
      · have := hq 0 com1 (Nat.le_refl _) hpos rfl
        rw [fight21] at this
        cases this
    · rw [e]
      exact ⟨n', fs', mv', fv', hB, rfl⟩
    · have := hq 0 com1 (Nat.le_refl _) (by decide) rfl
      rw [fight21] at this
      cases this
set_option maxHeartbeats 4000000 in
set_option maxRecDepth 100000 in
theorem committed_any (w : World) (he : ErrB w) (hw : NcB w) (ht : TabB w) (hg : B.EtB w) : Calls Tryz.prog 12 #[] w fun e w' => e = .returned (.bool true) ∧ Below w.heap.size w w' := by
  obtain ⟨t0, t1, t2, t3, t4, t5⟩ := four_alloc w (.cells #[.map none, .slice none 0 0] 42) (.cells #[.int .i64 1, .string ⟨#[97]⟩, .int .i64 1, .bool false, .int .i64 0, .int .i64 0, .string ⟨#[]⟩] 67) (.cells #[.int .i64 4, .string ⟨#[]⟩, .int .i64 0, .slice none 0 0, .slice (some ⟨w.heap.size + 1, 0, none⟩) 1 1, .int .i64 2] 62) (.cells #[.string ⟨#[116]⟩, .bool false, .slice (some ⟨w.heap.size + 2, 0, none⟩) 1 1] 24)
  have HB := mkH ((base_new w he hw ht).up ((((Below.refl _ _).alloc (Nat.le_refl _) (.cells #[.int .i64 1, .string ⟨#[97]⟩, .int .i64 1, .bool false, .int .i64 0, .int .i64 0, .string ⟨#[]⟩] 67)).alloc (by simp) (.cells #[.int .i64 4, .string ⟨#[]⟩, .int .i64 0, .slice none 0 0, .slice (some ⟨w.heap.size + 1, 0, none⟩) 1 1, .int .i64 2] 62)).alloc (by simp) (.cells #[.string ⟨#[116]⟩, .bool false, .slice (some ⟨w.heap.size + 2, 0, none⟩) 1 1] 24)))
  have HA := mkH (acts1_at t2 t3)
  have HX := mkH t4
  have HG := mkH hg
  clear he hw ht hg t0 t1 t2 t3 t4 t5
  go_enter Tryz.func12, Tryz.ntmps12
  go_wp2_with fail
  generalize (((w.alloc (.cells #[.map none, .slice none 0 0] 42)).alloc (.cells #[.int .i64 1, .string ⟨#[97]⟩, .int .i64 1, .bool false, .int .i64 0, .int .i64 0, .string ⟨#[]⟩] 67)).alloc (.cells #[.int .i64 4, .string ⟨#[]⟩, .int .i64 0, .slice none 0 0, .slice (some ⟨w.heap.size + 1, 0, none⟩) 1 1, .int .i64 2] 62)).alloc (.cells #[.string ⟨#[116]⟩, .bool false, .slice (some ⟨w.heap.size + 2, 0, none⟩) 1 1] 24) = w4 at *
  have HT1 := mkH (try_any w 0 w.heap.size 0 (.map []) [] _ _ ⟨#[116]⟩ false acts1 _ 1 1 [] 0 none 0 0 0 none 0 0 w4 HB.out (Nat.zero_le _) (by decide) lain_nil trivial (by decide) (Nat.le_refl _) (snapW_zero _) HA.out (by decide) (by decide) ok1)
  refine HT1.out.mono ?_
  intro e w5 hp5
  obtain ⟨n5, fs5, mv5, fv5, hB5, hn5, ho5, rfl⟩ := try1 hp5
  have HX5 := mkH (keepT HB.out.bu ho5 HX.out (by decide))
  have HA5 := mkH (HA.out.stays (Stays.put HB.out.bu ho5))
  have HB5 := mkH hB5
  clear hp5 hB5 ho5 HT1 HB HA HX
  obtain ⟨x0, x1, x2, xf⟩ := cells3 HX5.out
  have HT2 := mkH (try_any w 0 w.heap.size n5 _ fs5 mv5 fv5 ⟨#[117]⟩ false acts1 _ 1 1 [(com1, snap1)] 0 none 0 0 0 none 0 0 w5 HB5.out (Nat.zero_le _) (by omega) lain1 past1 (by decide) (Nat.zero_le _) (snapW_zero _) HA5.out (by decide) (by decide) ok1)
  go_wp2_with fail
  refine HT2.out.mono ?_
  intro e w6 hp6
  obtain ⟨n6, fs6, mv6, fv6, hB6, rfl⟩ := try2 hp6
  have HB6 := mkH hB6
  clear hp6 hB6 HT2 x0 x1 x2 xf
  have HTL := mkH (B.tell_err 6 w6 (HG.out.below HB6.out.low))
  rw [show B.errV 6 = Value.iface 73 (.int .i64 6) from rfl] at HTL
  go_wp2_with fail
  refine HTL.out.mono ?_
  rintro e w7 ⟨rfl, hb7⟩
  have HB7 := mkH (HB6.out.up hb7)
  have HLD := mkH (load_any w.heap.size n6 _ mv6 [(com1, snap1)] (-1) 1 w7 HB7.out.ground lain1 past1 (by decide) (by decide) (.inl ⟨by decide, rfl⟩))
  clear hb7 HTL
  go_wp2_with fail
  refine HLD.out.mono ?_
  rintro e w8 ⟨a1, n1, c1, x2, a2, n2, c2, rfl, hs8, hb8⟩
  have hn1 : n1 = 1 := by
    obtain ⟨_, _, _, _, _, e, _⟩ := hs8
    unfold snv at e
    simp only [Value.agg.injEq, Array.mk.injEq, List.cons.injEq, Value.int.injEq, Value.slice.injEq] at e
    exact e.2.1.2.1
  subst hn1
  have HB8 := mkH (Below.ups HB7.out.low hb8)
  clear hs8 hb8 HLD
  unfold snv
  go_wp2_with fail
  go_ret
  exact ⟨rfl, Below.ups HB8.out ((Below.refl _ _).alloc (Nat.le_refl _) _)⟩
end Go.Proofs.YtfppidnfomelpaaGreatDoor

namespace Go.Proofs.YtfppidnfomelpaaGreatDoor
open Go.RowKit Go.Proofs Go.Lib Go.Joins

abbrev Sp := Sv × Int × Sv
def spV (k : Nat) (p : Sp) : Value := snv k p.1.1 p.1.2.1 p.1.2.2 p.2.1 p.2.2.1 p.2.2.2.1 p.2.2.2.2
def spC (k : Nat) (p : Sp) : List Value := [.int .i64 k, sv p.1, .int .i64 p.2.1, sv p.2.2]
def spZ : Sp := ((none, 0, 0), 0, (none, 0, 0))
theorem own_only {W Y : World} {bb n : Nat} {D : DataW Unit} {fs : List Int} {mv fv : Value} (h : B.Bu W bb n D fs mv fv) (ho : B.Only (B.Own bb mv) W Y) {base : Nat} {t : TypeId} {z : Nat} {u : Value} {k : Nat} {xs : List Value} (hne : t ≠ 42) (hr : W.ownsRow base t z u k xs) : Y.ownsRow base t z u k xs := by
  refine ⟨hr.1, ?_⟩
  rcases hr.2 with h' | ⟨g, c, cur, hv, hb', hh, hrr⟩
  · exact .inl h'
  · exact .inr ⟨g, c, cur, hv, hb', keepT h ho hh hne, hrr⟩
theorem SnapW.putT {w W : World} {s : Snap} {v : Value} {b : Nat} {cs : Array Value} {T : TypeId} (h : SnapW w s v) (hb : w.heap[b]? = some (.cells cs T (0, 0))) (t1 : (3 : TypeId) ≠ T) (t2 : (67 : TypeId) ≠ T) (t3 : (70 : TypeId) ≠ T) (hg : w.grownBy W (some b)) : SnapW W s v := by
  obtain ⟨a1, c1, a2, c2, L, e, hV⟩ := h
  refine ⟨a1, c1, a2, c2, L, e, ?_, hV.files, ?_, fun x hx => ?_⟩
  · exact own_keep hV.cols hg (fun k hk e => own_box hV.cols hb t2 (by rw [hk]; exact e.symm))
  · exact own_keep hV.row hg (fun k hk e => own_box hV.row hb t3 (by rw [hk]; exact e.symm))
  · exact own_keep (hV.masks x hx) hg (fun k hk e => own_box (hV.masks x hx) hb t1 (by rw [hk]; exact e.symm))
/-- A turn: whether it sees, who, what. -/
abbrev TurnV := Bool × Int × Com
def TurnsR (W : World) (v : Value) (l : List TurnV) : Prop := ((∃ a c, v = .slice a 0 c) ∧ l = []) ∨ ∃ g o c, v = .slice (some ⟨g, o, none⟩) l.length c ∧ l.length ≤ c ∧ g < W.heap.size ∧ ∀ j, j < l.length → ∃ aa an ac, W.cell? ⟨g, o + j * 5, none⟩ = some (.bool l[j]!.1) ∧ W.cell? ⟨g, o + j * 5 + 1, none⟩ = some (.int .i64 l[j]!.2.1) ∧ W.cell? ⟨g, o + j * 5 + 2, none⟩ = some (.string l[j]!.2.2.1) ∧ W.cell? ⟨g, o + j * 5 + 3, none⟩ = some (.bool l[j]!.2.2.2.1) ∧ W.cell? ⟨g, o + j * 5 + 4, none⟩ = some (.slice aa an ac) ∧ ActsR W (.slice aa an ac) l[j]!.2.2.2.2 ∧ l[j]!.2.2.2.2.length ≤ maxLen ∧ l[j]!.2.2.1.size ≤ maxLen ∧ ∀ a ∈ l[j]!.2.2.2.2, Ints a
theorem TurnsR.stays {W Y : World} {v : Value} {l : List TurnV} (h : TurnsR W v l) (k : Stays W Y) : TurnsR Y v l := by
  rcases h with h | ⟨g, o, c, h1, h2, h3, h4⟩
  · exact .inl h
  · refine .inr ⟨g, o, c, h1, h2, Nat.lt_of_lt_of_le h3 k.size, fun j hj => ?_⟩
    obtain ⟨aa, an, ac, q0, q1, q2, q3, q4, h5, h6⟩ := h4 j hj
    exact ⟨aa, an, ac, k.cell q1 q0, k.cell q1 q1, k.cell q1 q2, k.cell q1 q3, k.cell q1 q4, h5.stays k, h6⟩
theorem TurnsR.len {W : World} {a : Option Addr} {n c : Nat} {l : List TurnV} (h : TurnsR W (.slice a n c) l) : n = l.length := by
  rcases h with ⟨⟨_, _, e⟩, e0⟩ | ⟨g, o, c, e, _, _⟩
  · cases e; subst e0; rfl
  · cases e; rfl
/-- The block of the three tables that were seen. -/
def SeenB (W : World) (sb : Nat) (q : Nat → Nat × Sp) : Prop := W.heap[sb]? = some (.cells #[.int .i64 (q 0).1, sv (q 0).2.1, .int .i64 (q 0).2.2.1, sv (q 0).2.2.2, .int .i64 (q 1).1, sv (q 1).2.1, .int .i64 (q 1).2.2.1, sv (q 1).2.2.2, .int .i64 (q 2).1, sv (q 2).2.1, .int .i64 (q 2).2.2.1, sv (q 2).2.2.2] 48 (0, 0))
/-- Between two turns. -/
structure LwI (w W : World) (NF bb sb n : Nat) (D : DataW Unit) (fs : List Int) (mv fv : Value) (H : List (Com × Snap)) (q : Nat → Nat × Sp) (S : List Sp) (wv : Value) : Prop where
  base : Base w W NF bb n D fs mv fv
  st : Stays w W
  nf : NF ≤ sb
  sb0 : w.heap.size ≤ sb
  seen : SeenB W sb q
  low : ∀ r, r < 3 → (q r).1 ≤ H.length ∧ SnapW W (snapAt H (q r).1) (spV (q r).1 (q r).2)
  len : S.length = H.length
  row : W.ownsRow (sb + 1) 47 4 wv H.length ((List.range H.length).flatMap fun x => spC (x + 1) S[x]!)
  was : ∀ x, x < H.length → SnapW W (snapAt H (x + 1)) (spV (x + 1) S[x]!)
  lain : Lain D H
  past : Past' H
theorem LwI.up {w W Y : World} {NF bb sb n : Nat} {D : DataW Unit} {fs : List Int} {mv fv : Value} {H : List (Com × Snap)} {q : Nat → Nat × Sp} {S : List Sp} {wv : Value} (h : LwI w W NF bb sb n D fs mv fv H q S wv) (hb : Below W.heap.size W Y) : LwI w Y NF bb sb n D fs mv fv H q S wv :=
  ⟨h.base.up hb, h.st.trans (Stays.of_below hb), h.nf, h.sb0, (hb.block _ (blk_lt h.seen)).trans h.seen, fun r hr => ⟨(h.low r hr).1, (h.low r hr).2.up hb⟩, h.len, own_up h.row hb, fun x hx => (h.was x hx).up hb, h.lain, h.past⟩
/-- .. behind a store into a block of one's own that is no snapshot's, no row's and no bucket's. -/
theorem LwI.store {w W Y : World} {NF bb sb n : Nat} {D : DataW Unit} {fs : List Int} {mv fv : Value} {H : List (Com × Snap)} {q : Nat → Nat × Sp} {S : List Sp} {wv : Value} {b : Nat} {cs : Array Value} (h : LwI w W NF bb sb n D fs mv fv H q S wv) (hb : W.heap[b]? = some (.cells cs 51 (0, 0))) (hN : sb ≤ b) (hg : W.grownBy Y (some b)) : LwI w Y NF bb sb n D fs mv fv H q S wv :=
  ⟨h.base.store hb (by decide) (Nat.le_trans h.nf hN) (Nat.le_trans h.sb0 hN) hg, ⟨Nat.le_trans h.st.size hg.size, fun g o x hc => (hg.block g (Nat.lt_of_lt_of_le (cell_lt hc) h.st.size) (fun e => by injection e with e; have := cell_lt hc; have := h.sb0; omega)).trans (h.st.same g o x hc)⟩, h.nf, h.sb0, keep_ne h.seen hb (by decide) hg, fun r hr => ⟨(h.low r hr).1, (h.low r hr).2.putT hb (by decide) (by decide) (by decide) hg⟩, h.len, own_keep h.row hg (fun k hk e => own_box h.row hb (by decide) (by rw [hk]; exact e.symm)), fun x hx => (h.was x hx).putT hb (by decide) (by decide) (by decide) hg, h.lain, h.past⟩
theorem SeenB.at {W : World} {sb : Nat} {q : Nat → Nat × Sp} (h : SeenB W sb q) {r : Nat} (hr : r < 3) : W.cell? ⟨sb, r * 4, none⟩ = some (.int .i64 (q r).1) ∧ W.cell? ⟨sb, r * 4 + 1, none⟩ = some (sv (q r).2.1) ∧ W.cell? ⟨sb, r * 4 + 2, none⟩ = some (.int .i64 (q r).2.2.1) ∧ W.cell? ⟨sb, r * 4 + 3, none⟩ = some (sv (q r).2.2.2) ∧ ∀ i, W.frozen? ⟨sb, i, none⟩ = false := by
  have h' : W.heap[sb]? = _ := h
  have : r = 0 ∨ r = 1 ∨ r = 2 := by omega
  rcases this with rfl | rfl | rfl <;> refine ⟨?_, ?_, ?_, ?_, fun i => ?_⟩ <;> simp [World.cell?, World.frozen?, h']
def setQ (q : Nat → Nat × Sp) (r : Nat) (x : Nat × Sp) : Nat → Nat × Sp := fun i => if i = r then x else q i
theorem SeenB.put {W : World} {sb : Nat} {q : Nat → Nat × Sp} (h : SeenB W sb q) {r : Nat} (hr : r < 3) (k : Nat) (p : Sp) :
    SeenB ((((W.setCell ⟨sb, r * 4, none⟩ (.int .i64 k)).setCell ⟨sb, r * 4 + 1, none⟩ (sv p.1)).setCell ⟨sb, r * 4 + 2, none⟩ (.int .i64 p.2.1)).setCell ⟨sb, r * 4 + 3, none⟩ (sv p.2.2)) sb (setQ q r (k, p)) ∧ W.grownBy ((((W.setCell ⟨sb, r * 4, none⟩ (.int .i64 k)).setCell ⟨sb, r * 4 + 1, none⟩ (sv p.1)).setCell ⟨sb, r * 4 + 2, none⟩ (.int .i64 p.2.1)).setCell ⟨sb, r * 4 + 3, none⟩ (sv p.2.2)) (some sb) := by
  refine ⟨?_, (((grown_setC W sb _ _).trans (grown_setC _ sb _ _)).trans (grown_setC _ sb _ _)).trans (grown_setC _ sb _ _)⟩
  have h' : W.heap[sb]? = _ := h
  have e := heap_setC _ sb (r * 4 + 3) _ _ (sv p.2.2) (heap_setC _ sb (r * 4 + 2) _ _ (.int .i64 p.2.1) (heap_setC _ sb (r * 4 + 1) _ _ (sv p.1) (heap_setC _ sb (r * 4) _ _ (.int .i64 k) h')))
  unfold SeenB
  rw [e]
  have : r = 0 ∨ r = 1 ∨ r = 2 := by omega
  rcases this with rfl | rfl | rfl <;> rfl
/-- A turn that sees. -/
theorem LwI.sees {w W : World} {NF bb sb n : Nat} {D : DataW Unit} {fs : List Int} {mv fv : Value} {H : List (Com × Snap)} {q : Nat → Nat × Sp} {S : List Sp} {wv : Value} (h : LwI w W NF bb sb n D fs mv fv H q S wv) {r : Nat} (hr : r < 3) {p : Sp} (hs : SnapW W (snapAt H H.length) (spV H.length p)) :
    LwI w ((((W.setCell ⟨sb, r * 4, none⟩ (.int .i64 H.length)).setCell ⟨sb, r * 4 + 1, none⟩ (sv p.1)).setCell ⟨sb, r * 4 + 2, none⟩ (.int .i64 p.2.1)).setCell ⟨sb, r * 4 + 3, none⟩ (sv p.2.2)) NF bb sb n D fs mv fv H (setQ q r (H.length, p)) S wv := by
  obtain ⟨hS, hg⟩ := h.seen.put hr H.length p
  have hb : W.heap[sb]? = _ := h.seen
  have hsn : ∀ {s : Snap} {v : Value}, SnapW W s v → SnapW _ s v := fun hs => hs.putT hb (by decide) (by decide) (by decide) hg
  refine ⟨h.base.store hb (by decide) h.nf h.sb0 hg, ⟨Nat.le_trans h.st.size hg.size, fun g o x hc => (hg.block g (Nat.lt_of_lt_of_le (cell_lt hc) h.st.size) (fun e => by injection e with e; have := cell_lt hc; have := h.sb0; omega)).trans (h.st.same g o x hc)⟩, h.nf, h.sb0, hS, fun i hi => ?_, h.len, own_keep h.row hg (fun k hk e => own_box h.row hb (by decide) (by rw [hk]; exact e.symm)), fun x hx => hsn (h.was x hx), h.lain, h.past⟩
  unfold setQ
  by_cases e : i = r
  · rw [if_pos e]
    exact ⟨Nat.le_refl _, hsn hs⟩
  · rw [if_neg e]
    exact ⟨(h.low i hi).1, hsn (h.low i hi).2⟩
/-- What Try leaves of where the law stands. -/
theorem LwI.tried {w W Y : World} {NF bb sb n : Nat} {D : DataW Unit} {fs : List Int} {mv fv : Value} {H : List (Com × Snap)} {q : Nat → Nat × Sp} {S : List Sp} {wv : Value} (h : LwI w W NF bb sb n D fs mv fv H q S wv) (ho : B.Only (B.Own bb mv) W Y) : Stays w Y ∧ SeenB Y sb q ∧ (∀ r, r < 3 → (q r).1 ≤ H.length ∧ SnapW Y (snapAt H (q r).1) (spV (q r).1 (q r).2)) ∧ Y.ownsRow (sb + 1) 47 4 wv H.length ((List.range H.length).flatMap fun x => spC (x + 1) S[x]!) ∧ ∀ x, x < H.length → SnapW Y (snapAt H (x + 1)) (spV (x + 1) S[x]!) :=
  ⟨h.st.trans (Stays.put h.base.bu ho), keepT h.base.bu ho h.seen (by decide), fun r hr => ⟨(h.low r hr).1, (h.low r hr).2.only h.base.bu ho⟩, own_only h.base.bu ho (by decide) h.row, fun x hx => (h.was x hx).only h.base.bu ho⟩
theorem LwI.no {w W Y : World} {NF bb sb n n' : Nat} {D : DataW Unit} {fs fs' : List Int} {mv fv mv' fv' : Value} {H : List (Com × Snap)} {q : Nat → Nat × Sp} {S : List Sp} {wv : Value} (h : LwI w W NF bb sb n D fs mv fv H q S wv) (ho : B.Only (B.Own bb mv) W Y) (hB : Base w Y NF bb n' D fs' mv' fv') : LwI w Y NF bb sb n' D fs' mv' fv' H q S wv := by
  obtain ⟨a, b, c, d, e⟩ := h.tried ho
  exact ⟨hB, a, h.nf, h.sb0, b, c, h.len, d, e, h.lain, h.past⟩
/-- Behind a commit that was made, ahead of its note. -/
structure LwJ (w W : World) (NF bb sb n : Nat) (D : DataW Unit) (fs : List Int) (mv fv : Value) (H : List (Com × Snap)) (x : Com × Snap) (q : Nat → Nat × Sp) (S : List Sp) (wv : Value) : Prop where
  base : Base w W NF bb n D fs mv fv
  st : Stays w W
  nf : NF ≤ sb
  sb0 : w.heap.size ≤ sb
  seen : SeenB W sb q
  low : ∀ r, r < 3 → (q r).1 ≤ H.length ∧ SnapW W (snapAt H (q r).1) (spV (q r).1 (q r).2)
  len : S.length = H.length
  row : W.ownsRow (sb + 1) 47 4 wv H.length ((List.range H.length).flatMap fun x => spC (x + 1) S[x]!)
  was : ∀ x, x < H.length → SnapW W (snapAt H (x + 1)) (spV (x + 1) S[x]!)
  lain : Lain D (H ++ [x])
  past : Past' (H ++ [x])
theorem LwJ.up {w W Y : World} {NF bb sb n : Nat} {D : DataW Unit} {fs : List Int} {mv fv : Value} {H : List (Com × Snap)} {x : Com × Snap} {q : Nat → Nat × Sp} {S : List Sp} {wv : Value} (h : LwJ w W NF bb sb n D fs mv fv H x q S wv) (hb : Below W.heap.size W Y) : LwJ w Y NF bb sb n D fs mv fv H x q S wv :=
  ⟨h.base.up hb, h.st.trans (Stays.of_below hb), h.nf, h.sb0, (hb.block _ (blk_lt h.seen)).trans h.seen, fun r hr => ⟨(h.low r hr).1, (h.low r hr).2.up hb⟩, h.len, own_up h.row hb, fun x hx => (h.was x hx).up hb, h.lain, h.past⟩
theorem LwI.yes {w W Y : World} {NF bb sb n n' : Nat} {D D' : DataW Unit} {fs fs' : List Int} {mv fv mv' fv' : Value} {H : List (Com × Snap)} {q : Nat → Nat × Sp} {S : List Sp} {wv : Value} {C : Com} {t : Snap} (h : LwI w W NF bb sb n D fs mv fv H q S wv) (ho : B.Only (B.Own bb mv) W Y) (hB : Base w Y NF bb n' D' fs' mv' fv') (hl : H.length < 90) (hD : D' = D.put (B.lit (keyB (H.length + 1))) (B.txt (printB C))) (hap : AppliesL (snapAt H H.length) C t) (hlay : Lay C) : LwJ w Y NF bb sb n' D' fs' mv' fv' H (C, t) q S wv := by
  obtain ⟨a, b, c, d, e⟩ := h.tried ho
  subst hD
  exact ⟨hB, a, h.nf, h.sb0, b, c, h.len, d, e, lain_put h.lain hl C t, past_snoc h.past hap hlay⟩
theorem flatMap_ext {α β : Type} {l : List α} {f g : α → List β} (h : ∀ x ∈ l, f x = g x) : l.flatMap f = l.flatMap g := by
  induction l with
  | nil => rfl
  | cons x l ih => rw [List.flatMap_cons, List.flatMap_cons, h x (by simp), ih fun y hy => h y (by simp [hy])]
/-- .. and behind its note. -/
theorem LwJ.noted {w W Y : World} {NF bb sb n : Nat} {D : DataW Unit} {fs : List Int} {mv fv : Value} {H : List (Com × Snap)} {x : Com × Snap} {q : Nat → Nat × Sp} {S : List Sp} {wv wv' : Value} {p : Sp} (h : LwJ w W NF bb sb n D fs mv fv H x q S wv) (hs : SnapW W (snapAt (H ++ [x]) (H.length + 1)) (spV (H.length + 1) p)) (hr : Y.ownsRow (sb + 1) 47 4 wv' (H.length + 1) (((List.range H.length).flatMap fun x => spC (x + 1) S[x]!) ++ spC (H.length + 1) p)) (hg : W.grownBy Y wv.ownBlock) : LwI w Y NF bb sb n D fs mv fv (H ++ [x]) q (S ++ [p]) wv' := by
  have hkeep : Base w Y NF bb n D fs mv fv ∧ Stays w Y ∧ SeenB Y sb q ∧ ∀ {s : Snap} {v : Value}, SnapW W s v → SnapW Y s v := by
    cases hb : wv.ownBlock with
    | none =>
      rw [hb] at hg
      have hB : Below W.heap.size W Y := (Below.refl _ W).grown hg (Nat.le_refl _) (fun j hj => by cases hj)
      exact ⟨h.base.up hB, h.st.trans (Stays.of_below hB), (hB.block _ (blk_lt h.seen)).trans h.seen, fun hs => hs.up hB⟩
    | some b =>
      rw [hb] at hg
      obtain ⟨cs, hc⟩ := own_at h.row hb
      have hlo := own_blk h.row hb
      have h1 := h.nf
      have h2 := h.sb0
      refine ⟨h.base.store hc (by decide) (by omega) (by omega) hg, ⟨Nat.le_trans h.st.size hg.size, fun g o x hc => (hg.block g (Nat.lt_of_lt_of_le (cell_lt hc) h.st.size) (fun e => by injection e with e; have := cell_lt hc; omega)).trans (h.st.same g o x hc)⟩, keep_ne h.seen hc (by decide) hg, fun hs => hs.putT hc (by decide) (by decide) (by decide) hg⟩
  obtain ⟨k1, k2, k3, k4⟩ := hkeep
  have hx1 : ∀ i, i < H.length → (S ++ [p])[i]! = S[i]! := fun i hi => by
    rw [getElem!_pos _ i (by rw [List.length_append, h.len]; omega), getElem!_pos S i (by rw [h.len]; exact hi), List.getElem_append_left]
  have hx2 : (S ++ [p])[H.length]! = p := by
    rw [getElem!_pos _ _ (by rw [List.length_append, h.len]; simp), List.getElem_append_right (by rw [h.len]; exact Nat.le_refl _)]
    simp [h.len]
  refine ⟨k1, k2, h.nf, h.sb0, k3, fun r hr' => ⟨by rw [List.length_append]; have := (h.low r hr').1; omega, ?_⟩, by rw [List.length_append, List.length_append, h.len]; rfl, ?_, fun i hi => ?_, h.lain, h.past⟩
  · rw [snapAt_snoc (h.low r hr').1]
    exact k4 (h.low r hr').2
  · rw [List.length_append, List.length_singleton, List.range_succ, List.flatMap_append]
    have e1 : ((List.range H.length).flatMap fun x => spC (x + 1) (S ++ [p])[x]!) = (List.range H.length).flatMap fun x => spC (x + 1) S[x]! := by
      refine flatMap_ext fun i hi => ?_
      rw [hx1 i (List.mem_range.1 hi)]
    rw [e1]
    simp only [List.flatMap_cons, List.flatMap_nil, List.append_nil]
    rw [hx2]
    exact hr
  · rw [List.length_append, List.length_singleton] at hi
    rcases Nat.lt_or_ge i H.length with hlt | hge
    · rw [snapAt_snoc (by omega), hx1 i hlt]
      exact k4 (h.was i hlt)
    · have : i = H.length := by omega
      subst this
      rw [hx2]
      exact k4 hs
theorem LwI.wasAt {w W : World} {NF bb sb n : Nat} {D : DataW Unit} {fs : List Int} {mv fv : Value} {H : List (Com × Snap)} {q : Nat → Nat × Sp} {S : List Sp} {wn : Option Addr} {m wc : Nat} (h : LwI w W NF bb sb n D fs mv fv H q S (.slice wn m wc)) {y : Nat} (hy : y < H.length) : ∃ gg, wn = some ⟨gg, 0, none⟩ ∧ m ≤ wc ∧ W.cell? ⟨gg, y * 4, none⟩ = some (.int .i64 ((y + 1 : Nat) : Int)) ∧ W.cell? ⟨gg, y * 4 + 1, none⟩ = some (sv S[y]!.1) ∧ W.cell? ⟨gg, y * 4 + 2, none⟩ = some (.int .i64 S[y]!.2.1) ∧ W.cell? ⟨gg, y * 4 + 3, none⟩ = some (sv S[y]!.2.2) := by
  rcases own_forms h.row with ⟨_, e0⟩ | ⟨g, c, e, _, _, hc, _⟩
  · omega
  · injection e with e1 e2 e3
    subst e1 e2 e3
    refine ⟨g, rfl, hc, ?_⟩
    have key : ∀ i, i < 4 → W.cell? ⟨g, y * 4 + i, none⟩ = (spC (y + 1) S[y]!)[i]? := fun i hi => by
      have hb : y * 4 + i < H.length * 4 := by omega
      have h1 := h.row.cellAt (y * 4 + i) hb
      rw [h1, flat_at (en := fun x => spC (x + 1) S[x]!) (k := 4) (fun _ => rfl) (List.range H.length) y (by simpa using hy) i hi]
      rw [getElem!_pos _ y (by simpa using hy), List.getElem_range]
    exact ⟨key 0 (by decide), key 1 (by decide), key 2 (by decide), key 3 (by decide)⟩
theorem alike_self (s : Snap) : Alike s s := ⟨rfl, rfl, rfl, rfl, fun _ => rfl⟩
end Go.Proofs.YtfppidnfomelpaaGreatDoor
