/- The walk of log.read. -/
import Derived.Test.YtfppidnfomelpaaGreatDoorRK
import Derived.Sort.AtCallIn
namespace Go.Proofs.YtfppidnfomelpaaGreatDoor
open Go.RowKit Go.Proofs Go.Lib Go.Joins

attribute [local go_sem] Oper.semAt_some

/-- range_box at an iterator that hands one value. -/
theorem range_box1 {β : Type} {g : Operand} {p : Tmp} {assign body : Code} {Q : Exit → Act → World → Prop} {a : Act} {w : World} {n : Nat} (q : Tmp) (h1 : 1 ≤ n) {gf : Nat} {lb : Array Value} (hg : a.eval g = .func (.func gf) #[] lb) (eg : ∀ args w, (callFunc gf args).run Tryz.prog w = .ok (.enter gf args) w)
    {B : Nat} {R : β → Array Value → β → Prop} {b0 : β} {E : β → Prop} {Kp : List UInt8 → World → Prop} {T0 : World → Prop} (hseq : BoxIter (n - 1) gf lb B R b0 E Kp T0) (hKp : ∀ v X r o o', Kp v X → X.heap[r]? = some o → o.isCells = false → Kp v (X.putObj r o')) (hps : ∀ b args b', R b args b' → args.size = 1)
    (hB0 : B ≠ w.heap.size) (hB1 : B ≠ w.heap.size + 1) (I : β → World → Prop) (Ix : Code → World → Prop) (hI : AbB B w.heap.size I) (hIx : ∀ c, AbB B w.heap.size (fun (_ : Unit) => Ix c)) (h0 : I b0 w)
    (hT : ∀ r, T0 ((w.alloc (.deferred (some []))).alloc (.loop r)))
    (hassign : ∀ (l : Nat) (v : Value) (W : World) (K : Act → World → Prop), K { tmps := (a.tmps.setIfInBounds p v).setIfInBounds q v, defers := [] } W →
      assign.wpIn (Fence.wide.inRound l) (n - 1 - 1) Tryz.prog (Exit.then K (fun _ _ _ => False)) { tmps := a.tmps.setIfInBounds p v, defers := [] } W)
    (hbody : ∀ (l : Nat) (b : β) (v : Value) (b' : β) (W : World) (t : List UInt8), w.heap.size ≤ l → R b #[v] b' → I b W → Kp t W → body.wpIn (Fence.wide.inRound l) (n - 1 - 1) Tryz.prog (boxPost w.heap.size Kp t I Ix b' W) { tmps := (a.tmps.setIfInBounds p v).setIfInBounds q v, defers := [] } W)
    (hdone : ∀ (D : Nat) (b : β) (W : World), w.heap.size ≤ D → E b → I b W → W.heap[D]? = some (.deferred (some [])) → Q .normal { a with defers := { target := .collected D, args := #[] } :: a.defers } W)
    (hstop : ∀ (D : Nat) (c : Code) (W : World), w.heap.size ≤ D → Ix c W → W.heap[D]? = some (.deferred (some [])) → c.wpIn Fence.wide n Tryz.prog Q { a with defers := { target := .collected D, args := #[] } :: a.defers } W) :
    (Code.rangeFunc g #[p] assign body).wpIn Fence.wide n Tryz.prog Q a w := by
  have one : ∀ args : Array Value, args.size = 1 → ∃ v, args = #[v] := fun args h => by
    rcases args with ⟨_ | ⟨v, _ | ⟨u, r⟩⟩⟩
    · cases h
    · exact ⟨v, rfl⟩
    · simp at h
  refine range_box h1 hg eg hseq hKp hps hB0 hB1 I Ix hI hIx h0 hT (fun args => { tmps := (a.tmps.setIfInBounds p (args.getD 0 undef)).setIfInBounds q (args.getD 0 undef), defers := [] }) ?_ ?_ hdone hstop
  · intro l args W K hs hK
    obtain ⟨v, rfl⟩ := one args hs
    have := hassign l v W K hK
    simpa using this
  · intro l b args b' W t hl hR hi hk
    obtain ⟨v, rfl⟩ := one args (hps b args b' hR)
    exact hbody l b v b' W t hl hR hi hk

theorem keeps_setC {n q i : Nat} {W Y : World} {v : Value} (h : KeepsFrom n W Y) (hq : q < n) : KeepsFrom n W (Y.setCell ⟨q, i, none⟩ v) :=
  ⟨Nat.le_trans h.size (grown_setC Y q i v).size, fun k o hk ho hc => ((grown_setC Y q i v).block k (blk_lt (h.same k o hk ho hc)) (fun e => by injection e with e; omega)).trans (h.same k o hk ho hc)⟩
theorem keep_setC {b q i : Nat} {Y : World} {v : Value} {o : Obj} (h : Y.heap[b]? = some o) (hq : b ≠ q) : (Y.setCell ⟨q, i, none⟩ v).heap[b]? = some o :=
  ((grown_setC Y q i v).block b (blk_lt h) (fun e => by injection e with e; omega)).trans h
theorem own_setC {W : World} {base : Nat} {t : TypeId} {z : Nat} {v : Value} {n : Nat} {xs : List Value} {b i : Nat} {u : Value} (h : W.ownsRow base t z v n xs) (hb : b < base) : (W.setCell ⟨b, i, none⟩ u).ownsRow base t z v n xs :=
  own_free (B := b) h hb (grown_setC W b i u) (fun r e => by injection e with e; exact .inl e.symm)
theorem allActs_len : ∀ {pre : List (List UInt8)} {M : List Actn}, allActs pre = some M → M.length = pre.length
  | [], M, h => by simp only [allActs] at h; cases h; rfl
  | p :: pre, M, h => by
    simp only [allActs] at h
    cases hp : readAct p with
    | none => rw [hp] at h; cases h
    | some y =>
      rw [hp] at h
      simp only [Option.bind_some] at h
      cases hr : allActs pre with
      | none => rw [hr] at h; cases h
      | some N => rw [hr] at h; cases h; simp [allActs_len hr]
theorem trim_le (s p : List UInt8) : (Lib.trimSuffix s p).length ≤ s.length := by
  unfold Lib.trimSuffix
  split
  · rw [List.length_take]; omega
  · exact Nat.le_refl _
theorem own_other {W Y : World} {base base' : Nat} {t t' : TypeId} {z z' : Nat} {v v' : Value} {n n' : Nat} {xs xs' : List Value} (h : W.ownsRow base t z v n xs) (hA : W.ownsRow base' t' z' v' n' xs') (hne : t ≠ t') (hg : W.grownBy Y v'.ownBlock) : Y.ownsRow base t z v n xs :=
  own_keep h hg (fun k hk e => by
    obtain ⟨c1, h1⟩ := own_at h hk
    obtain ⟨c2, h2⟩ := own_at hA e
    rw [h1] at h2
    injection h2 with h2
    injection h2 with _ h2
    exact hne h2)
theorem keeps_row {n : Nat} {W X Y : World} {base : Nat} {t : TypeId} {z : Nat} {v : Value} {k : Nat} {xs : List Value} (h : KeepsFrom n W X) (hA : X.ownsRow base t z v k xs) (hg : X.grownBy Y v.ownBlock) : KeepsFrom n W Y :=
  ⟨Nat.le_trans h.size hg.size, fun j o hj ho hc => (hg.block j (blk_lt (h.same j o hj ho hc)) (fun e => by
    obtain ⟨c2, h2⟩ := own_at hA e.symm
    rw [h.same j o hj ho hc] at h2
    cases h2
    cases hc)).trans (h.same j o hj ho hc)⟩
theorem cell1 {W : World} {b : Nat} {x : Value} {t : TypeId} (h : W.heap[b]? = some (.cells #[x] t (0, 0))) : W.cell? ⟨b, 0, none⟩ = some x ∧ W.frozen? ⟨b, 0, none⟩ = false := by
  constructor <;> simp [World.cell?, World.frozen?, h]

def ReadPost (l : List UInt8) (w : World) (e : Ending) (w' : World) : Prop := ∃ (tx : ByteArray) (rd : Bool) (aa : Option Addr) (an ac : Nat) (ok : Bool), e = .returned (.tuple #[.agg #[.string tx, .bool rd, .slice aa an ac], .bool ok]) ∧ Below w.heap.size w w' ∧ ((ok = true ∧ ∃ L : List ActQ, readCom l = some (tx, rd, L.map (·.1)) ∧ an = L.length ∧ w'.ownsRow 0 62 6 (.slice aa an ac) L.length (cellsQ L) ∧ ∀ q ∈ L, OwnQ 0 w' q) ∨ (ok = false ∧ readCom l = none))

set_option maxHeartbeats 4000000 in
set_option maxRecDepth 100000 in
theorem read_any (hP : PlacesOk) (s : ByteArray) (w : World) (hs : s.size ≤ 1000000) (he : ErrB w) : Calls Tryz.prog 21 #[.string s] w (ReadPost s.data.toList w) := by
  obtain ⟨l, hl⟩ : ∃ l, s.data.toList = l := ⟨_, rfl⟩
  have hll : l.length ≤ 1000000 := by rw [← hl, size_list]; exact hs
  rw [hl]
  have HC1 := mkH (fun W => cut_any s 10 W (by unfold maxLen; omega))
  rw [hl] at HC1
  have hz1 := cut_size1 10 l
  have hz2 := cut_size2 10 l
  have HC2 : Hid (∀ W, Calls Tryz.prog 43 #[.string (bA (cutL 10 l).1), .string ⟨#[32]⟩] W fun e w' => e = .returned (.tuple #[.string (bA (cutL 32 (cutL 10 l).1).1), .string (bA (rest1 (cutL 10 l).1)), .bool (cutL 32 (cutL 10 l).1).2.2]) ∧ Below W.heap.size W w') := mkH (fun W => by
    have := cut_any (bA (cutL 10 l).1) 32 W (by unfold maxLen; omega)
    rw [bA_toList] at this
    exact this)
  have hrl := rest1_le (cutL 10 l).1
  have HC3 : Hid (∀ W, Calls Tryz.prog 43 #[.string (bA (rest1 (cutL 10 l).1)), .string ⟨#[32]⟩] W fun e w' => e = .returned (.tuple #[.string (bA (cutL 32 (rest1 (cutL 10 l).1)).1), .string (bA (cutL 32 (rest1 (cutL 10 l).1)).2.1), .bool (cutL 32 (rest1 (cutL 10 l).1)).2.2]) ∧ Below W.heap.size W w') := mkH (fun W => by
    have := cut_any (bA (rest1 (cutL 10 l).1)) 32 W (by rw [bA_size] at hz1 ⊢; unfold maxLen; omega)
    rw [bA_toList] at this
    exact this)
  have HRC : Hid (readCom l = (allActs (linesT (cutL 10 l).2.1)).map fun x => (bA (cutL 32 (rest1 (cutL 10 l).1)).1, decide ((cutL 32 (rest1 (cutL 10 l).1)).2.1 = readsL), x)) := mkH rfl
  have HTL := mkH (toList_bA (cutL 32 (rest1 (cutL 10 l).1)).2.1)
  rw [bA_size] at hz2
  have HRA : Hid (∀ (a : List UInt8) W, a.length ≤ 1000000 → Below w.heap.size w W → Calls Tryz.prog 45 #[.string (bA a)] W (ActPost a W)) := mkH (fun a W ha hW => by
    have := readAction_any hP (bA a) W (by rw [bA_size]; exact ha) (he.below hW)
    rw [bA_toList] at this
    exact this)
  clear he hl hs hP hz1 hrl
  generalize cutL 32 (rest1 (cutL 10 l).1) = c3 at *
  generalize (cutL 32 (cutL 10 l).1).1 = c20 at *
  generalize (cutL 32 (cutL 10 l).1).2.2 = z2 at *
  generalize bA (rest1 (cutL 10 l).1) = r2 at *
  generalize cutL 10 l = c1 at *
  obtain ⟨hd, t0, z1⟩ := c1
  obtain ⟨txl, hwl, z3⟩ := c3
  simp only at HC1 HC2 HC3 HRC HTL hz2
  generalize bA hd = xh at *
  generalize bA c20 = x20 at *
  have ht0 : t0.length ≤ 1000000 := by omega
  generalize hrs : bA t0 = rs at *
  have HRS := mkH hrs
  generalize bA txl = tx at *
  have hmu : ((bA hwl).toList == [114, 101, 97, 100, 115]) = decide (hwl = readsL) := by rw [HTL.out]; exact beq_dec _ _
  have HMU := mkH hmu
  generalize bA hwl = xw at *
  generalize decide (hwl = readsL) = rd at *
  clear hmu HTL hrs hz2
  obtain ⟨z0, zz1, zz2, zz3⟩ := two_alloc w (.cells #[.string ⟨#[]⟩, .bool false, .slice none 0 0] 24) (.cells #[.bool false] 4)
  have Z0 := mkH z0
  have Z1 := mkH zz1
  have Z2 := mkH zz2
  have Z3 := mkH zz3
  clear z0 zz1 zz2 zz3
  refine (callsIn_wide (n := 5)).1 ?_
  refine callsIn_of_wp_marks Tryz.func21 rfl trivial ?_ rfl
  simp only [Tryz.ntmps21, List.size_toArray, List.length_cons, List.length_nil, Nat.reduceAdd, Nat.reduceSub, Array.replicate_succ, Array.replicate_zero, List.push_toArray, List.append_toArray, List.nil_append, List.cons_append]
  gi_wp2_with (first
    | (refine ⟨trivial, ?_⟩; gi_at_call_has 43 (Value.string s); refine (callsIn_wide.2 (HC1.out _)).mono ?_; rintro e w2 ⟨rfl, hb2⟩)
    | (refine ⟨trivial, ?_⟩; gi_at_call_has 43 (Value.string xh); refine (callsIn_wide.2 (HC2.out _)).mono ?_; rintro e w3 ⟨rfl, hb3⟩)
    | (refine ⟨trivial, ?_⟩; gi_at_call_has 43 (Value.string r2); refine (callsIn_wide.2 (HC3.out _)).mono ?_; rintro e w4 ⟨rfl, hb4⟩)
    | (refine ⟨trivial, ?_⟩; gi_at_call 44; refine (callsIn_wide.2 (lines_any _ _)).mono ?_; rintro e w5 ⟨rfl, rfl⟩))
  rename_i K0 hK0
  simp only [HMU.out]
  have hlow : Below w.heap.size w w4 := Below.ups (Below.ups (Below.ups Z3.out hb2) hb3) hb4
  have hb24 := Below.ups (Below.ups hb2 hb3) hb4
  have hsz4 : w.heap.size + 2 ≤ w4.heap.size := by have := hb24.size; rw [Z0.out] at this; exact this
  have hres : w4.heap[w.heap.size]? = some (.cells #[.string ⟨#[]⟩, .bool false, .slice none 0 0] 24 (0, 0)) := (hb24.block _ (by rw [Z0.out]; omega)).trans Z1.out
  have hok : w4.heap[w.heap.size + 1]? = some (.cells #[.bool false] 4 (0, 0)) := (hb24.block _ (by rw [Z0.out]; omega)).trans Z2.out
  clear hb24 hb2 hb3 hb4 Z0 Z1 Z2 Z3 HC1 HC2 HC3
  obtain ⟨y0, y1, y2, y3⟩ := two_alloc w4 (.cells #[.string tx, .bool rd, .slice none 0 0] 24) (.cells #[.string rs] 9)
  refine range_box1 14 (by decide) rfl (fun _ _ => rfl) (lines_iter 4 (w4.heap.size + 1) (by decide) t0 ht0) (fun v X r o o' h ho hc => Txt.kept h ho hc) (fun b args b' ⟨_, _, _, h, _⟩ => by rw [h]; rfl) (by simp) (by simp) (fun pre W => ∃ L aa ac, RdI w w4.heap.size (w4.heap.size + 2) tx rd pre W L aa ac) (fun c W => c = .ret ∧ RdX w t0 W) ?ab ?abx ?h0 ?hT ?hassign ?hbody ?hdone ?hstop
  case ab =>
    rintro pre X Y row ⟨L, aa, ac, hI⟩ hg hr
    exact ⟨L, aa, ac, hI.free (Nat.lt_succ_self _) (by omega) (by omega) hg (fun r e => (hr r e).imp id (fun h => ⟨by have := h.1; rw [y0] at this; omega, h.2⟩))⟩
  case abx =>
    rintro c b X Y row ⟨hc, hX⟩ hg hr
    exact ⟨hc, hX.free (by omega) hg (fun r e => (hr r e).imp id (fun h => ⟨by have := h.1; rw [y0] at this; omega, h.2⟩))⟩
  case h0 =>
    refine ⟨[], none, 0, y1, rfl, ?_, (fun q hq => by cases hq), (y3.block _ (by omega)).trans hres, (y3.block _ (by omega)).trans hok, Below.ups hlow y3⟩
    exact ⟨rfl, .inl ⟨rfl, rfl⟩⟩
  case hT =>
    intro r
    unfold Txt
    rw [Below.heap_alloc _ _ _ (by simp), Below.heap_alloc _ _ _ (by simp), y2, ← HRS.out]
  case hassign =>
    intro l v W K hK
    gi_wp2
    exact hK
  case hbody =>
    rintro l pre v pre' W t hl ⟨a, raw, t', hv, hln, htr, hrw, rfl⟩ ⟨L, aa, ac, hI⟩ hk
    cases hv
    clear hres hok y1 y2 y3 hlow
    have HT : Hid (∀ W, Calls Tryz.prog 46 #[.string (bA raw), .string ⟨#[10]⟩] W fun e w' => e = .returned (.string (bA a)) ∧ w' = W) := mkH (fun W => by
      have := Tryz.strings_TrimSuffix (bA raw) ⟨#[10]⟩ W (by rw [bA_size]; omega)
      rw [bA_toList] at this
      refine this.mono ?_
      rintro e w' ⟨rfl, rfl⟩
      refine ⟨?_, rfl⟩
      rw [← htr]
      rfl)
    have hal : a.length ≤ 1000000 := by rw [← htr]; exact Nat.le_trans (trim_le _ _) hrw
    have HR := mkH (HRA.out a W hal hI.low)
    have HI := mkH hI
    have HK := mkH hk
    have HL := mkH hln
    clear hI hk hln htr HRA HRC HMU HRS
    cases hra : readAct a with
    | none =>
      have HR' : Hid (Calls Tryz.prog 45 #[.string (bA a)] W fun e w' => ∃ (k : Int) (p : ByteArray) (r : Int) (ma : Option Addr) (mn mc : Nat) (ca : Option Addr) (cn cc : Nat) (nx : Int), e = .returned (.tuple #[.agg #[.int .i64 k, .string p, .int .i64 r, .slice ma mn mc, .slice ca cn cc, .int .i64 nx], .bool false]) ∧ Below W.heap.size W w') := mkH (HR.out.mono (by
        rintro e w' ⟨k, p, r, ma, mn, mc, ca, cn, cc, nx, ok, rfl, hb, ⟨_, M, C, h, _⟩ | ⟨rfl, _⟩⟩
        · rw [hra] at h; cases h
        · exact ⟨k, p, r, ma, mn, mc, ca, cn, cc, nx, rfl, hb⟩))
      have HN : Hid (allActs (linesT t0) = none) := mkH (by rw [HL.out]; exact allActs_none hra)
      clear HR hra HL
      gi_wp2_with (first
        | (refine ⟨trivial, ?_⟩; gi_at_call 46; refine (callsIn_wide.2 (HT.out _)).mono ?_; rintro e w6 ⟨rfl, rfl⟩)
        | (refine ⟨trivial, ?_⟩; gi_at_call 45; refine (callsIn_wide.2 HR'.out).mono ?_; rintro e w7 ⟨k, p, r, ma, mn, mc, ca, cn, cc, nx, rfl, hb7⟩
           have HB8 : Hid (Below w6.heap.size w6 (w7.alloc (.cells #[.int .i64 k, .string p, .int .i64 r, .slice ma mn mc, .slice ca cn cc, .int .i64 nx] 62))) := mkH (hb7.alloc hb7.size _)
           have HX1 := mkH ((HB8.out.block _ (blk_lt HI.out.res)).trans HI.out.res)
           have HX2 := mkH ((HB8.out.block _ (blk_lt HI.out.ok)).trans HI.out.ok)
           obtain ⟨x0, x1, x2, xf⟩ := cells3 HX1.out
           have xb := cell1 HX2.out
           clear hb7))
      rw [y0]
      refine ⟨keeps_setC (keeps_setC (keeps_setC (keeps_setC (keeps_below HB8.out) (by omega)) (by omega)) (by omega)) (by omega), rfl, HN.out, ?_, ?_, ?_⟩
      · exact keep_setC (put3 _ _ _ _ _ _ _ _ _ HX1.out) (by omega)
      · exact heap_setC _ _ 0 _ _ _ (keep_setC (keep_setC (keep_setC HX2.out (by omega)) (by omega)) (by omega))
      · exact (below_set3 (Below.ups HI.out.low HB8.out) (Nat.le_refl _) _ _ _).setCell (p := ⟨w.heap.size + 1, 0, none⟩) (Nat.le_succ _) _
    | some x =>
      obtain ⟨k, p, r, M, C, nx⟩ := x
      have HR' : Hid (Calls Tryz.prog 45 #[.string (bA a)] W fun e w' => ∃ (ma : Option Addr) (mn mc : Nat) (ca : Option Addr) (cn cc : Nat), e = .returned (.tuple #[.agg #[.int .i64 k, .string p, .int .i64 r, .slice ma mn mc, .slice ca cn cc, .int .i64 nx], .bool true]) ∧ Below W.heap.size W w' ∧ w'.ownsRow W.heap.size 3 1 (.slice ma mn mc) M.length (M.map (.int .i64)) ∧ w'.ownsRow W.heap.size 67 7 (.slice ca cn cc) C.length (cellsC C)) := mkH (HR.out.mono (by
        rintro e w' ⟨k, p, r, ma, mn, mc, ca, cn, cc, nx, ok, rfl, hb, ⟨rfl, M, C, h, h1, h2⟩ | ⟨_, h⟩⟩
        · rw [hra] at h; cases h; exact ⟨ma, mn, mc, ca, cn, cc, rfl, hb, h1, h2⟩
        · rw [hra] at h; cases h))
      have HN := mkH (allActs_snoc HI.out.acts hra)
      have hlen : L.length ≤ 1000000 := by
        have h1 := allActs_len HI.out.acts
        have h2 := linesT_len _ t0 (Nat.le_refl _)
        rw [HL.out] at h2
        simp only [List.length_map, List.length_append, List.length_cons] at h1 h2
        omega
      obtain ⟨iA, hi1, hi2⟩ := Option.map_eq_some_iff.1 infoAc
      simp only [Prod.mk.injEq] at hi2
      have HIA := mkH (And.intro hi1 hi2)
      clear HR hra HL hi1 hi2
      gi_wp2_with (first
        | (refine ⟨trivial, ?_⟩; gi_at_call 46; refine (callsIn_wide.2 (HT.out _)).mono ?_; rintro e w6 ⟨rfl, rfl⟩)
        | (refine ⟨trivial, ?_⟩; gi_at_call 45; refine (callsIn_wide.2 HR'.out).mono ?_; rintro e w7 ⟨ma, mn, mc, ca, cn, cc, rfl, hb7, hm7, hc7⟩
           have HM7 := mkH hm7
           have HC7 := mkH hc7
           have HB7 := mkH hb7
           have HB8 : Hid (Below w6.heap.size w6 (w7.alloc (.cells #[.int .i64 k, .string p, .int .i64 r, .slice ma mn mc, .slice ca cn cc, .int .i64 nx] 62))) := mkH (hb7.alloc hb7.size _)
           have HX1 := mkH ((HB8.out.block _ (blk_lt HI.out.box)).trans HI.out.box)
           obtain ⟨x0, x1, x2, xf⟩ := cells3 HX1.out
           have HA8 : Hid (Below w7.heap.size w7 ((w7.alloc (.cells #[.int .i64 k, .string p, .int .i64 r, .slice ma mn mc, .slice ca cn cc, .int .i64 nx] 62)).alloc (.cells #[.int .i64 k, .string p, .int .i64 r, .slice ma mn mc, .slice ca cn cc, .int .i64 nx] 62))) := mkH (((Below.refl _ _).alloc (Nat.le_refl _) _).alloc (by rw [World.size_alloc]; exact Nat.le_succ _) _)
           have HROW := mkH (own_up (own_up HI.out.row HB7.out) HA8.out)
           have HBASE : Hid (w4.heap.size + 2 ≤ w6.heap.size) := mkH (blk_lt HK.out)
           clear hb7 hm7 hc7)
        | (gi_at_builtin; refine wpListIn_append_own _ rfl _ _ 22 rfl (w4.heap.size + 2) 62 iA zeroAc 6 88 Tryz.underlying22 HIA.out.1 HIA.out.2.1 HIA.out.2.2.1 HIA.out.2.2.2 rfl (by decide) (.slice aa L.length ac) L.length (cellsQ L) rfl HROW.out ⟨w7.heap.size + 1, 0, none⟩ 1 1 (encQ ((k, p, r, M, C, nx), (ma, mn, mc), (ca, cn, cc))) rfl rfl (fun j u hj => World.news_of_block (by rw [← World.size_alloc w7 (.cells #[.int .i64 k, .string p, .int .i64 r, .slice ma mn mc, .slice ca cn cc, .int .i64 nx] 62)]; exact heap_alloc_new _ _) j u hj) (by intro u hu; simp [encQ] at hu; rcases hu with rfl | rfl | rfl | rfl | rfl | rfl <;> rfl) (by unfold maxLen; omega) (by omega) (Nat.le_trans HBASE.out (Nat.le_trans HB7.out.size HA8.out.size)) ?_
           intro v1 w9 hown9 hg9 _
           obtain ⟨a', c', rfl⟩ := own_sl hown9
           have HO9 := mkH hown9
           have HG9 := mkH hg9
           have HY1 := mkH ((hg9.block w4.heap.size (Nat.lt_of_lt_of_le (blk_lt HI.out.box) (Nat.le_trans HB7.out.size HA8.out.size)) (fun e => by have := own_blk HROW.out e.symm; omega)).trans ((HA8.out.block _ (Nat.lt_of_lt_of_le (blk_lt HI.out.box) HB7.out.size)).trans ((HB7.out.block _ (blk_lt HI.out.box)).trans HI.out.box)))
           obtain ⟨y0', y1', y2', yf⟩ := cells3 HY1.out
           clear hown9 hg9))
      clear y0' y1' y2' yf x0 x1 x2 xf
      have hup : ∀ {b : Nat} {cs : Array Value} {t : TypeId}, w6.heap[b]? = some (.cells cs t (0, 0)) → b < w4.heap.size + 2 → b ≠ w4.heap.size → (w9.setCell ⟨w4.heap.size, 2, none⟩ (.slice a' (L.length + 1) c')).heap[b]? = some (.cells cs t (0, 0)) := fun h hb hne =>
        keep_setC ((HG9.out.block _ (Nat.lt_of_lt_of_le (blk_lt h) (Nat.le_trans HB7.out.size HA8.out.size)) (fun e => by have := own_blk HROW.out e.symm; omega)).trans ((HA8.out.block _ (Nat.lt_of_lt_of_le (blk_lt h) HB7.out.size)).trans ((HB7.out.block _ (blk_lt h)).trans h))) hne
      have hown : ∀ {t : TypeId} {z : Nat} {v : Value} {n : Nat} {xs : List Value}, w7.ownsRow (w4.heap.size + 2) t z v n xs → t ≠ 62 → (w9.setCell ⟨w4.heap.size, 2, none⟩ (.slice a' (L.length + 1) c')).ownsRow (w4.heap.size + 2) t z v n xs := fun h hne =>
        own_setC (own_other (own_up h HA8.out) HROW.out hne HG9.out) (by omega)
      rw [y0]
      refine ⟨keeps_setC (keeps_row (keeps_below (Below.ups HB7.out HA8.out)) HROW.out HG9.out) (by omega), ⟨L ++ [((k, p, r, M, C, nx), (ma, mn, mc), (ca, cn, cc))], a', c', ?_, ?_, ?_, ?_, ?_, ?_, ?_⟩, ?_⟩
      · rw [List.length_append]
        exact heap_setC w9 w4.heap.size 2 _ _ _ HY1.out
      · rw [HN.out, List.map_append]; rfl
      · rw [List.length_append]
        have := own_setC (b := w4.heap.size) (i := 2) (u := .slice a' (L.length + 1) c') HO9.out (by omega)
        have e : cellsQ (L ++ [((k, p, r, M, C, nx), (ma, mn, mc), (ca, cn, cc))]) = cellsQ L ++ encQ ((k, p, r, M, C, nx), (ma, mn, mc), (ca, cn, cc)) := by simp [cellsQ]
        rw [e]
        exact this
      · intro q hq
        rcases List.mem_append.1 hq with hq | hq
        · exact ⟨hown (own_up (HI.out.own q hq).1 HB7.out) (by decide), hown (own_up (HI.out.own q hq).2 HB7.out) (by decide)⟩
        · obtain rfl := List.mem_singleton.1 hq
          exact ⟨hown (own_base HM7.out HBASE.out) (by decide), hown (own_base HC7.out HBASE.out) (by decide)⟩
      · exact hup HI.out.res (by omega) (by omega)
      · exact hup HI.out.ok (by omega) (by omega)
      · have h1 := Below.ups HI.out.low (Below.ups HB7.out HA8.out)
        exact (h1.grown HG9.out h1.size (fun j hj => by have := own_blk HROW.out hj; omega)).setCell (p := ⟨w4.heap.size, 2, none⟩) (by show w.heap.size ≤ w4.heap.size; omega) _
      · exact hup HK.out (by omega) (by omega)
  case hdone =>
    rintro D pre W hD rfl ⟨L, aa, ac, hI⟩ hd
    rw [y0] at hD
    clear y0 y1 y2 y3 hres hok HRA HRS HMU hlow
    refine hK0 _ _ ?_
    clear hK0
    obtain ⟨x0, x1, x2, xf⟩ := cells3 hI.box
    obtain ⟨r0, r1, r2', rf⟩ := cells3 hI.res
    obtain ⟨o0, of⟩ := cell1 hI.ok
    have HI := mkH hI
    have HD := mkH hd
    clear hI hd
    gi_wp2
    clear x0 x1 x2 xf r0 r1 r2' rf o0 of
    have hX1 := put3 W w.heap.size _ _ _ (.string tx) (.bool rd) (.slice aa L.length ac) _ HI.out.res
    have hX2 : (set3 W w.heap.size (.string tx) (.bool rd) (.slice aa L.length ac)).heap[w.heap.size + 1]? = _ := keep_setC (keep_setC (keep_setC HI.out.ok (by omega)) (by omega)) (by omega)
    have hX3 := keep_setC (q := w.heap.size + 1) (i := 0) (v := .bool true) hX1 (by omega)
    have hX4 := heap_setC _ (w.heap.size + 1) 0 _ _ (.bool true) hX2
    have hX5 : ((set3 W w.heap.size (.string tx) (.bool rd) (.slice aa L.length ac)).setCell ⟨w.heap.size + 1, 0, none⟩ (.bool true)).heap[D]? = _ := keep_setC (keep_setC (keep_setC (keep_setC HD.out (by omega)) (by omega)) (by omega)) (by omega)
    have hX6 : Below w.heap.size w ((set3 W w.heap.size (.string tx) (.bool rd) (.slice aa L.length ac)).setCell ⟨w.heap.size + 1, 0, none⟩ (.bool true)) := (below_set3 HI.out.low (Nat.le_refl _) _ _ _).setCell (p := ⟨w.heap.size + 1, 0, none⟩) (Nat.le_succ _) _
    have hX7 : ∀ {t : TypeId} {z : Nat} {v : Value} {n : Nat} {xs : List Value}, W.ownsRow (w4.heap.size + 2) t z v n xs → ((set3 W w.heap.size (.string tx) (.bool rd) (.slice aa L.length ac)).setCell ⟨w.heap.size + 1, 0, none⟩ (.bool true)).ownsRow (w4.heap.size + 2) t z v n xs := fun h => own_setC (own_setC (own_setC (own_setC h (by omega)) (by omega)) (by omega)) (by omega)
    change LeavesInM _ _ _ _ _ _ _ _ ((set3 W w.heap.size (.string tx) (.bool rd) (.slice aa L.length ac)).setCell ⟨w.heap.size + 1, 0, none⟩ (.bool true))
    generalize (set3 W w.heap.size (.string tx) (.bool rd) (.slice aa L.length ac)).setCell ⟨w.heap.size + 1, 0, none⟩ (.bool true) = X at *
    refine ⟨by simp, .inl ⟨_, _, rfl, run_takeDeferred hX5, ?_⟩⟩
    have hr9 : (X.putObj D (.deferred none)).heap[w.heap.size]? = _ := (World.putObj_heap_other (by omega)).trans hX3
    have ho9 : (X.putObj D (.deferred none)).heap[w.heap.size + 1]? = _ := (World.putObj_heap_other (by omega)).trans hX4
    have hl9 : Below w.heap.size w (X.putObj D (.deferred none)) := hX6.grown (grownBy_putObj' X D _) hX6.size (fun j hj => by injection hj with hj; omega)
    have hw9 : ∀ {t : TypeId} {z : Nat} {v : Value} {n : Nat} {xs : List Value}, W.ownsRow (w4.heap.size + 2) t z v n xs → (X.putObj D (.deferred none)).ownsRow 0 t z v n xs := fun h => own_base (own_free (B := w.heap.size) (hX7 h) (by omega) (grownBy_putObj' X D _) (fun r e => by injection e with e; subst e; exact .inr ⟨_, hX5, rfl⟩)) (Nat.zero_le _)
    generalize X.putObj D (.deferred none) = W9 at *
    obtain ⟨x0, x1, x2, _⟩ := cells3 hr9
    obtain ⟨xb, _⟩ := cell1 ho9
    refine ⟨.tuple #[.agg #[.string tx, .bool rd, .slice aa L.length ac], .bool true], ?_, tx, rd, aa, L.length, ac, true, rfl, hl9, .inl ⟨rfl, L, by rw [HRC.out, HI.out.acts]; rfl, rfl, hw9 HI.out.row, fun q hq => ⟨hw9 (HI.out.own q hq).1, hw9 (HI.out.own q hq).2⟩⟩⟩
    simp [results, Tryz.f21, go_sem, x0, x1, x2, xb]
  case hstop =>
    rintro D c W hD ⟨rfl, hX⟩ hd
    gi_wp2
    rw [y0] at hD
    refine ⟨by simp, .inl ⟨_, _, rfl, run_takeDeferred hd, ?_⟩⟩
    have hr9 : (W.putObj D (.deferred none)).heap[w.heap.size]? = _ := (World.putObj_heap_other (by omega)).trans hX.res
    have ho9 : (W.putObj D (.deferred none)).heap[w.heap.size + 1]? = _ := (World.putObj_heap_other (by omega)).trans hX.ok
    have hl9 : Below w.heap.size w (W.putObj D (.deferred none)) := hX.low.grown (grownBy_putObj' W D _) hX.low.size (fun j hj => by injection hj with hj; omega)
    generalize W.putObj D (.deferred none) = W9 at *
    obtain ⟨x0, x1, x2, _⟩ := cells3 hr9
    obtain ⟨xb, _⟩ := cell1 ho9
    refine ⟨.tuple #[.agg #[.string ⟨#[]⟩, .bool false, .slice none 0 0], .bool false], ?_, ⟨#[]⟩, false, none, 0, 0, false, rfl, hl9, .inr ⟨rfl, by rw [HRC.out, hX.bad]; rfl⟩⟩
    clear hK0
    simp [results, Tryz.f21, go_sem, x0, x1, x2, xb]
end Go.Proofs.YtfppidnfomelpaaGreatDoor
