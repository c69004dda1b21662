/- The walk of log.readPlaces. -/
import Derived.Test.YtfppidnfomelpaaGreatDoorRU
namespace Go.Proofs.YtfppidnfomelpaaGreatDoor
open Go.RowKit Go.Proofs Go.Lib Go.Joins

attribute [local go_sem] Oper.semAt_some

theorem numbers_any (s : ByteArray) (w : World) :
    Calls Tryz.prog 111 #[.string s] w fun e w' => e = .returned (.func (.func 144) #[] #[.pointer (some ⟨w.heap.size, 0, none⟩)]) ∧ w' = w.alloc (.cells #[.string s] 9) := by
  go_enter Tryz.func111, Tryz.ntmps111
  go_wp2
  go_ret
  exact ⟨rfl, rfl⟩
/-- What a round of numbers keeps: the boxes of the iterator within, its loop's record, the errors, the box of yield. -/
structure KpN (Y : Nat) (v : List UInt8 × World) (W : World) : Prop where
  sp : SpT (Y + 1) v.1 W
  keep : KeepsFrom (Y + 4) v.2 W
  err : ErrB W
  yb : W.heap[Y]? = v.2.heap[Y]?
def NumR (t0 : List UInt8) (pre : List (List UInt8)) (args : Array Value) (pre' : List (List UInt8)) : Prop := ∃ a t n er, args = #[.int .i64 n, er] ∧ splitT 44 t0 = pre ++ a :: t ∧ pre' = pre ++ [a] ∧ ((numOf a = some n ∧ er = .nilIface) ∨ (numOf a = none ∧ ∃ t x, er = .iface t x))
theorem errB_free {W Y : World} {B : Nat} {row : Option Nat} (h : ErrB W) (hB : B ≠ 4) (hB2 : B ≠ 5) (hg : W.grownBy Y row) (hr : ∀ r, row = some r → r = B ∨ (∃ o : Obj, W.heap[r]? = some o ∧ o.isCells = false)) : ErrB Y := by
  obtain ⟨⟨t1, p1, h1⟩, t2, p2, h2⟩ := h
  have key : ∀ (b : Nat) (v : Value), b ≠ B → W.cell? ⟨b, 0, none⟩ = some v → Y.cell? ⟨b, 0, none⟩ = some v := fun b v hb hc => by
    have hlt := cell_lt hc
    have e := hg.block b hlt (fun e => by
      rcases hr b e.symm with rfl | ⟨o, ho, hc'⟩
      · exact hb rfl
      · simp only [World.cell?, ho] at hc
        cases o <;> simp_all [Obj.isCells])
    simp only [World.cell?, e] at hc ⊢
    exact hc
  exact ⟨⟨t1, p1, key _ _ (Ne.symm hB) h1⟩, t2, p2, key _ _ (Ne.symm hB2) h2⟩
theorem below_row {W Y : World} (h : Below W.heap.size W Y) : W.grownBy Y none := ⟨h.os, h.tape, h.output, h.size, fun k hk _ => h.block k hk⟩
theorem AbB.up {β : Type} {B W0 : Nat} {J : β → World → Prop} (h : AbB B W0 J) {b : β} {W Y : World} (hj : J b W) (hb : Below W.heap.size W Y) : J b Y := h b W Y none hj (below_row hb) (fun r e => by cases e)

theorem four_alloc (w : World) (a b c d : Obj) : ((((w.alloc a).alloc b).alloc c).alloc d).heap.size = w.heap.size + 4 ∧ ((((w.alloc a).alloc b).alloc c).alloc d).heap[w.heap.size]? = some a ∧ ((((w.alloc a).alloc b).alloc c).alloc d).heap[w.heap.size + 1]? = some b ∧ ((((w.alloc a).alloc b).alloc c).alloc d).heap[w.heap.size + 2]? = some c ∧ ((((w.alloc a).alloc b).alloc c).alloc d).heap[w.heap.size + 3]? = some d ∧ Below w.heap.size w ((((w.alloc a).alloc b).alloc c).alloc d) := by
  obtain ⟨a0, a1, a2, a3⟩ := two_alloc w a b
  obtain ⟨b0, b1, b2, b3⟩ := two_alloc ((w.alloc a).alloc b) c d
  rw [a0] at b0 b1 b2 b3
  exact ⟨b0, (b3.block _ (by omega)).trans a1, (b3.block _ (by omega)).trans a2, b1, b2, Below.ups a3 (by rw [a0]; exact b3)⟩
theorem SpT.below' {B : Nat} {r : List UInt8} {X Y : World} (h : SpT B r X) (hb : Below X.heap.size X Y) : SpT B r Y := ⟨(hb.block _ (blk_lt h.txt)).trans h.txt, (hb.block _ (blk_lt h.sep)).trans h.sep, (hb.block _ (blk_lt h.save)).trans h.save⟩
/-- How a round's yield ends. -/
def RPost (b : List (List UInt8)) (J : List (List UInt8) → World → Prop) (Jx : World → Prop) (Kp : World → Prop) (e : Ending) (W : World) : Prop := ∃ ok : Bool, e = .returned (.bool ok) ∧ Kp W ∧ ((ok = true ∧ J b W) ∨ (ok = false ∧ Jx W))
set_option maxHeartbeats 4000000 in
set_option maxRecDepth 100000 in
theorem numbers_iter (m Y Bs : Nat) (hm : 3 ≤ m) (t0 : List UInt8) (hlen : t0.length ≤ 1000000) :
    BoxIter2 m 144 #[.pointer (some ⟨Bs, 0, none⟩)] (Y + 1) (NumR t0) [] (fun pre => pre = splitT 44 t0) (KpN Y) (fun W => W.heap.size = Y ∧ Txt Bs t0 W ∧ ErrB W) := by
  rintro l J Jx W hJ hJx hY ⟨rfl, htx, herr⟩ h0
  have htx1 : Txt Bs t0 (W.alloc (.cells #[.func (.yield l) #[] #[]] 215)) := (Below.heap_alloc W _ Bs (blk_lt htx)).trans htx
  have hc := htx1.cell
  refine callsIn_of_wp_marks Tryz.func144 rfl trivial ?_ rfl
  simp only [Tryz.ntmps144, List.size_toArray, List.length_cons, List.length_nil, Nat.reduceAdd, Nat.reduceSub, Array.replicate_succ, Array.replicate_zero, List.push_toArray, List.append_toArray, List.nil_append, List.cons_append]
  gi_wp2_with (refine ⟨trivial, fun _ => by omega, ?_⟩; gi_at_call 145; refine (callsIn_wide.2 (split_any _ _ _)).mono ?_; rintro e w5 ⟨rfl, rfl⟩)
  obtain ⟨y0, y1, y2, y3, y4, y5⟩ := four_alloc W (.cells #[.func (.yield l) #[] #[]] 215) (.cells #[.string (bA t0)] 9) (.cells #[.string ⟨#[44]⟩] 9) (.cells #[.int .i64 0] 3)
  have hJ4 : J [] ((((W.alloc (.cells #[.func (.yield l) #[] #[]] 215)).alloc (.cells #[.string (bA t0)] 9)).alloc (.cells #[.string ⟨#[44]⟩] 9)).alloc (.cells #[.int .i64 0] 3)) := hJ.alloc (hJ.alloc (hJ.alloc (hJ.alloc h0 _) _) _) _
  have he4 := herr.below y5
  have hSp : SpT (W.heap.size + 1) t0 ((((W.alloc (.cells #[.func (.yield l) #[] #[]] 215)).alloc (.cells #[.string (bA t0)] 9)).alloc (.cells #[.string ⟨#[44]⟩] 9)).alloc (.cells #[.int .i64 0] 3)) := ⟨y2, y3, y4⟩
  have hn4 : W.heap.size + 1 ≠ 4 := by obtain ⟨⟨_, _, h⟩, _⟩ := herr; have := cell_lt h; omega
  have hn5 : W.heap.size + 1 ≠ 5 := by obtain ⟨_, _, _, h⟩ := herr; have := cell_lt h; omega
  clear hc htx1 y2 y3 y4
  generalize (((W.alloc (.cells #[.func (.yield l) #[] #[]] 215)).alloc (.cells #[.string (bA t0)] 9)).alloc (.cells #[.string ⟨#[44]⟩] 9)).alloc (.cells #[.int .i64 0] 3) = w4 at *
  refine range_box1 3 (by omega) rfl (fun _ _ => rfl) (split_iter (m - 1) (W.heap.size + 1) (by omega) t0 hlen) (fun v X r o o' h ho hc => SpT.kept h ho hc) (fun b args b' ⟨_, _, h, _⟩ => by rw [h]; rfl) (by omega) (by omega) (fun pre X => J pre X ∧ ErrB X ∧ X.heap[W.heap.size]? = some (.cells #[.func (.yield l) #[] #[]] 215 (0, 0))) (fun c X => c = .ret ∧ Jx X) ?ab ?abx ?h0 ?hT ?hassign ?hbody ?hdone ?hstop
  case ab =>
    rintro pre X Z row ⟨hj, he, hyb⟩ hg hr
    refine ⟨hJ pre X Z row hj hg (fun r e => (hr r e).imp id (fun h => ⟨by omega, h.2⟩)), errB_free he hn4 hn5 hg (fun r e => (hr r e).imp id And.right), (hg.block _ (blk_lt hyb) (fun e => ?_)).trans hyb⟩
    rcases hr _ e.symm with h | h
    · omega
    · have := h.1; omega
  case abx =>
    rintro c b X Z row ⟨hc, hX⟩ hg hr
    exact ⟨hc, hJx () X Z row hX hg (fun r e => (hr r e).imp id (fun h => ⟨by omega, h.2⟩))⟩
  case h0 => exact ⟨hJ4, he4, y1⟩
  case hT =>
    intro r
    exact hSp.below' (((Below.refl _ _).alloc (Nat.le_refl _) _).alloc (by simp) _)
  case hassign =>
    intro l v W K hK
    gi_wp2
    exact hK
  case hbody =>
    rintro l' pre v pre' X t hl ⟨a, t', hv, hsp, hal, rfl⟩ ⟨hj, he, hyb⟩ hk
    cases hv
    have hcy := (cell1 hyb).1
    have HAT : Hid (∀ Z, ErrB Z → Calls Tryz.prog 79 #[.string (bA a)] Z (NumPost a Z)) := mkH (fun Z h => by
      have := atoi_any (bA a) Z (by rw [bA_size]; omega) h
      rw [bA_toList] at this
      exact this)
    have he6 : ErrB X.drew := he.below (Below.refl _ _).drew
    have HYY : Hid (∀ n er w6, Below X.drew.heap.size X.drew w6 → ((numOf a = some n ∧ er = .nilIface) ∨ (numOf a = none ∧ ∃ t x, er = .iface t x)) → ∃ fn tmps assign body, (Instr.yield l #[.int .i64 n, er]).run Tryz.prog w6 = .ok (.round l fn tmps assign body) w6 ∧ ∀ l' k, RoundIn (Fence.wide.inRound l') k Tryz.prog l fn tmps assign body w6 (RPost (pre ++ [a]) J Jx (KpN W.heap.size (t, w6)))) := mkH (fun n er w6 hb hcs => by
      have hb' : Below X.heap.size X w6 := Below.ups (Below.refl _ _).drew hb
      obtain ⟨fn, tmps, assign, body, hy, hR⟩ := hY pre _ (pre ++ [a]) w6 (t, w6) ⟨a, t', n, er, rfl, hsp, rfl, hcs⟩ (hJ.up hj hb') ⟨hk.below' hb', KeepsFrom.refl _ _, he.below hb', rfl⟩
      refine ⟨fn, tmps, assign, body, hy, fun l' k => round_any (hR.mono ?_)⟩
      rintro e W3 (⟨rfl, h1, h2⟩ | ⟨rfl, h1, h2⟩)
      · exact ⟨true, rfl, h2, .inl ⟨rfl, h1⟩⟩
      · exact ⟨false, rfl, h2, .inr ⟨rfl, h1⟩⟩)
    have HX := mkH hyb
    clear hY hj hk hsp
    gi_wp2_with fail
    gi_region_with (first
      | (refine ⟨trivial, fun _ => by omega, ?_⟩; gi_at_call 79; refine (CallsIn.inRound l' (callsIn_wide.2 (HAT.out _ he6))).mono ?_; rintro e w6 ⟨n, er, rfl, hb6, hcs⟩
         obtain ⟨fn, tmps, assign, body, hy, hR⟩ := HYY.out n er w6 hb6 hcs
         have HR := mkH hR
         have HB6 := mkH hb6
         have hcy6 := (hb6.cell (p := ⟨W.heap.size, 0, none⟩) (blk_lt HX.out)).trans hcy
         clear hR hb6 hcs)
      | (refine (HR.out _ _).mono ?_; rintro e W3 ⟨b, rfl, h3⟩)
      | (refine ⟨fun _ => by omega, (HR.out _ _).mono ?_⟩; rintro e W3 ⟨b, rfl, h3⟩)
      | (refine ⟨trivial, fun _ => by omega, (HR.out _ _).mono ?_⟩; rintro e W3 ⟨b, rfl, h3⟩))
    all_goals
      rename_i K0 hK0
      obtain ⟨h3k, h3⟩ := h3
      refine hK0 _ _ ?_
      have hb6 : Below X.heap.size X w6 := Below.ups (Below.refl _ _).drew HB6.out
      have hkf : KeepsFrom w4.heap.size X W3 := by rw [y0]; exact (keeps_below hb6).trans h3k.keep
      have hy3 := h3k.yb.trans ((hb6.block _ (blk_lt HX.out)).trans HX.out)
      clear hK0 hy hcy6 hcy HR HYY
      rcases h3 with ⟨rfl, h3⟩ | ⟨rfl, h3⟩
      · gi_wp2
        exact ⟨hkf, ⟨h3, h3k.err, hy3⟩, h3k.sp⟩
      · gi_wp2
        exact ⟨hkf, rfl, h3⟩
  case hdone =>
    rintro D pre X hD rfl ⟨hj, he, hyb⟩ hd
    show LeavesInM Fence.wide m Tryz.prog Tryz.f144 _ _ _ .returning X
    refine ⟨by simp, .inl ⟨_, _, rfl, run_takeDeferred hd, ?_⟩⟩
    exact ⟨.tuple #[], results_none rfl _ _ _, ⟨_, rfl⟩, .inl ⟨_, rfl, hJ.put hj hd rfl (by omega) _⟩⟩
  case hstop =>
    rintro D c X hD ⟨rfl, hX⟩ hd
    gi_wp2
    refine ⟨by simp, .inl ⟨_, _, rfl, run_takeDeferred hd, ?_⟩⟩
    exact ⟨.tuple #[], results_none rfl _ _ _, ⟨_, rfl⟩, .inr (hJx.put (b := ()) hX hd rfl (by omega) _)⟩
end Go.Proofs.YtfppidnfomelpaaGreatDoor

namespace Go.Proofs.YtfppidnfomelpaaGreatDoor
open Go.RowKit Go.Proofs Go.Lib Go.Joins

attribute [local go_sem] Oper.semAt_some

/-- range_box2 at an iterator that hands two values. -/
theorem range_box22 {β γ : Type} {g : Operand} {p p' : Tmp} {assign body : Code} {Q : Exit → Act → World → Prop} {a : Act} {w : World} {n : Nat} (q q' : Tmp) (h1 : 1 ≤ n) {gf : Nat} {lb : Array Value} (hg : a.eval g = .func (.func gf) #[] lb) (eg : ∀ args w, (callFunc gf args).run Tryz.prog w = .ok (.enter gf args) w)
    {B : Nat} {R : β → Array Value → β → Prop} {b0 : β} {E : β → Prop} {Kp : γ → World → Prop} {T0 : World → Prop} (hseq : BoxIter2 (n - 1) gf lb B R b0 E Kp T0) (hKp : ∀ v X o o', Kp v X → X.heap[w.heap.size + 1]? = some o → o.isCells = false → Kp v (X.putObj (w.heap.size + 1) o')) (hps : ∀ b args b', R b args b' → args.size = 2)
    (hB0 : B ≠ w.heap.size) (hB1 : B ≠ w.heap.size + 1) (I : β → World → Prop) (Ix : Code → World → Prop) (hI : AbB B w.heap.size I) (hIx : ∀ c, AbB B w.heap.size (fun (_ : Unit) => Ix c)) (h0 : I b0 w)
    (hT : ∀ r, T0 ((w.alloc (.deferred (some []))).alloc (.loop r)))
    (hassign : ∀ (l : Nat) (v u : Value) (W : World) (K : Act → World → Prop), K { tmps := (((a.tmps.setIfInBounds p v).setIfInBounds p' u).setIfInBounds q v).setIfInBounds q' u, defers := [] } W →
      assign.wpIn (Fence.wide.inRound l) (n - 1 - 1) Tryz.prog (Exit.then K (fun _ _ _ => False)) { tmps := (a.tmps.setIfInBounds p v).setIfInBounds p' u, defers := [] } W)
    (hbody : ∀ (l : Nat) (b : β) (v u : Value) (b' : β) (W : World) (t : γ), w.heap.size ≤ l → R b #[v, u] b' → I b W → Kp t W → body.wpIn (Fence.wide.inRound l) (n - 1 - 1) Tryz.prog (boxPost2 w.heap.size Kp t I Ix b' W) { tmps := (((a.tmps.setIfInBounds p v).setIfInBounds p' u).setIfInBounds q v).setIfInBounds q' u, defers := [] } W)
    (hdone : ∀ (D : Nat) (b : β) (W : World), w.heap.size ≤ D → E b → I b W → W.heap[D]? = some (.deferred (some [])) → Q .normal { a with defers := { target := .collected D, args := #[] } :: a.defers } W)
    (hstop : ∀ (D : Nat) (c : Code) (W : World), w.heap.size ≤ D → Ix c W → W.heap[D]? = some (.deferred (some [])) → c.wpIn Fence.wide n Tryz.prog Q { a with defers := { target := .collected D, args := #[] } :: a.defers } W) :
    (Code.rangeFunc g #[p, p'] assign body).wpIn Fence.wide n Tryz.prog Q a w := by
  have two : ∀ args : Array Value, args.size = 2 → ∃ v u, args = #[v, u] := fun args h => by
    rcases args with ⟨_ | ⟨v, _ | ⟨u, _ | ⟨x, r⟩⟩⟩⟩
    · cases h
    · cases h
    · exact ⟨v, u, rfl⟩
    · simp at h
  refine range_box2 h1 hg eg hseq hKp hps hB0 hB1 I Ix hI hIx h0 hT (fun args => { tmps := (((a.tmps.setIfInBounds p (args.getD 0 undef)).setIfInBounds p' (args.getD 1 undef)).setIfInBounds q (args.getD 0 undef)).setIfInBounds q' (args.getD 1 undef), defers := [] }) ?_ ?_ hdone hstop
  · intro l args W K hs hK
    obtain ⟨v, u, rfl⟩ := two args hs
    have := hassign l v u W K hK
    simpa using this
  · intro l b args b' W t hl hR hi hk
    obtain ⟨v, u, rfl⟩ := two args (hps b args b' hR)
    exact hbody l b v u b' W t hl hR hi hk

theorem allNum_snoc : ∀ {pre : List (List UInt8)} {L : List Int} {a : List UInt8} {x : Int}, allNum pre = some L → numOf a = some x → allNum (pre ++ [a]) = some (L ++ [x])
  | [], L, a, x, h, hx => by simp only [allNum] at h; cases h; simp [allNum, hx]
  | p :: pre, L, a, x, h, hx => by
    simp only [allNum] at h
    cases hp : numOf p with
    | none => rw [hp] at h; cases h
    | some y =>
      rw [hp] at h
      simp only [Option.bind_some] at h
      cases hr : allNum pre with
      | none => rw [hr] at h; cases h
      | some M =>
        rw [hr] at h
        cases h
        simp only [List.cons_append, allNum, hp, Option.bind_some, allNum_snoc hr hx]
        rfl
theorem allNum_none : ∀ {pre : List (List UInt8)} {a : List UInt8} {t : List (List UInt8)}, numOf a = none → allNum (pre ++ a :: t) = none
  | [], a, t, h => by simp [allNum, h]
  | p :: pre, a, t, h => by
    simp only [List.cons_append, allNum]
    rw [allNum_none h]
    cases numOf p <;> rfl
theorem allNum_len : ∀ {pre : List (List UInt8)} {M : List Int}, allNum pre = some M → M.length = pre.length
  | [], M, h => by simp only [allNum] at h; cases h; rfl
  | p :: pre, M, h => by
    simp only [allNum] at h
    cases hp : numOf p with
    | none => rw [hp] at h; cases h
    | some y =>
      rw [hp] at h
      simp only [Option.bind_some] at h
      cases hr : allNum pre with
      | none => rw [hr] at h; cases h
      | some N => rw [hr] at h; cases h; simp [allNum_len hr]
theorem splitT_len (c : UInt8) : ∀ (n : Nat) (s : List UInt8), s.length ≤ n → (splitT c s).length ≤ s.length + 1
  | n, s, hn => by
    rw [splitT]
    split
    · rename_i h
      have hne : s ≠ [] := by rintro rfl; simp [cutL] at h
      have hlt := cutL_lt c hne
      cases n with
      | zero => exact absurd (List.length_eq_zero_iff.1 (by omega)) hne
      | succ n =>
        have := splitT_len c n (cutL c s).2.1 (by omega)
        simp only [List.length_cons]
        omega
    · simp
/-- Between two places. -/
structure PlI (w : World) (pre : List (List UInt8)) (W : World) (L : List Int) (aa : Option Addr) (ac : Nat) : Prop where
  box : W.heap[w.heap.size + 2]? = some (.cells #[.slice aa L.length ac] 38 (0, 0))
  nums : allNum pre = some L
  row : W.ownsRow (w.heap.size + 10) 3 1 (.slice aa L.length ac) L.length (L.map (.int .i64))
  res : W.heap[w.heap.size]? = some (.cells #[.slice none 0 0] 38 (0, 0))
  ok : W.heap[w.heap.size + 1]? = some (.cells #[.bool false] 4 (0, 0))
  low : Below w.heap.size w W
theorem PlI.free {w : World} {pre : List (List UInt8)} {W Y : World} {L : List Int} {aa : Option Addr} {ac : Nat} {row : Option Nat} (h : PlI w pre W L aa ac) (hg : W.grownBy Y row) (hr : ∀ r, row = some r → r = w.heap.size + 7 ∨ (w.heap.size + 4 ≤ r ∧ ∃ o : Obj, W.heap[r]? = some o ∧ o.isCells = false)) : PlI w pre Y L aa ac := by
  have hr' : ∀ r, row = some r → r = w.heap.size + 7 ∨ (∃ o : Obj, W.heap[r]? = some o ∧ o.isCells = false) := fun r e => (hr r e).imp id And.right
  refine ⟨blk_free h.box (by omega) hg hr', h.nums, own_free h.row (by omega) hg hr', blk_free h.res (by omega) hg hr', blk_free h.ok (by omega) hg hr', h.low.grown hg h.low.size (fun j hj => ?_)⟩
  rcases hr j hj with rfl | ⟨h1, _⟩ <;> omega
structure PlX (w : World) (t0 : List UInt8) (W : World) : Prop where
  bad : allNum (splitT 44 t0) = none
  res : W.heap[w.heap.size]? = some (.cells #[.slice none 0 0] 38 (0, 0))
  ok : W.heap[w.heap.size + 1]? = some (.cells #[.bool false] 4 (0, 0))
  low : Below w.heap.size w W
theorem PlX.free {w : World} {t0 : List UInt8} {W Y : World} {row : Option Nat} (h : PlX w t0 W) (hg : W.grownBy Y row) (hr : ∀ r, row = some r → r = w.heap.size + 7 ∨ (w.heap.size + 4 ≤ r ∧ ∃ o : Obj, W.heap[r]? = some o ∧ o.isCells = false)) : PlX w t0 Y := by
  have hr' : ∀ r, row = some r → r = w.heap.size + 7 ∨ (∃ o : Obj, W.heap[r]? = some o ∧ o.isCells = false) := fun r e => (hr r e).imp id And.right
  refine ⟨h.bad, blk_free h.res (by omega) hg hr', blk_free h.ok (by omega) hg hr', h.low.grown hg h.low.size (fun j hj => ?_)⟩
  rcases hr j hj with rfl | ⟨h1, _⟩ <;> omega

set_option maxHeartbeats 4000000 in
set_option maxRecDepth 100000 in
theorem places_ok : PlacesOk := by
  intro s w hs he
  obtain ⟨t0, hl⟩ : ∃ l, s.data.toList = l := ⟨_, rfl⟩
  have hsb : s = bA t0 := by rw [← hl, bA_list]
  have hll : t0.length ≤ 1000000 := by rw [← hl, size_list]; exact hs
  rw [hl]
  subst hsb
  clear hs hl
  refine (callsIn_wide (n := 9)).1 ?_
  refine callsIn_of_wp_marks Tryz.func80 rfl trivial ?_ rfl
  simp only [Tryz.ntmps80, List.size_toArray, List.length_cons, List.length_nil, Nat.reduceAdd, Nat.reduceSub, Array.replicate_succ, Array.replicate_zero, List.push_toArray, List.append_toArray, List.nil_append, List.cons_append]
  gi_wp2_with (refine ⟨trivial, ?_⟩; gi_at_call 111; refine (callsIn_wide.2 (numbers_any _ _)).mono ?_; rintro e w5 ⟨rfl, rfl⟩)
  rename_i K0 hK0
  obtain ⟨y0, y1, y2, y3, y4, y5⟩ := four_alloc w (.cells #[.slice none 0 0] 38) (.cells #[.bool false] 4) (.cells #[.slice none 0 0] 38) (.cells #[.string (bA t0)] 9)
  have hlow := y5
  have he4 := he.below y5
  have hq4 : 4 < w.heap.size := by obtain ⟨⟨_, _, h⟩, _⟩ := he; exact cell_lt h
  have hq5 : 5 < w.heap.size := by obtain ⟨_, _, _, h⟩ := he; exact cell_lt h
  have HE := mkH he
  clear he
  generalize (((w.alloc (.cells #[.slice none 0 0] 38)).alloc (.cells #[.bool false] 4)).alloc (.cells #[.slice none 0 0] 38)).alloc (.cells #[.string (bA t0)] 9) = w4 at *
  have e2 : w.heap.size + 1 + 1 = w.heap.size + 2 := rfl
  have e3 : w.heap.size + 2 + 1 = w.heap.size + 3 := rfl
  rw [e2, e3]
  refine range_box22 5 6 (by decide) rfl (fun _ _ => rfl) (numbers_iter 8 (w.heap.size + 6) (w.heap.size + 3) (by decide) t0 hll) (fun v X o o' h ho hc => ?kp) (fun b args b' ⟨_, _, _, _, h, _⟩ => by rw [h]; rfl) (by omega) (by omega) (fun pre W => ∃ L aa ac, PlI w pre W L aa ac) (fun c W => c = .ret ∧ PlX w t0 W) ?ab ?abx ?h0 ?hT ?hassign ?hbody ?hdone ?hstop
  case kp =>
    rw [y0] at ho ⊢
    refine ⟨h.sp.kept ho hc, ?_, errB_free h.err (B := w.heap.size + 5) (by omega) (by omega) (grownBy_putObj' X _ _) (fun r e => by injection e with e; exact .inl e.symm), (World.putObj_heap_other (by omega)).trans h.yb⟩
    exact h.keep.trans (KeepsFrom.of_grownBy (grownBy_putObj' X _ _) (fun j hj => by injection hj with hj; omega))
  case ab =>
    rintro pre X Y row ⟨L, aa, ac, hI⟩ hg hr
    exact ⟨L, aa, ac, hI.free hg (fun r e => (hr r e).imp id (fun h => ⟨by have := h.1; omega, h.2⟩))⟩
  case abx =>
    rintro c b X Y row ⟨hc, hX⟩ hg hr
    exact ⟨hc, hX.free hg (fun r e => (hr r e).imp id (fun h => ⟨by have := h.1; omega, h.2⟩))⟩
  case h0 => exact ⟨[], none, 0, y3, rfl, ⟨rfl, .inl ⟨rfl, rfl⟩⟩, y1, y2, hlow⟩
  case hT =>
    intro r
    obtain ⟨x0, _, _, x3⟩ := two_alloc w4 (.deferred (some [])) (.loop r)
    exact ⟨by rw [x0, y0], (x3.block _ (blk_lt y4)).trans y4, he4.below x3⟩
  case hassign =>
    intro l v u W K hK
    gi_wp2
    exact hK
  case hbody =>
    rintro l pre v u pre' W t hl ⟨a, t', n, er, hv, hsp, rfl, hcs⟩ ⟨L, aa, ac, hI⟩ hk
    cases hv
    have HI := mkH hI
    have HK := mkH hk
    have hbs : w.heap.size + 10 ≤ W.heap.size := blk_lt hk.sp.save
    rcases hcs with ⟨hn, rfl⟩ | ⟨hn, t1, x1, rfl⟩
    · have HN := mkH (allNum_snoc hI.nums hn)
      have hlen : L.length ≤ 1000001 := by
        have h1 := allNum_len hI.nums
        have h2 := splitT_len 44 _ t0 (Nat.le_refl _)
        rw [hsp] at h2
        simp only [List.length_append, List.length_cons] at h2
        omega
      have HA8 : Hid (Below W.heap.size W (W.alloc (.cells #[.int .i64 n] 3))) := mkH ((Below.refl _ _).alloc (Nat.le_refl _) _)
      have HROW := mkH (own_up hI.row HA8.out)
      obtain ⟨x0, xf⟩ := cell1 hI.box
      obtain ⟨iI, hi1, hi2⟩ := Option.map_eq_some_iff.1 infoI
      simp only [Prod.mk.injEq] at hi2
      have HIA := mkH (And.intro hi1 hi2)
      clear hi1 hi2 hI hk hsp hn y1 y2 y3 y4
      gi_wp2_with (first
        | (gi_at_builtin; refine wpListIn_append_own _ rfl _ _ 38 rfl (w.heap.size + 10) 3 iI zeroI 1 8 Tryz.underlying38 HIA.out.1 HIA.out.2.1 HIA.out.2.2.1 HIA.out.2.2.2 rfl (by decide) (.slice aa L.length ac) L.length (L.map (.int .i64)) rfl HROW.out ⟨W.heap.size, 0, none⟩ 1 1 [.int .i64 n] rfl rfl (fun j u hj => World.news_of_block (heap_alloc_new _ _) j u hj) (by intro u hu; simp at hu; subst hu; rfl) (by unfold maxLen; omega) (by omega) (Nat.le_trans hbs HA8.out.size) ?_
           intro v1 w9 hown9 hg9 _
           obtain ⟨a', c', rfl⟩ := own_sl hown9
           have HO9 := mkH hown9
           have HG9 := mkH hg9
           have HY1 := mkH ((hg9.block (w.heap.size + 2) (Nat.lt_of_lt_of_le (blk_lt HI.out.box) HA8.out.size) (fun e => by have := own_blk HROW.out e.symm; omega)).trans ((HA8.out.block _ (blk_lt HI.out.box)).trans HI.out.box))
           obtain ⟨z0, zf⟩ := cell1 HY1.out
           clear hown9 hg9))
      clear z0 zf x0 xf
      have hup0 : ∀ b, b < w.heap.size + 10 → b ≠ w.heap.size + 2 → (w9.setCell ⟨w.heap.size + 2, 0, none⟩ (.slice a' (L.length + 1) c')).heap[b]? = W.heap[b]? := fun b hb hne =>
        ((grown_setC w9 (w.heap.size + 2) 0 _).block b (Nat.lt_of_lt_of_le (by omega) (Nat.le_trans HA8.out.size HG9.out.size)) (fun e => by injection e with e; omega)).trans ((HG9.out.block b (Nat.lt_of_lt_of_le (by omega) HA8.out.size) (fun e => by have := own_blk HROW.out e.symm; omega)).trans (HA8.out.block b (by omega)))
      have hkf : ∀ q, w.heap.size + 3 ≤ q → KeepsFrom q W (w9.setCell ⟨w.heap.size + 2, 0, none⟩ (.slice a' (L.length + 1) c')) := fun q hq => keeps_setC (keeps_row (keeps_below HA8.out) HROW.out HG9.out) (by omega)
      have hlw : Below w.heap.size w (w9.setCell ⟨w.heap.size + 2, 0, none⟩ (.slice a' (L.length + 1) c')) := by
        have h1 := Below.ups HI.out.low HA8.out
        exact (h1.grown HG9.out h1.size (fun j hj => by have := own_blk HROW.out hj; omega)).setCell (p := ⟨w.heap.size + 2, 0, none⟩) (by show w.heap.size ≤ w.heap.size + 2; omega) _
      refine ⟨hkf _ (by omega), ⟨L ++ [n], a', c', ?_, HN.out, ?_, (hup0 _ (by omega) (by omega)).trans HI.out.res, (hup0 _ (by omega) (by omega)).trans HI.out.ok, hlw⟩, ⟨⟨(hup0 _ (by omega) (by omega)).trans HK.out.sp.txt, (hup0 _ (by omega) (by omega)).trans HK.out.sp.sep, (hup0 _ (by omega) (by omega)).trans HK.out.sp.save⟩, HK.out.keep.trans (hkf _ (by omega)), HE.out.below hlw, (hup0 _ (by omega) (by omega)).trans HK.out.yb⟩⟩
      · rw [List.length_append]
        exact heap_setC w9 (w.heap.size + 2) 0 _ _ _ HY1.out
      · rw [List.length_append, List.map_append]
        exact own_setC HO9.out (by omega)
    · have HN : Hid (allNum (splitT 44 t0) = none) := mkH (by rw [hsp]; exact allNum_none hn)
      obtain ⟨x0, xf⟩ := cell1 hI.res
      obtain ⟨x1, xg⟩ := cell1 hI.ok
      clear hI hk hsp hn y1 y2 y3 y4
      gi_wp2
      have hlw : Below w.heap.size w ((W.setCell ⟨w.heap.size, 0, none⟩ (.slice none 0 0)).setCell ⟨w.heap.size + 1, 0, none⟩ (.bool false)) := (HI.out.low.setCell (p := ⟨w.heap.size, 0, none⟩) (Nat.le_refl _) _).setCell (p := ⟨w.heap.size + 1, 0, none⟩) (Nat.le_succ _) _
      have hkf : ∀ q, w.heap.size + 2 ≤ q → KeepsFrom q W ((W.setCell ⟨w.heap.size, 0, none⟩ (.slice none 0 0)).setCell ⟨w.heap.size + 1, 0, none⟩ (.bool false)) := fun q hq => keeps_setC (keeps_setC (KeepsFrom.refl _ _) (by omega)) (by omega)
      have hup0 : ∀ b, b < W.heap.size → w.heap.size + 1 < b → ((W.setCell ⟨w.heap.size, 0, none⟩ (.slice none 0 0)).setCell ⟨w.heap.size + 1, 0, none⟩ (.bool false)).heap[b]? = W.heap[b]? := fun b hb hne =>
        ((grown_setC _ (w.heap.size + 1) 0 _).block b (Nat.lt_of_lt_of_le hb (grown_setC W w.heap.size 0 _).size) (fun e => by injection e with e; omega)).trans ((grown_setC W w.heap.size 0 _).block b hb (fun e => by injection e with e; omega))
      refine ⟨hkf _ (by omega), ⟨rfl, HN.out, ?_, ?_, hlw⟩, ⟨⟨(hup0 _ (by omega) (by omega)).trans HK.out.sp.txt, (hup0 _ (by omega) (by omega)).trans HK.out.sp.sep, (hup0 _ (by omega) (by omega)).trans HK.out.sp.save⟩, HK.out.keep.trans (hkf _ (by omega)), HE.out.below hlw, (hup0 _ (by omega) (by omega)).trans HK.out.yb⟩⟩
      · exact keep_setC (heap_setC W _ 0 _ _ _ HI.out.res) (by omega)
      · exact heap_setC _ _ 0 _ _ _ (keep_setC HI.out.ok (by omega))
  case hdone =>
    rintro D pre W hD rfl ⟨L, aa, ac, hI⟩ hd
    rw [y0] at hD
    clear y0 y1 y2 y3 y4 y5 hlow he4
    refine hK0 _ _ ?_
    clear hK0
    obtain ⟨x0, xf⟩ := cell1 hI.box
    obtain ⟨r0, rf⟩ := cell1 hI.res
    obtain ⟨o0, of⟩ := cell1 hI.ok
    have HI := mkH hI
    have HD := mkH hd
    clear hI hd
    gi_wp2
    clear x0 xf r0 rf o0 of
    have hX1 := heap_setC W w.heap.size 0 _ _ (.slice aa L.length ac) HI.out.res
    have hX2 : (W.setCell ⟨w.heap.size, 0, none⟩ (.slice aa L.length ac)).heap[w.heap.size + 1]? = _ := keep_setC HI.out.ok (by omega)
    have hX3 := keep_setC (q := w.heap.size + 1) (i := 0) (v := .bool true) hX1 (by omega)
    have hX4 := heap_setC _ (w.heap.size + 1) 0 _ _ (.bool true) hX2
    have hX5 : ((W.setCell ⟨w.heap.size, 0, none⟩ (.slice aa L.length ac)).setCell ⟨w.heap.size + 1, 0, none⟩ (.bool true)).heap[D]? = _ := keep_setC (keep_setC HD.out (by omega)) (by omega)
    have hX6 : Below w.heap.size w ((W.setCell ⟨w.heap.size, 0, none⟩ (.slice aa L.length ac)).setCell ⟨w.heap.size + 1, 0, none⟩ (.bool true)) := (HI.out.low.setCell (p := ⟨w.heap.size, 0, none⟩) (Nat.le_refl _) _).setCell (p := ⟨w.heap.size + 1, 0, none⟩) (Nat.le_succ _) _
    have hX7 := own_setC (b := w.heap.size + 1) (i := 0) (u := .bool true) (own_setC (b := w.heap.size) (i := 0) (u := .slice aa L.length ac) HI.out.row (by omega)) (by omega)
    change LeavesInM _ _ _ _ _ _ _ _ ((W.setCell ⟨w.heap.size, 0, none⟩ (.slice aa L.length ac)).setCell ⟨w.heap.size + 1, 0, none⟩ (.bool true))
    generalize (W.setCell ⟨w.heap.size, 0, none⟩ (.slice aa L.length ac)).setCell ⟨w.heap.size + 1, 0, none⟩ (.bool true) = X at *
    refine ⟨by simp, .inl ⟨_, _, rfl, run_takeDeferred hX5, ?_⟩⟩
    have hr9 : (X.putObj D (.deferred none)).heap[w.heap.size]? = _ := (World.putObj_heap_other (by omega)).trans hX3
    have ho9 : (X.putObj D (.deferred none)).heap[w.heap.size + 1]? = _ := (World.putObj_heap_other (by omega)).trans hX4
    have hl9 : Below w.heap.size w (X.putObj D (.deferred none)) := hX6.grown (grownBy_putObj' X D _) hX6.size (fun j hj => by injection hj with hj; omega)
    have hw9 : (X.putObj D (.deferred none)).ownsRow w.heap.size 3 1 (.slice aa L.length ac) L.length (L.map (.int .i64)) := own_base (own_free (B := w.heap.size) hX7 (by omega) (grownBy_putObj' X D _) (fun r e => by injection e with e; subst e; exact .inr ⟨_, hX5, rfl⟩)) (by omega)
    generalize X.putObj D (.deferred none) = W9 at *
    obtain ⟨x0, _⟩ := cell1 hr9
    obtain ⟨xb, _⟩ := cell1 ho9
    refine ⟨.tuple #[.slice aa L.length ac, .bool true], ?_, aa, L.length, ac, true, rfl, hl9, .inl ⟨rfl, L, HI.out.nums, rfl, hw9⟩⟩
    simp [results, Tryz.f80, go_sem, x0, xb]
  case hstop =>
    rintro D c W hD ⟨rfl, hX⟩ hd
    gi_wp2
    rw [y0] at hD
    refine ⟨by simp, .inl ⟨_, _, rfl, run_takeDeferred hd, ?_⟩⟩
    have hr9 : (W.putObj D (.deferred none)).heap[w.heap.size]? = _ := (World.putObj_heap_other (by omega)).trans hX.res
    have ho9 : (W.putObj D (.deferred none)).heap[w.heap.size + 1]? = _ := (World.putObj_heap_other (by omega)).trans hX.ok
    have hl9 : Below w.heap.size w (W.putObj D (.deferred none)) := hX.low.grown (grownBy_putObj' W D _) hX.low.size (fun j hj => by injection hj with hj; omega)
    generalize W.putObj D (.deferred none) = W9 at *
    obtain ⟨x0, _⟩ := cell1 hr9
    obtain ⟨xb, _⟩ := cell1 ho9
    refine ⟨.tuple #[.slice none 0 0, .bool false], ?_, none, 0, 0, false, rfl, hl9, .inr ⟨rfl, hX.bad⟩⟩
    clear hK0
    simp [results, Tryz.f80, go_sem, x0, xb]
end Go.Proofs.YtfppidnfomelpaaGreatDoor
