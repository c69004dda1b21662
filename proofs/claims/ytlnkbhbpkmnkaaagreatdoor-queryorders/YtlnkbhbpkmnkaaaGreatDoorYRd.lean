/- What query.sum, column and comes do, said of every call. -/
import Derived.Test.YtlnkbhbpkmnkaaaGreatDoorYTg
import Derived.Defers
import Derived.Recover
import Derived.Test.YtlnkbhbpkmnkaaaGreatDoorW1
namespace Go.Proofs.YtlnkbhbpkmnkaaaGreatDoor
open Go.RowKit Go.Proofs Go.Lib Go.Joins Go.Proofs.YtlnkbhbpkmnkaaaGreatDoor.Ask

def encS (s : ByteArray) : List Value := [.string s]
/-- What is asked lies in memory. -/
def QAt (W : World) (q : QQ) (iv bv ov : Value) : Prop := F.SlE 2 encI W iv ((q.x :: q.l).map itB) ∧ F.SlE 1 encS W bv (q.byn.toList.map bA) ∧ F.OrdAt W ov q.ord.toList
structure QIn (lo : Nat) (q : QQ) (iv bv ov : Value) (W : World) : Prop where
  its : ∃ base, lo < base ∧ W.ownsRow base 120 2 iv (q.l.length + 1) (((q.x :: q.l).map itB).flatMap encI)
  bys : BysAt W lo bv q.byn
  ords : OrdsAt W lo ov q.ord
theorem Q3.in {w W : World} {B : Nat} {q : QQ} {iv bv ov : Value} (h : Q3 w B q iv bv ov W) : QIn (w.heap.size + 1 + 1) q iv bv ov W := ⟨h.its, h.bys, h.ords⟩
theorem BysAt.low {W : World} {a b : Nat} {bv : Value} {o : Option (List UInt8)} (h : BysAt W a bv o) (hl : b ≤ a) : BysAt W b bv o := by
  cases o with
  | none => exact h
  | some n => obtain ⟨g, e, h1, h2⟩ := h; exact ⟨g, e, by omega, h2⟩
theorem OrdsAt.low {W : World} {a b : Nat} {bv : Value} {o : Option (Nat × Bool)} (h : OrdsAt W a bv o) (hl : b ≤ a) : OrdsAt W b bv o := by
  cases o with
  | none => exact h
  | some n => obtain ⟨g, e, h1, h2⟩ := h; exact ⟨g, e, by omega, h2⟩
theorem QIn.put {lo : Nat} {W : World} {q : QQ} {iv bv ov : Value} (h : QIn lo q iv bv ov W) {b : Nat} (hb : b ≤ lo) (i : Nat) (u : Value) : QIn lo q iv bv ov (W.setCell ⟨b, i, none⟩ u) where
  its := by obtain ⟨c, hc, ho⟩ := h.its; exact ⟨c, hc, own_set ho (by omega)⟩
  bys := h.bys.keep fun g hg _ => Below.heap_setCell W ⟨b, i, none⟩ u g (by show ¬ g = b; omega)
  ords := h.ords.keep fun g hg _ => Below.heap_setCell W ⟨b, i, none⟩ u g (by show ¬ g = b; omega)
theorem QIn.up {lo : Nat} {W V : World} {q : QQ} {iv bv ov : Value} (h : QIn lo q iv bv ov W) (hb : Below W.heap.size W V) : QIn lo q iv bv ov V where
  its := by obtain ⟨c, hc, ho⟩ := h.its; exact ⟨c, hc, own_up ho hb⟩
  bys := h.bys.keep fun g _ hl => hb.block g hl
  ords := h.ords.keep fun g _ hl => hb.block g hl
theorem QIn.past {lo B : Nat} {W V : World} {q : QQ} {iv bv ov : Value} (h : QIn lo q iv bv ov W) (hB : B ≤ lo) (hp : Past B W V) : QIn lo q iv bv ov V where
  its := by obtain ⟨c, hc, ho⟩ := h.its; exact ⟨c, hc, own_past ho (by omega) hp⟩
  bys := h.bys.keep fun g hg hl => hp.keep g hl (by omega)
  ords := h.ords.keep fun g hg hl => hp.keep g hl (by omega)
theorem QIn.at {lo : Nat} {W : World} {q : QQ} {iv bv ov : Value} (h : QIn lo q iv bv ov W) : QAt W q iv bv ov := by
  refine ⟨?_, ?_, ?_⟩
  · obtain ⟨b, _, ho⟩ := h.its
    exact F.SlE.of_own (k := 2) (enc := encI) (fun _ => rfl) ho (by simp)
  · have hb := h.bys
    cases hq : q.byn with
    | none =>
      rw [hq] at hb
      exact ⟨none, 0, hb, Nat.le_refl _, fun h => absurd rfl h⟩
    | some n =>
      rw [hq] at hb
      obtain ⟨g, e, _, hh⟩ := hb
      refine ⟨_, 1, e, Nat.le_refl _, fun _ => ⟨g, 0, rfl, blk_lt hh, fun j x hj i u hu => ?_⟩⟩
      cases j with
      | succ j => simp at hj
      | zero =>
        simp at hj
        subst hj
        cases i with
        | succ i => simp [encS] at hu
        | zero =>
          simp [encS] at hu
          subst hu
          exact cell_of_block hh 0
  · have hb := h.ords
    cases hq : q.ord with
    | none =>
      rw [hq] at hb
      exact ⟨none, 0, hb, Nat.le_refl _, fun h => absurd rfl h⟩
    | some n =>
      rw [hq] at hb
      obtain ⟨g, e, _, hh⟩ := hb
      refine ⟨_, 1, e, Nat.le_refl _, fun _ => ⟨g, 0, rfl, blk_lt hh, fun j x hj => ?_⟩⟩
      cases j with
      | succ j => simp at hj
      | zero =>
        simp at hj
        subst hj
        exact ⟨cell_of_block hh 0, cell_of_block hh 1⟩
theorem QIn.forms {lo : Nat} {W : World} {q : QQ} {iv bv ov : Value} (h : QIn lo q iv bv ov W) : (∃ a n c, iv = .slice a n c) ∧ (∃ a n c, bv = .slice a n c) ∧ ∃ a n c, ov = .slice a n c := by
  refine ⟨?_, h.bys.slice, h.ords.slice⟩
  obtain ⟨b, _, ho⟩ := h.its
  obtain ⟨a, c, e⟩ := own_sl ho
  exact ⟨a, _, c, e⟩
def zQ : Obj := .cells #[.slice none 0 0, .pointer none, .slice none 0 0, .slice none 0 0, .int .i64 0] 49
set_option maxHeartbeats 2000000 in
set_option maxRecDepth 100000 in
theorem parse1_any (B : Nat) (q : QQ) (w : World) (hr : Rd w B (qT q)) (hq : QOk q) (hw : GB w) (hB : 10 ≤ B) :
    Calls Tryz.prog 37 #[.pointer (some ⟨B, 0, none⟩)] w fun e w' => ∃ iv bv ov, e = .returned (.agg #[iv, .pointer none, bv, ov, .int .i64 (limN q.lim)]) ∧ QIn w.heap.size q iv bv ov w' ∧ Rd w' B [] ∧ Past B w w' := by
  have HBL := mkH hr.lt
  have HQ := mkH (fun o => query_any B q (w.alloc o) (hr.alloc o) hq (hw.below ((Below.refl _ _).alloc (Nat.le_refl _) _)) hB)
  have HZ0 : Hid (QBox (w.alloc (.cells #[.slice none 0 0, .pointer none, .slice none 0 0, .slice none 0 0, .int .i64 0] 49)) w.heap.size (.slice none 0 0) (.slice none 0 0) (.slice none 0 0) 0) := mkH (heap_alloc_new _ _)
  clear hr hq hw
  go_enter Tryz.func37, Tryz.ntmps37
  go_wp2_with fail
  with_reducible refine (HQ.out _).mono ?_
  rintro e w1 ⟨iv, bv, ov, rfl, h3, hr1⟩
  have hzn : w.heap.size ≠ B := by have := HBL.out; omega
  have hz1 := HZ0.out.past h3.past hzn
  have HP1 : Hid (Past B w w1) := mkH (Past.in (Nat.le_of_lt HBL.out) ((Below.refl _ _).alloc (Nat.le_refl _) _) h3.past)
  have HI0 := h3.in
  rw [World.size_alloc] at HI0
  have HI1 : Hid (QIn w.heap.size q iv bv ov w1) := mkH ⟨by obtain ⟨b, hb, ho⟩ := HI0.its; exact ⟨b, by omega, ho⟩, HI0.bys.low (by omega), HI0.ords.low (by omega)⟩
  have HR1 := mkH hr1
  have HZ1 := mkH hz1
  clear h3 hr1 HI0 HZ0 HQ
  obtain ⟨⟨ia, im, ic, rfl⟩, ⟨ba, bn, bc, rfl⟩, ⟨oa, on, oc, rfl⟩⟩ := HI1.out.forms
  obtain ⟨d0, d1, d2, d3, d4⟩ := hz1.cells
  obtain ⟨f0, f1, f2, f3, f4⟩ := hz1.free
  clear hz1
  go_wp2
  refine bodyPost_ret (v := .agg #[.slice ia im ic, .pointer none, .slice ba bn bc, .slice oa on oc, .int .i64 (limN q.lim)]) ?_ rfl ?_
  · simp [results, Tryz.results37, go_sem, d0, d1, d2, d3, d4]
  · exact ⟨_, _, _, rfl, ((((HI1.out.put (Nat.le_refl _) 0 _).put (Nat.le_refl _) 1 _).put (Nat.le_refl _) 2 _).put (Nat.le_refl _) 3 _).put (Nat.le_refl _) 4 _, HR1.out.putZ HZ1.out hzn _ _ _ _ _, ((((HP1.out.put HBL.out (Nat.le_refl _) _ _).put HBL.out (Nat.le_refl _) _ _).put HBL.out (Nat.le_refl _) _ _).put HBL.out (Nat.le_refl _) _ _).put HBL.out (Nat.le_refl _) _ _⟩
/-- A reader of one's own is laid. -/
theorem Rd.make {W : World} {g c : Nat} {ts : List Tok} (hl : Lies W g 0 ts) (hc : ts.length + 1 ≤ c) : Rd (W.alloc (.cells #[.slice (some ⟨g, 0, none⟩) (ts.length + 1) c] 116)) W.heap.size ts := by
  have hg : g < W.heap.size := by
    obtain ⟨_, _, q, _⟩ := hl.head
    exact blk_lt q
  have hk := heap_alloc_new W (.cells #[.slice (some ⟨g, 0, none⟩) (ts.length + 1) c] 116)
  refine ⟨⟨g, 0, c, by rw [cellsAt hk]; rfl, hc, by omega, hl.same (Below.heap_alloc _ _ _ hg)⟩, ?_⟩
  unfold World.frozen?
  rw [hk]
  rfl
set_option maxHeartbeats 4000000 in
set_option maxRecDepth 100000 in
theorem qcatch_idle (p : Addr) (w : World) :
    CallsD Tryz.prog 61 #[.pointer (some p)] .returning w fun e u' w' => e = .returned (.tuple #[]) ∧ u' = .returning ∧ w' = w := by
  refine callsD_of_wpS Tryz.func61 rfl fun c₀ cs hu => ?_
  apply wpS_seq
  apply wpS_region
  simp [wpOpsS, go_sem, recoverD, hu, Tryz.ntmps61, Exit.thenS]
  refine wpS_of_wp ?_
  change Code.wp Tryz.prog _ _ { tmps := #[.pointer (some p), .nilIface, undef, undef, .nilIface, undef, undef, undef, undef, undef, undef, undef, undef, undef, undef, undef, undef], defers := [] } w
  go_wp2
  cases c₀
  simp_all [bodyPostS, results, Tryz.results61]
/-- Where what was thrown would be caught. -/
structure Caught (w W : World) : Prop where
  low : Below w.heap.size w W
  z : QBox W w.heap.size (.slice none 0 0) (.slice none 0 0) (.slice none 0 0) 0
  box : W.heap[w.heap.size + 1]? = some (.cells #[.nilIface] 51)
theorem Caught.up {w W V : World} (h : Caught w W) (hb : Below W.heap.size W V) : Caught w V :=
  ⟨h.low.trans (hb.mono h.low.size), (hb.block _ (blk_lt h.z)).trans h.z, (hb.block _ (blk_lt h.box)).trans h.box⟩
theorem Caught.past {w W V : World} {B : Nat} (h : Caught w W) (hB : w.heap.size + 1 < B) (hp : Past B W V) : Caught w V :=
  ⟨h.low.trans (hp.low.mono (by omega)), (hp.keep _ (blk_lt h.z) (by omega)).trans h.z, (hp.keep _ (blk_lt h.box) (by omega)).trans h.box⟩
set_option maxHeartbeats 8000000 in
set_option maxRecDepth 100000 in
theorem whole_any (s : ByteArray) (q : QQ) (w : World) (hs : s.size ≤ 1000000) (hT : TS 0 s.data.toList (some (qT q))) (hq : QOk q) (hm : MkB w) (hg : GB w) (hw : 10 ≤ w.heap.size) :
    Calls Tryz.prog 36 #[.string s, .func (.func 37) #[] #[]] w fun e w' => ∃ iv bv ov, e = .returned (.tuple #[.agg #[iv, .pointer none, bv, ov, .int .i64 (limN q.lim)], .nilIface]) ∧ (∃ lo, w.heap.size ≤ lo ∧ QIn lo q iv bv ov w') ∧ Below w.heap.size w w' := by
  have hmf := hmfA
  have HTK : Hid (∀ V, Below w.heap.size w V → Calls Tryz.prog 62 #[.string s] V (fun e w' => ∃ g c, e = .returned (.slice (some ⟨g, 0, none⟩) ((qT q).length + 1) c) ∧ (qT q).length + 1 ≤ c ∧ Lies w' g 0 (qT q) ∧ Below V.heap.size V w')) := mkH (fun V hb => (tokens_any s V hs (hm.below hb)).mono fun e w' h => by
    obtain ⟨o, h1, h2, h3⟩ := h
    have := ts_one hT _ h1
    subst this
    rcases h3 with ⟨h, _⟩ | ⟨ts, g, c, e1, e2, e3, _, e5, _⟩
    · cases h
    · injection e1 with e1
      subst e1
      exact ⟨g, c, e2, e3, e5, h2⟩)
  have HG : Hid (∀ V, Below w.heap.size w V → GB V) := mkH fun V hb => hg.below hb
  clear hm hg hs hT
  go_enter_defers Tryz.func36, Tryz.ntmps36
  go_wp2_with fail
  have hb1 : Below w.heap.size w ((w.alloc (.cells #[.slice none 0 0, .pointer none, .slice none 0 0, .slice none 0 0, .int .i64 0] 49)).alloc (.cells #[.nilIface] 51)) := ((Below.refl _ _).alloc (Nat.le_refl _) _).alloc (by simp) _
  have HA0 : Hid (Caught w ((w.alloc (.cells #[.slice none 0 0, .pointer none, .slice none 0 0, .slice none 0 0, .int .i64 0] 49)).alloc (.cells #[.nilIface] 51))) := mkH ⟨hb1, by unfold QBox; rw [Below.heap_alloc _ _ _ (by simp)]; exact heap_alloc_new _ _, by have := heap_alloc_new (w.alloc (.cells #[.slice none 0 0, .pointer none, .slice none 0 0, .slice none 0 0, .int .i64 0] 49)) (.cells #[.nilIface] 51); rwa [World.size_alloc] at this⟩
  clear hb1
  refine (HTK.out _ HA0.out.low).mono ?_
  rintro e w1 ⟨g, c, rfl, hc, hli, hb1⟩
  have HA1 := mkH (HA0.out.up hb1)
  have HR2 := mkH (Rd.make hli hc)
  have hbA : ∀ o, Below w1.heap.size w1 (w1.alloc o) := fun o => (Below.refl _ _).alloc (Nat.le_refl _) _
  have HA2 := mkH (fun o => HA1.out.up (hbA o))
  have hs1 : w.heap.size + 1 < w1.heap.size := blk_lt HA1.out.box
  have HP2 := mkH (fun o V hr => parse1_any w1.heap.size q (w1.alloc o) hr hq (HG.out _ (HA2.out o).low) V)
  clear hb1 hli HTK HA0 hbA
  go_wp2_with fail
  with_reducible refine (HP2.out _ (by omega) HR2.out).mono ?_
  rintro e w3 ⟨iv, bv, ov, rfl, hq3, hr3, hp3⟩
  have HA3 := mkH ((HA2.out _).past hs1 hp3)
  have HR3 := mkH hr3
  have HQ3 := mkH hq3
  obtain ⟨⟨ia, im, ic, rfl⟩, ⟨ba, bn, bc, rfl⟩, ⟨oa, on, oc, rfl⟩⟩ := hq3.forms
  clear hq3 hr3 hp3 HP2 HA2 HA1 HR2
  generalize hS1 : w1.heap.size = S at *
  obtain ⟨lo, hS, HQ3⟩ : ∃ lo, S ≤ lo ∧ Hid (QIn lo q (.slice ia im ic) (.slice ba bn bc) (.slice oa on oc) w3) := ⟨S, Nat.le_refl _, by have h := HQ3.out; rw [World.size_alloc, hS1] at h; exact mkH ⟨by obtain ⟨b, hb, ho⟩ := h.its; exact ⟨b, by omega, ho⟩, h.bys.low (by omega), h.ords.low (by omega)⟩⟩
  clear hS1
  have hSl : S < w3.heap.size := HR3.out.lt
  have HK : Hid (∀ o, Calls Tryz.prog 63 #[.pointer (some ⟨S, 0, none⟩), .int .i64 0, .string ⟨#[]⟩] (w3.alloc o) fun e w' => e = .returned (.tuple #[]) ∧ Past S (w3.alloc o) w') := mkH (fun o => (needs_any S 0 [] [] (w3.alloc o) (HR3.out.alloc o) (by simp)).mono fun e w' h => by
    obtain ⟨hp4, ⟨_, h, _⟩ | ⟨q4, _⟩⟩ := h
    · exact ⟨h, hp4⟩
    · exact absurd q4 (by decide))
  have HT3 : Hid (QBox (w3.alloc (.cells #[.slice ia im ic, .pointer none, .slice ba bn bc, .slice oa on oc, .int .i64 (limN q.lim)] 49)) w3.heap.size (.slice ia im ic) (.slice ba bn bc) (.slice oa on oc) (limN q.lim)) := mkH (heap_alloc_new _ _)
  have hA4 := fun o => HA3.out.up (V := w3.alloc o) ((Below.refl _ _).alloc (Nat.le_refl _) _)
  have hQ4 := fun o => HQ3.out.up (V := w3.alloc o) ((Below.refl _ _).alloc (Nat.le_refl _) _)
  have HA4' := mkH hA4
  have HQ4' := mkH hQ4
  clear hA4 hQ4
  go_wp2_with fail
  with_reducible refine (HK.out _).mono ?_
  rintro e w4 ⟨rfl, hp4⟩
  have HA4 := mkH ((HA4'.out _).past hs1 hp4)
  have HQ4 := mkH ((HQ4'.out _).past hS hp4)
  have ht4 := HT3.out.past hp4 (by omega)
  clear hp4 HK HA3 HQ3 HR3 HA4' HQ4' HT3
  obtain ⟨d0, d1, d2, d3, d4⟩ := HA4.out.z.cells
  obtain ⟨f0, f1, f2, f3, f4⟩ := HA4.out.z.free
  obtain ⟨t0, t1, t2, t3, t4⟩ := ht4.cells
  have c1 : w4.cell? ⟨w.heap.size + 1, 0, none⟩ = some .nilIface := cell_of_block HA4.out.box 0
  have k1 : w4.frozen? ⟨w.heap.size + 1, 0, none⟩ = false := unfrozen_of_block HA4.out.box 0
  have n1 : ¬ w.heap.size + 1 = w.heap.size := by omega
  have n2 : ¬ w.heap.size = w.heap.size + 1 := by omega
  clear ht4 hSl
  go_wp2
  refine leaves_cons (f := 61) (args := #[.pointer (some ⟨w.heap.size + 1, 0, none⟩)]) (by simp) (by simp [go_sem]) ?_
  refine (qcatch_idle ⟨w.heap.size + 1, 0, none⟩ _).mono ?_
  rintro e u' w'' ⟨rfl, rfl, rfl⟩
  simp [Leaves, settle, results, Tryz.results36, go_sem, c1, d0, d1, d2, d3, d4]
  have hl : w.heap.size + 1 ≤ lo := by omega
  exact ⟨_, _, _, ⟨rfl, rfl, rfl⟩, ⟨lo, by omega, (((((HQ4.out.put (by omega) 0 _).put (by omega) 1 _).put (by omega) 2 _).put (by omega) 3 _).put (by omega) 4 _).put hl 0 _⟩, ((((((HA4.out.low.setCell (Nat.le_refl _) _).setCell (Nat.le_refl _) _).setCell (Nat.le_refl _) _).setCell (Nat.le_refl _) _).setCell (Nat.le_refl _) _).setCell (by show w.heap.size ≤ w.heap.size + 1; omega) _)⟩
set_option maxHeartbeats 2000000 in
set_option maxRecDepth 100000 in
/-- What ask.Parse reads of a text of these tokens. -/
theorem qparse_any (s : ByteArray) (q : QQ) (w : World) (hs : s.size ≤ 1000000) (hT : TS 0 s.data.toList (some (qT q))) (hq : QOk q) (hm : MkB w) (hg : GB w) (hw : 10 ≤ w.heap.size) :
    Calls Tryz.prog 16 #[.string s] w fun e w' => ∃ iv bv ov, e = .returned (.tuple #[.agg #[iv, .pointer none, bv, ov, .int .i64 (limN q.lim)], .nilIface]) ∧ QAt w' q iv bv ov ∧ Below w.heap.size w w' := by
  have HZ0 : Hid (QBox (w.alloc (.cells #[.slice none 0 0, .pointer none, .slice none 0 0, .slice none 0 0, .int .i64 0] 49)) w.heap.size (.slice none 0 0) (.slice none 0 0) (.slice none 0 0) 0) := mkH (heap_alloc_new _ _)
  have hb0 : ∀ o, Below w.heap.size w (w.alloc o) := fun o => (Below.refl _ _).alloc (Nat.le_refl _) _
  have HB0 := mkH hb0
  have H := mkH (fun o => whole_any s q (w.alloc o) hs hT hq (hm.below (hb0 o)) (hg.below (hb0 o)) (Nat.le_trans hw (hb0 o).size))
  have hmf := hmfA
  clear hs hT hq hm hg hw hb0
  go_enter Tryz.func16, Tryz.ntmps16
  go_wp2_with fail
  with_reducible refine (H.out _).mono ?_
  rintro e w1 ⟨iv, bv, ov, rfl, ⟨lo, hlo, hq⟩, hb1⟩
  obtain ⟨⟨ia, im, ic, rfl⟩, ⟨ba, bn, bc, rfl⟩, ⟨oa, on, oc, rfl⟩⟩ := hq.forms
  have hlo' : w.heap.size ≤ lo := by rw [World.size_alloc] at hlo; omega
  have hz1 : QBox w1 w.heap.size (.slice none 0 0) (.slice none 0 0) (.slice none 0 0) 0 := (hb1.block _ (blk_lt HZ0.out)).trans HZ0.out
  have HB1 := mkH ((HB0.out _).trans (hb1.mono (HB0.out _).size))
  have HQ := mkH hq
  clear hlo hq hb1 H HZ0
  obtain ⟨d0, d1, d2, d3, d4⟩ := hz1.cells
  obtain ⟨f0, f1, f2, f3, f4⟩ := hz1.free
  clear hz1
  go_wp2
  refine bodyPost_ret (v := .tuple #[.agg #[.slice ia im ic, .pointer none, .slice ba bn bc, .slice oa on oc, .int .i64 (limN q.lim)], .nilIface]) ?_ rfl ?_
  · simp [results, Tryz.results16, go_sem, d0, d1, d2, d3, d4]
  · exact ⟨_, _, _, rfl, (((((HQ.out.put hlo' 0 _).put hlo' 1 _).put hlo' 2 _).put hlo' 3 _).put hlo' 4 _).at, ((((HB1.out.setCell (Nat.le_refl _) _).setCell (Nat.le_refl _) _).setCell (Nat.le_refl _) _).setCell (Nat.le_refl _) _).setCell (Nat.le_refl _) _⟩
end Go.Proofs.YtlnkbhbpkmnkaaaGreatDoor
namespace Go.Proofs.YtlnkbhbpkmnkaaaGreatDoor.F
open Go.RowKit Go.Proofs Go.Shelf Go.Joins

theorem own_blk {w : World} {base : Nat} {T : TypeId} {z : Nat} {v : Value} {n : Nat} {xs : List Value} (h : w.ownsRow base T z v n xs) {k : Nat} (hk : v.ownBlock = some k) : base ≤ k := by
  rcases h.2 with ⟨e1, _⟩ | ⟨g, c, cur, e1, hb, _⟩
  · rw [e1] at hk; cases hk
  · rw [e1] at hk; cases hk; exact hb
set_option maxHeartbeats 2000000 in
theorem sum_any (v : Value) (l : List V) (w : World) (h : E.Sl w v l) (hl : l.length ≤ 1000) :
    Calls Tryz.prog 173 #[v] w fun e w' => e = .returned (.int .i64 (sumF l)) ∧ Below w.heap.size w w' := by
  have H := mkH h
  obtain ⟨a, c, rfl, _, _⟩ := h
  go_enter Tryz.func173, Tryz.ntmps173
  go_wp2_with fail
  go_loopw [3, 8] (fun vn vi wr => ∃ k : Nat, k ≤ l.length ∧ vi = .int .i64 k ∧ vn = .int .i64 (sumF (l.take k)) ∧ Hid (Below w.heap.size w wr)) (fun _ vi _ => l.length - (intOf vi).toNat)
  case atStart => exact ⟨0, Nat.zero_le _, rfl, rfl, mkH (Below.refl _ _)⟩
  case round =>
    obtain ⟨k, hk, rfl, rfl, HB⟩ := hrel
    by_cases hlt : k < l.length
    · obtain ⟨x, hx⟩ : ∃ x, l[k]? = some x := ⟨_, List.getElem?_eq_getElem hlt⟩
      have hkn : (k : Int) < (l.length : Int) := by omega
      obtain ⟨a', c', e1, _, q1⟩ := H.out.up HB.out
      injection e1 with e11 _ e13
      subst e11 e13
      obtain ⟨b1, o1, rfl, p1, r1⟩ := q1 (fun e => by rw [e] at hlt; simp at hlt)
      obtain ⟨x0, x1, x2⟩ := r1 k x hx
      have HS : Hid (sumF (l.take (k + 1)) = IntKind.i64.wrap (sumF (l.take k) + x.2.1)) := mkH (by rw [S.take_one_more hx]; simp [sumF])
      obtain ⟨xk, xn, xt⟩ := x
      simp only at x0 x1 x2 HS
      clear hx r1 q1
      generalize sumF (l.take k) = sk at *
      go_wp2
      exact ⟨⟨k + 1, by omega, by go_num, by rw [HS.out]; congr 1; rw [IntKind.wrap_i64]; unfold wrap64; omega, mkH (HB.out.alloc HB.out.size _)⟩, by simp [intOf]; omega⟩
    · have hkn : ¬ (k : Int) < (l.length : Int) := by omega
      have hke : l.take k = l := List.take_of_length_le (by omega)
      rw [hke]
      go_wp2
      go_ret
      exact ⟨rfl, HB.out⟩
set_option maxHeartbeats 2000000 in
theorem number_any (n : Int) (w : World) :
    Calls Tryz.prog 148 #[.int .i64 n] w fun e w' => e = .returned (.agg #[.int .i64 1, .int .i64 n, .string ⟨#[]⟩]) ∧ Below w.heap.size w w' := by
  go_enter Tryz.func148, Tryz.ntmps148
  go_wp2
  refine bodyPost_ret (v := .agg #[.int .i64 1, .int .i64 n, .string ⟨#[]⟩]) ?_ rfl ?_
  · simp [results, Tryz.results148, go_sem]
  · exact ⟨rfl, (Below.refl _ _).alloc (Nat.le_refl _) _⟩
set_option maxHeartbeats 2000000 in
theorem column_any (rv : Value) (rows : List (List V)) (p : Nat) (w : World) (hr : SlR w rv rows) (hp : p ≤ 1000000) (hl : rows.length ≤ 1000) :
    Calls Tryz.prog 150 #[rv, .int .i64 (p : Int)] w fun e w' => ∃ v, e = .returned v ∧ E.Sl w' v (rows.map fun r => atV r p) ∧ Below w.heap.size w w' := by
  have HL := mkH hr
  obtain ⟨la, lc, rfl, _⟩ := hr.slice
  obtain ⟨iV, hiV, hzV, hz1V, hz2V⟩ := info_parts E.info32
  have HIV := mkH (And.intro hiV (And.intro hzV (And.intro hz1V hz2V)))
  clear hr hiV hzV hz1V hz2V
  go_enter Tryz.func150, Tryz.ntmps150
  go_wp2_with (refine wpList_make_own _ rfl _ _ 35 rfl w.heap.size 29 iV (.agg #[.int .i64 0, .int .i64 0, .string ⟨#[]⟩]) 3 Tryz.underlying35 HIV.out.1 HIV.out.2.1 HIV.out.2.2.1 .i64 .i64 _ rows.length rfl rfl rfl ?m1 ?m2 (Nat.le_refl _) ?_)
  case m1 => rw [HIV.out.2.2.2]; omega
  case m2 => unfold maxLen; omega
  intro w1 ho1 hg1
  have HO1 := mkH ho1
  have HB1 : Hid (Below w.heap.size w w1) := mkH ((Below.refl _ w).grown hg1 (Nat.le_refl _) (fun j hj => by cases hj))
  clear ho1 hg1
  go_wp2_with fail
  go_loopw [5, 13] (fun vl vi wr => ∃ (k : Nat) (a : Option Addr) (c : Nat), k ≤ rows.length ∧ vi = .int .i64 k ∧ vl = .slice a k c ∧ Hid (wr.ownsRow w.heap.size 29 3 (.slice a k c) k (E.flatV ((rows.take k).map fun r => atV r p))) ∧ Hid (Below w.heap.size w wr)) (fun _ vi _ => rows.length - (intOf vi).toNat)
  case atStart => exact ⟨0, _, _, Nat.zero_le _, rfl, rfl, HO1, HB1⟩
  case round =>
    clear HO1 HB1
    obtain ⟨k, a, c, hk, rfl, rfl, HO, HB⟩ := hrel
    by_cases hlt : k < rows.length
    · obtain ⟨r, hr⟩ : ∃ r, rows[k]? = some r := ⟨_, List.getElem?_eq_getElem hlt⟩
      have hkn : (k : Int) < (rows.length : Int) := by omega
      obtain ⟨b1, o1, d1, x1, e1, _, p1, s1⟩ := (HL.out.up HB.out).at hr
      injection e1 with e11 _ e13
      subst e11 e13
      have HTK : Hid ((rows.take (k + 1)).map (fun r => atV r p) = (rows.take k).map (fun r => atV r p) ++ [atV r p]) := mkH (by rw [S.take_one_more hr]; simp)
      have HAT := mkH (fun W (hb : Below wr.heap.size wr W) => at_any x1 r p W (s1.up hb) hp)
      obtain ⟨xa, xc, rfl, _⟩ := s1
      generalize atV r p = y at *
      obtain ⟨yk, yn, yt⟩ := y
      simp only at HAT
      clear hr
      go_wp2_with fail
      with_reducible refine (HAT.out _ (Below.refl _ _)).mono ?_
      rintro e w2 ⟨rfl, hg2⟩
      have hb2 := hg2.below
      have HO2 := mkH (E.ownsRow_up HO.out hb2)
      have HB2 := mkH (ups HB.out hb2)
      have hs2 : w.heap.size ≤ w2.heap.size := HB2.out.size
      clear hg2 hb2 HAT HO
      have HA4 : Hid (Below w2.heap.size w2 (w2.alloc (.cells #[.int .i64 yk, .int .i64 yn, .string yt] 29))) := mkH ((Below.refl _ _).alloc (Nat.le_refl _) _)
      go_wp2_with (first
        | (at_builtin; refine wpList_append_own _ rfl _ _ 35 rfl w.heap.size 29 iV (.agg #[.int .i64 0, .int .i64 0, .string ⟨#[]⟩]) 3 32 Tryz.underlying35 HIV.out.1 HIV.out.2.1 HIV.out.2.2.1 HIV.out.2.2.2 rfl (by decide) (.slice a k c) k (E.flatV ((rows.take k).map fun r => atV r p)) rfl (E.ownsRow_up HO2.out HA4.out) ⟨w2.heap.size, 0, none⟩ 1 1 [.int .i64 yk, .int .i64 yn, .string yt] rfl rfl (fun j u hj => World.news_of_block (heap_alloc_new _ _) j u hj) (by intro u hu; simp at hu; rcases hu with rfl | rfl | rfl <;> rfl) (by unfold maxLen; omega) (by omega) (Nat.le_trans hs2 HA4.out.size) ?_
           intro v5 w5 hown5 hg5 _
           have HO5 := mkH hown5
           have HG5 := mkH hg5
           clear hown5 hg5))
      obtain ⟨a', c', rfl, _⟩ := own_slice HO5.out
      refine ⟨⟨k + 1, a', c', hlt, by go_num, rfl, mkH ?_, mkH ?_⟩, by simp [intOf]; omega⟩
      · rw [HTK.out, E.flatV_app]
        exact HO5.out
      · exact (ups HB2.out HA4.out).grown HG5.out (Nat.le_trans hs2 HA4.out.size) (fun j hj => own_blk HO2.out hj)
    · have hkn : ¬ (k : Int) < (rows.length : Int) := by omega
      have hke : k = rows.length := by omega
      subst hke
      have HO' := HO.out
      rw [List.take_length] at HO'
      have HOO := mkH HO'
      clear HO'
      go_wp2
      go_ret
      exact ⟨_, rfl, by have h := E.Sl_of_owns (l := rows.map fun r => atV r p) (by rw [List.length_map]; exact HOO.out); exact h, HB.out⟩
end Go.Proofs.YtlnkbhbpkmnkaaaGreatDoor.F
