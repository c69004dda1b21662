/- What log.change does, said of every call. -/
import Derived.Test.YtfppidnfomelpaaGreatDoorA8
namespace Go.Proofs.YtfppidnfomelpaaGreatDoor
open Go.RowKit Go.Proofs Go.Lib Go.Joins
open Go.Sort (grow)

/-- Columns l lie where v says, nil or not. -/
def LiC (W : World) (v : Value) (l : List Col) : Prop := ((∃ a c, v = .slice a 0 c) ∧ l = []) ∨ ∃ g o c, v = .slice (some ⟨g, o, none⟩) l.length c ∧ l.length ≤ c ∧ SlC W g o l
theorem LiC.below {w W : World} {v : Value} {l : List Col} (h : LiC w v l) (hb : Below w.heap.size w W) : LiC W v l := by
  rcases h with h | ⟨g, o, c, h1, h2, h3⟩
  · exact .inl h
  · exact .inr ⟨g, o, c, h1, h2, h3.below hb⟩
theorem LiC.len {w : World} {a : Option Addr} {n c : Nat} {l : List Col} (h : LiC w (.slice a n c) l) : n = l.length := by
  rcases h with ⟨⟨_, _, e⟩, e0⟩ | ⟨g, o, c, e, _, _⟩
  · cases e; subst e0; rfl
  · cases e; rfl
theorem right_any (a : Option Addr) (n c : Nat) (l : List Col) (next : Int) (w : World) (h : LiC w (.slice a n c) l) (hw : NcB w) (hsz : ∀ x ∈ l, x.2.1.size ≤ maxLen ∧ x.2.2.2.2.2.2.size ≤ maxLen) :
    Calls Tryz.prog 54 #[.slice a n c, .int .i64 next] w fun e w' => e = .returned (.bool (rightB l next)) ∧ Below w.heap.size w w' := by
  have hn := h.len
  by_cases h8 : 1 ≤ l.length ∧ l.length ≤ 8
  · rcases h with ⟨e, e0⟩ | ⟨g, o, c', e, hc, hs⟩
    · subst e0; simp at h8
    · cases e
      exact right_in g o c l next w hs h8.1 h8.2 hc hw hsz
  · rw [← rightB_out h8]
    exact right_out a n c next w (by rw [hn]; exact h8)

theorem SnapI.recol {base b : Nat} {w W : World} {s : Snap} {cv cv' fv : Value} {L : List EntV} (h : SnapI base b w s cv fv L) (cl : List Col) (nx : Int) (hg : w.grownBy W (some b))
    (hbox : W.heap[b]? = some (.cells #[.int .i64 s.ver, cv', .int .i64 nx, fv] 47 (0, 0))) (hc : w.ownsRow base 67 7 cv' cl.length (cellsC cl)) : SnapI base b W ⟨s.ver, cl, nx, s.files⟩ cv' fv L :=
  ⟨hbox, h.low, own_keep hc hg (fun q hq e => own_box hc h.box (by decide) (by rw [hq]; exact e.symm)), h.files, own_keep h.row hg (fun q hq e => own_box h.row h.box (by decide) (by rw [hq]; exact e.symm)), fun x hx => own_keep (h.masks x hx) hg (fun q hq e => own_box (h.masks x hx) h.box (by decide) (by rw [hq]; exact e.symm)), h.apart⟩
theorem grown_two {a b c : World} {g : Nat} (h : a.grownBy b (some g)) (k : b.grownBy c (some g)) : a.grownBy c (some g) :=
  ⟨k.os.trans h.os, k.tape.trans h.tape, k.output.trans h.output, Nat.le_trans h.size k.size, fun i hi hne => (k.block i (Nat.lt_of_lt_of_le hi h.size) hne).trans (h.block i hi hne)⟩

set_option maxHeartbeats 8000000 in
set_option maxRecDepth 100000 in
theorem change_any (base b : Nat) (s : Snap) (k : Int) (p : ByteArray) (r : Int) (m : List Int) (cl : List Col) (nx : Int) (ma : Option Addr) (mn mc : Nat) (ca : Option Addr) (cn cc : Nat) (w : World) (h : SnapAt base b w s)
    (hc : LiC w (.slice ca cn cc) cl) (hsz : ∀ x ∈ cl, x.2.1.size ≤ maxLen ∧ x.2.2.2.2.2.2.size ≤ maxLen) (hw : NcB w) :
    Calls Tryz.prog 75 #[.pointer (some ⟨b, 0, none⟩), .agg #[.int .i64 k, .string p, .int .i64 r, .slice ma mn mc, .slice ca cn cc, .int .i64 nx]] w (StPost base b w (schOk colB fitB s (k, p, r, m, cl, nx)) (schS s (k, p, r, m, cl, nx))) := by
  obtain ⟨cv, fv, L, hI⟩ := h
  obtain ⟨va, vc, e1, _⟩ := own_slice hI.cols
  obtain ⟨fa, fc, e2, _⟩ := own_slice hI.row
  subst e1 e2
  have hbl := blk_lt hI.box
  have hbase := hI.size
  have HB0 : Hid (Below w.heap.size w (w.alloc (.cells #[.int .i64 k, .string p, .int .i64 r, .slice ma mn mc, .slice ca cn cc, .int .i64 nx] 62))) := (Below.refl _ _).alloc (Nat.le_refl _) _
  have HK : Hid (∀ W, Below (w.heap.size + 1) (w.alloc (.cells #[.int .i64 k, .string p, .int .i64 r, .slice ma mn mc, .slice ca cn cc, .int .i64 nx] 62)) W → W.cell? ⟨w.heap.size, 4, none⟩ = some (.slice ca cn cc) ∧ W.cell? ⟨w.heap.size, 5, none⟩ = some (.int .i64 nx) ∧ SnapI base b W s (.slice va s.cols.length vc) (.slice fa L.length fc) L ∧ Below w.heap.size w W ∧ LiC W (.slice ca cn cc) cl ∧ NcB W ∧ w.heap.size + 1 ≤ W.heap.size) := fun W hW => by
    have hBW := HB0.out.trans (hW.mono (Nat.le_succ _))
    have hsz := hW.size
    rw [World.size_alloc] at hsz
    exact ⟨(hW.cell (p := ⟨w.heap.size, 4, none⟩) (Nat.lt_succ_self _)).trans (by simp), (hW.cell (p := ⟨w.heap.size, 5, none⟩) (Nat.lt_succ_self _)).trans (by simp), hI.up hBW, hBW, hc.below hBW, hw.below hBW, hsz⟩
  have HRI : Hid (∀ W, LiC W (.slice ca cn cc) cl → NcB W → Calls Tryz.prog 54 #[.slice ca cn cc, .int .i64 nx] W fun e w' => e = .returned (.bool (rightB cl nx)) ∧ Below W.heap.size W w') := fun W h1 h2 => right_any ca cn cc cl nx W h1 h2 hsz
  have HOK : Hid (schOk colB fitB s (k, p, r, m, cl, nx) ↔ rightB cl nx = true ∧ s.next ≤ nx) := by
    show schOk colB fitB s (k, p, r, m, cl, nx) ↔ _
    rw [rightB_iff]; exact Iff.rfl
  have hne : b ≠ w.heap.size := by omega
  clear hI hc hsz hw
  go_enter Tryz.func75, Tryz.ntmps75
  go_wp2_with fail
  obtain ⟨c1, c2, c3, c4, c5, c6, c7⟩ := HK.out _ (Below.refl _ _)
  obtain ⟨_, _, k2, _, _⟩ := c3.cells
  have HR1 : Hid (∀ d os, Calls Tryz.prog 54 #[.slice ca cn cc, .int .i64 nx] (grow (redrawn (w.alloc (.cells #[.int .i64 k, .string p, .int .i64 r, .slice ma mn mc, .slice ca cn cc, .int .i64 nx] 62)) d) os) fun e w'' => e = .returned (.bool (rightB cl nx)) ∧ ∃ p_1 : Regrown, w'' = grow (redrawn (w.alloc (.cells #[.int .i64 k, .string p, .int .i64 r, .slice ma mn mc, .slice ca cn cc, .int .i64 nx] 62)) p_1.d) p_1.os) := fun d os => Calls.regrown_of (HRI.out _ (c5.below (below_regrown _ d os)) (c6.below (below_regrown _ d os)))
  clear c3 c4 c5 c6
  have HWX : Hid (w.heap.size + 1 ≤ (w.alloc (.cells #[.int .i64 k, .string p, .int .i64 r, .slice ma mn mc, .slice ca cn cc, .int .i64 nx] 62)).heap.size) := c7
  have HBR : Hid (Below (w.heap.size + 1) (w.alloc (.cells #[.int .i64 k, .string p, .int .i64 r, .slice ma mn mc, .slice ca cn cc, .int .i64 nx] 62)) (w.alloc (.cells #[.int .i64 k, .string p, .int .i64 r, .slice ma mn mc, .slice ca cn cc, .int .i64 nx] 62))) := Below.refl _ _
  clear c7
  generalize hwo : w.alloc (.cells #[.int .i64 k, .string p, .int .i64 r, .slice ma mn mc, .slice ca cn cc, .int .i64 nx] 62) = wq at *
  clear hwo
  replace c1 := cell_regrown c1
  replace c2 := cell_regrown c2
  replace k2 := cell_regrown k2
  by_cases hok : rightB cl nx = true ∧ s.next ≤ nx
  · obtain ⟨hrb, hnx⟩ := hok
    have hlt : decide (nx < s.next) = false := decide_eq_false (by omega)
    have hlt' : ¬ nx < s.next := by omega
    have hr8 := (rightB_iff cl nx).1 hrb
    rw [hrb] at HR1
    refine wp_region_quiet_below (by kernel_rfl) (by kernel_rfl) ?_
    repeat (go_big_quiet_step (first
      | (go_at_call_of 54 (#[.slice ca cn cc, .int .i64 nx] : Array Value); exact HR1.out _ _)))
    refine wpQuiet_nil ?_
    intro _ hw'
    obtain ⟨⟨dq, osq⟩, hw''⟩ := hw'
    subst hw''
    have HB2 := mkH (HBR.out.trans ((below_regrown wq dq osq).mono HWX.out))
    clear c1 c2 k2 HR1 HBR
    generalize grow (redrawn wq dq) osq = w2 at *
    go_wp2_with fail
    obtain ⟨c1, c2, c3, c4, c5, c6, c7⟩ := HK.out _ HB2.out
    have C3 := mkH c3
    have C4 := mkH c4
    obtain ⟨j0, j1, j2, j3, jf⟩ := c3.cells
    have HCL : Hid (∀ W, Below w2.heap.size w2 W → Calls Tryz.prog 70 #[.slice ca cn cc] W fun e w' => ∃ g' c', e = .returned (.slice (some ⟨g', 0, none⟩) cl.length c') ∧ w'.ownsRow W.heap.size 67 7 (.slice (some ⟨g', 0, none⟩) cl.length c') cl.length (cellsC cl) ∧ Below W.heap.size W w') := fun W hW => by
      rcases c5.below hW with ⟨_, e0⟩ | ⟨g, o, c, e, hcc, hs⟩
      · rw [e0] at hr8; have := hr8.1; simp at this
      · cases e; exact clone_any g o cc cl W hs (by have := hr8.2.1; omega)
    have e52 : ∀ args w, (callFunc 70 args).run Tryz.prog w = .ok (.enter 70 args) w := enters_of Tryz.func70 (by kernel_rfl) rfl
    have HE52 := mkH e52
    have jf1 := jf 1
    have jf2 := jf 2
    have hs2 := C4.out.size
    have HKC : Hid (∀ W, Below w2.heap.size w2 W → W.cell? ⟨w.heap.size, 5, none⟩ = some (.int .i64 nx) ∧ W.cell? ⟨b, 1, none⟩ = some (.slice va s.cols.length vc) ∧ W.cell? ⟨b, 2, none⟩ = some (.int .i64 s.next) ∧ W.frozen? ⟨b, 1, none⟩ = false ∧ W.frozen? ⟨b, 2, none⟩ = false ∧ SnapI base b W s (.slice va s.cols.length vc) (.slice fa L.length fc) L) := fun W hW => by
      have hI := C3.out.up hW
      obtain ⟨_, i1, i2, _, jj⟩ := hI.cells
      exact ⟨(hW.cell (p := ⟨w.heap.size, 5, none⟩) (by show w.heap.size < _; omega)).trans c2, i1, i2, jj 1, jj 2, hI⟩
    clear c3 c4 c5 c6 j0 j3 jf e52 hr8 HRI HK
    go_region_law
      (first
        | (refine step_call1 (by rfl) 70 (.tmp 23) 44 (by rfl) (.slice ca cn cc) (by rfl) HE52.out _ (HCL.out _ (Below.refl _ _).drew) ?_
           rintro e w4 ⟨g4, c4, rfl, ho4, hb4'⟩
           have hb4 : Below w2.heap.size w2 w4 := Below.ups (Below.refl _ _).drew hb4'
           refine ⟨_, rfl, ?_⟩
           obtain ⟨p1, p2, p3, p4, p5, p6⟩ := HKC.out w4 hb4)
        | fail)
    all_goals
      go_wp2
      go_ret
      have ho : w4.ownsRow base 67 7 (.slice (some ⟨g4, 0, none⟩) cl.length c4) cl.length (cellsC cl) := own_base ho4 (by show base ≤ w2.heap.size; omega)
      have hbb : Below base w w4 := (C4.out.mono hbase).trans (hb4.mono (by omega))
      refine st_yes ((hbb.setCell (p := ⟨b, _, none⟩) p6.low _).setCell (p := ⟨b, _, none⟩) p6.low _) (HOK.out.2 ⟨hrb, hnx⟩) ⟨_, _, _, p6.recol cl nx (grown_two (grown_setC _ _ _ _) (grown_setC _ _ _ _)) ?_ ho⟩
      rw [heap_setC _ _ _ _ _ _ (heap_setC _ _ _ _ _ _ p6.box)]
      rfl
  · have hno : (!(rightB cl nx) || decide (nx < s.next)) = true := by
      cases hrb : rightB cl nx with
      | false => rfl
      | true =>
        have : ¬ s.next ≤ nx := fun hh => hok ⟨hrb, hh⟩
        simp; omega
    have HNO : Hid (¬ schOk colB fitB s (k, p, r, m, cl, nx)) := fun hh => hok (HOK.out.1 hh)
    clear hok HOK
    generalize rightB cl nx = rb at HR1 hno
    cases rb <;> cases hlt : decide (nx < s.next)
    case true.false => rw [hlt] at hno; simp at hno
    all_goals
      refine wp_region_quiet_below (by kernel_rfl) (by kernel_rfl) ?_
      repeat (go_big_quiet_step (first
        | (go_at_call_of 54 (#[.slice ca cn cc, .int .i64 nx] : Array Value); exact HR1.out _ _)))
      refine wpQuiet_nil ?_
      intro _ hw'
      obtain ⟨⟨dq, osq⟩, hw''⟩ := hw'
      subst hw''
      have HB2 := mkH (HBR.out.trans ((below_regrown wq dq osq).mono HWX.out))
      go_wp2
      go_ret
      exact st_no (by decide) ((HK.out _ HB2.out).2.2.2.1.mono hbase) HNO.out
end Go.Proofs.YtfppidnfomelpaaGreatDoor
