/- What log.Apply does, said of every call. -/
import Derived.Test.YtfppidnfomelpaaGreatDoorB3
namespace Go.Proofs.YtfppidnfomelpaaGreatDoor
open Go.RowKit Go.Proofs Go.Lib Go.Joins

/-- An action's six cells. -/
def Cells6 (W : World) (g o : Nat) (a : Actn) (ma : Option Addr) (mn mc : Nat) (ca : Option Addr) (cn cc : Nat) : Prop :=
  W.cell? ⟨g, o, none⟩ = some (.int .i64 a.1) ∧ W.cell? ⟨g, o + 1, none⟩ = some (.string a.2.1) ∧ W.cell? ⟨g, o + 2, none⟩ = some (.int .i64 a.2.2.1) ∧ W.cell? ⟨g, o + 3, none⟩ = some (.slice ma mn mc) ∧ W.cell? ⟨g, o + 4, none⟩ = some (.slice ca cn cc) ∧ W.cell? ⟨g, o + 5, none⟩ = some (.int .i64 a.2.2.2.2.2)
/-- Actions l lie where v says. -/
def ActsAt (W : World) (v : Value) (l : List Actn) : Prop := ((∃ a c, v = .slice a 0 c) ∧ l = []) ∨ ∃ g o c, v = .slice (some ⟨g, o, none⟩) l.length c ∧ l.length ≤ c ∧ g < W.heap.size ∧ ∀ j, j < l.length → ∃ ma mn mc ca cn cc, ActAt W l[j]! ma mn mc ca cn cc ∧ Cells6 W g (o + j * 6) l[j]! ma mn mc ca cn cc
theorem Cells6.below {w W : World} {g o : Nat} {a : Actn} {ma : Option Addr} {mn mc : Nat} {ca : Option Addr} {cn cc : Nat} (h : Cells6 w g o a ma mn mc ca cn cc) (hg : g < w.heap.size) (hb : Below w.heap.size w W) : Cells6 W g o a ma mn mc ca cn cc :=
  ⟨(hb.cell (p := ⟨g, o, none⟩) hg).trans h.1, (hb.cell (p := ⟨g, o + 1, none⟩) hg).trans h.2.1, (hb.cell (p := ⟨g, o + 2, none⟩) hg).trans h.2.2.1, (hb.cell (p := ⟨g, o + 3, none⟩) hg).trans h.2.2.2.1, (hb.cell (p := ⟨g, o + 4, none⟩) hg).trans h.2.2.2.2.1, (hb.cell (p := ⟨g, o + 5, none⟩) hg).trans h.2.2.2.2.2⟩
theorem ActsAt.below {w W : World} {v : Value} {l : List Actn} (h : ActsAt w v l) (hb : Below w.heap.size w W) : ActsAt W v l := by
  rcases h with h | ⟨g, o, c, h1, h2, h3, h4⟩
  · exact .inl h
  · refine .inr ⟨g, o, c, h1, h2, Nat.lt_of_lt_of_le h3 hb.size, fun j hj => ?_⟩
    obtain ⟨ma, mn, mc, ca, cn, cc, h5, h6⟩ := h4 j hj
    exact ⟨ma, mn, mc, ca, cn, cc, h5.below hb, h6.below h3 hb⟩
theorem ActsAt.len {w : World} {a : Option Addr} {n c : Nat} {l : List Actn} (h : ActsAt w (.slice a n c) l) : n = l.length := by
  rcases h with ⟨⟨_, _, e⟩, e0⟩ | ⟨g, o, c, e, _, _⟩
  · cases e; subst e0; rfl
  · cases e; rfl

def AppliesL (s : Snap) (c : Com) (t : Snap) : Prop := Applies nameB colB fitB s c t
def RunsL (s : Snap) (l : List Actn) (t : Snap) : Prop := Runs nameB colB fitB s l t
def zeroSV : Value := .agg #[.int .i64 0, .slice none 0 0, .int .i64 0, .slice none 0 0]
/-- A table as a value. -/
def SnapW (W : World) (t : Snap) (v : Value) : Prop := ∃ a1 c1 a2 c2 L, v = .agg #[.int .i64 t.ver, .slice a1 t.cols.length c1, .int .i64 t.next, .slice a2 L.length c2] ∧ SnapV W t (.slice a1 t.cols.length c1) (.slice a2 L.length c2) L
def ApPost (w : World) (s : Snap) (c : Com) (e : Ending) (w' : World) : Prop :=
  Below w.heap.size w w' ∧ ((∃ t v, AppliesL s c t ∧ e = .returned (.tuple #[v, .nilIface]) ∧ SnapW w' t v) ∨ (∃ ty x, e = .returned (.tuple #[zeroSV, .iface ty x]) ∧ ∀ t, ¬ AppliesL s c t))

theorem SnapI.valueW {base b : Nat} {W : World} {s : Snap} {cv fv : Value} {L : List EntV} (h : SnapI base b W s cv fv L) : ∃ a1 c1 a2 c2, cv = .slice a1 s.cols.length c1 ∧ fv = .slice a2 L.length c2 := by
  obtain ⟨a1, c1, e1, _⟩ := own_slice h.cols
  obtain ⟨a2, c2, e2, _⟩ := own_slice h.row
  exact ⟨a1, c1, a2, c2, e1, e2⟩
theorem take_next {l : List Actn} {k : Nat} (hk : k < l.length) : l.take (k + 1) = l.take k ++ [l[k]!] := by
  rw [List.take_add_one, List.getElem?_eq_getElem hk, getElem!_pos l k hk]; rfl
theorem runs_step {s u t : Snap} {l : List Actn} {k : Nat} (hk : k < l.length) (h : RunsL s (l.take k) u) (hd : DoesL u l[k]! t) : RunsL s (l.take (k + 1)) t := by
  rw [take_next hk]; exact runs_app h ⟨t, hd, rfl⟩
theorem runs_stop {s u : Snap} {l : List Actn} {k : Nat} (hk : k < l.length) (h : RunsL s (l.take k) u) (hd : ∀ t, ¬ DoesL u l[k]! t) : ∀ t, ¬ RunsL s l t := by
  intro t ht
  have e : l = l.take k ++ (l[k]! :: l.drop (k + 1)) := by
    rw [getElem!_pos l k hk, ← List.drop_eq_getElem_cons hk, List.take_append_drop]
  rw [e] at ht
  obtain ⟨u', h1, x, h2, _⟩ := runs_cut ht
  have := runs_one h h1
  subst this
  exact hd x h2
theorem three_alloc (w : World) (x y z : Obj) : (((w.alloc x).alloc y).alloc z).heap.size = w.heap.size + 3 ∧ (((w.alloc x).alloc y).alloc z).heap[w.heap.size]? = some x ∧ (((w.alloc x).alloc y).alloc z).heap[w.heap.size + 1]? = some y ∧ (((w.alloc x).alloc y).alloc z).heap[w.heap.size + 2]? = some z ∧ Below w.heap.size w (((w.alloc x).alloc y).alloc z) := by
  obtain ⟨t0, t1, t2, t3⟩ := two_alloc w x y
  have hb := (Below.refl ((w.alloc x).alloc y).heap.size ((w.alloc x).alloc y)).alloc (Nat.le_refl _) z
  refine ⟨by simp, (hb.block _ (by omega)).trans t1, (hb.block _ (by omega)).trans t2, ?_, t3.trans (hb.mono t3.size)⟩
  have := heap_alloc_new ((w.alloc x).alloc y) z
  rwa [t0] at this
theorem cells3 {W : World} {b : Nat} {x0 x1 x2 : Value} {t : TypeId} (h : W.heap[b]? = some (.cells #[x0, x1, x2] t (0, 0))) :
    W.cell? ⟨b, 0, none⟩ = some x0 ∧ W.cell? ⟨b, 1, none⟩ = some x1 ∧ W.cell? ⟨b, 2, none⟩ = some x2 ∧ ∀ i, W.frozen? ⟨b, i, none⟩ = false := by
  refine ⟨?_, ?_, ?_, fun i => ?_⟩ <;> simp [World.cell?, World.frozen?, h]

set_option maxHeartbeats 8000000 in
set_option maxRecDepth 100000 in
theorem apply_any (s : Snap) (sv' : Value) (tx : ByteArray) (rd : Bool) (acts : List Actn) (aa : Option Addr) (an ac : Nat) (w : World) (h : SnapW w s sv') (hg : Good colB fitB s) (hv0 : 0 ≤ s.ver) (hv1 : s.ver ≤ 1000)
    (ha : ActsAt w (.slice aa an ac) acts) (h12 : acts.length ≤ 1000) (htx : tx.size ≤ maxLen) (hw : NcB w) :
    Calls Tryz.prog 20 #[sv', .agg #[.string tx, .bool rd, .slice aa an ac]] w (ApPost w s (tx, rd, acts)) := by
  obtain ⟨a1, c1, a2, c2, L, rfl, hV⟩ := h
  have han := ha.len
  subst han
  have HN := mkH (fun W => name_any tx W htx)
  have HV := mkH hV
  have HA := mkH ha
  have HW := mkH hw
  have HGD := mkH hg
  have HCP : Hid (∀ W, Below w.heap.size w W → Calls Tryz.prog 41 #[.agg #[.int .i64 s.ver, .slice a1 s.cols.length c1, .int .i64 s.next, .slice a2 L.length c2]] W (CopPost W s L.length)) := fun W hW => copied_any s a1 _ c1 a2 _ c2 L W (hV.up hW) hg
  obtain ⟨t0, t1, t2, t3, t4⟩ := three_alloc w (.cells #[.int .i64 s.ver, .slice a1 s.cols.length c1, .int .i64 s.next, .slice a2 L.length c2] 47) (.cells #[.string tx, .bool rd, .slice aa acts.length ac] 24) (.cells #[.int .i64 0, .slice none 0 0, .int .i64 0, .slice none 0 0] 47)
  have T0 := mkH t0
  have T1 := mkH t1
  have T2 := mkH t2
  have T3 := mkH t3
  have T4 := mkH t4
  clear t0 t1 t2 t3 t4 hV ha hw hg
  cases hnb : nameB tx with
  | false =>
    rw [hnb] at HN
    have HNO : Hid (∀ t, ¬ AppliesL s (tx, rd, acts) t) := fun t hh => by have := hh.1; simp only at this; rw [hnb] at this; cases this
    go_enter Tryz.func20, Tryz.ntmps20
    go_wp2_with fail
    obtain ⟨wa, hwa⟩ : ∃ wa, wa = ((w.alloc (.cells #[.int .i64 s.ver, .slice a1 s.cols.length c1, .int .i64 s.next, .slice a2 L.length c2] 47)).alloc (.cells #[.string tx, .bool rd, .slice aa acts.length ac] 24)).alloc (.cells #[.int .i64 0, .slice none 0 0, .int .i64 0, .slice none 0 0] 47) := ⟨_, rfl⟩
    rw [← hwa] at T0 T1 T2 T3 T4 ⊢
    clear hwa
    refine (HN.out _).mono ?_
    rintro e w1 ⟨rfl, hb1⟩
    have hs1 := hb1.size
    rw [T0.out] at hb1 hs1
    obtain ⟨z0, z1, z2, z3, zf⟩ := cells4 ((hb1.block (w.heap.size + 2) (by omega)).trans T3.out)
    have zf0 := zf 0
    have zf1 := zf 1
    have zf2 := zf 2
    have zf3 := zf 3
    have HB1 := mkH (T4.out.trans (hb1.mono (by omega)))
    clear zf hb1 T0 T1 T2 T3 T4
    go_wp2
    refine bodyPost_ret (v := .tuple #[zeroSV, .iface 73 (.int .i64 1)]) (by simp [results, Tryz.results20, go_sem, z0, z1, z2, z3, zeroSV]) rfl ?_
    exact ⟨(((HB1.out.setCell (p := ⟨w.heap.size + 2, _, none⟩) (by show _ ≤ w.heap.size + 2; omega) _).setCell (p := ⟨w.heap.size + 2, _, none⟩) (by show _ ≤ w.heap.size + 2; omega) _).setCell (p := ⟨w.heap.size + 2, _, none⟩) (by show _ ≤ w.heap.size + 2; omega) _).setCell (p := ⟨w.heap.size + 2, _, none⟩) (by show _ ≤ w.heap.size + 2; omega) _, .inr ⟨_, _, rfl, HNO.out⟩⟩
  | true =>
    rw [hnb] at HN
    have HAP : Hid (∀ t, AppliesL s (tx, rd, acts) t ↔ RunsL (bump s) acts t) := fun t => ⟨fun hh => hh.2, fun hh => ⟨hnb, hh⟩⟩
    go_enter Tryz.func20, Tryz.ntmps20
    go_wp2_with fail
    obtain ⟨wa, hwa⟩ : ∃ wa, wa = ((w.alloc (.cells #[.int .i64 s.ver, .slice a1 s.cols.length c1, .int .i64 s.next, .slice a2 L.length c2] 47)).alloc (.cells #[.string tx, .bool rd, .slice aa acts.length ac] 24)).alloc (.cells #[.int .i64 0, .slice none 0 0, .int .i64 0, .slice none 0 0] 47) := ⟨_, rfl⟩
    rw [← hwa] at T0 T1 T2 T3 T4 ⊢
    clear hwa
    refine (HN.out _).mono ?_
    rintro e w1 ⟨rfl, hb1⟩
    have hs1 := hb1.size
    rw [T0.out] at hb1 hs1
    have HB1 := mkH (T4.out.trans (hb1.mono (by omega)))
    have S1 := mkH ((hb1.block w.heap.size (by omega)).trans T1.out)
    have S2 := mkH ((hb1.block (w.heap.size + 1) (by omega)).trans T2.out)
    have S3 := mkH ((hb1.block (w.heap.size + 2) (by omega)).trans T3.out)
    clear hb1 T0 T1 T2 T3 T4 HN
    obtain ⟨k0, k1, k2, k3, _⟩ := cells4 S1.out
    go_wp2_with fail
    refine (HCP.out _ HB1.out).mono ?_
    rintro e w2 ⟨b1, d1, b2, d2, L2, rfl, hO, hb2⟩
    have hs2 := hb2.size
    obtain ⟨x0, x1, x2, x3⟩ := cells3 ((hb2.block (w.heap.size + 1) (by omega)).trans S2.out)
    have HB2 := mkH (HB1.out.trans (hb2.mono (by omega)))
    have R2 := mkH ((hb2.block (w.heap.size + 2) (by omega)).trans S3.out)
    have HO := mkH hO
    clear k0 k1 k2 k3 S1 S2 S3 hb2 hO x3 HCP
    have hL2 : L2.length = L.length := by
      have e1 := HO.out.files
      have e2 := HV.out.files
      have : L2.map (·.1) = L.map (·.1) := by rw [← e1, ← e2]
      simpa using congrArg List.length this
    have HA2 : Hid (Below w2.heap.size w2 (w2.alloc (.cells #[.int .i64 (s.ver + 1), .slice b1 s.cols.length d1, .int .i64 s.next, .slice b2 L.length d2] 47))) := (Below.refl _ _).alloc (Nat.le_refl _) _
    have x2' := (HA2.out.cell (p := ⟨w.heap.size + 1, 2, none⟩) (by show w.heap.size + 1 < _; omega)).trans x2
    have HBX := mkH (heap_alloc_new w2 (.cells #[.int .i64 (s.ver + 1), .slice b1 s.cols.length d1, .int .i64 s.next, .slice b2 L.length d2] 47))
    have HO' : Hid (SnapO w1.heap.size w2 (bump s) (.slice b1 s.cols.length d1) (.slice b2 L.length d2) L2) := mkH ⟨HO.out.cols, HO.out.files, HO.out.row, HO.out.masks, HO.out.apart⟩
    have HI0 : Hid (SnapAt w1.heap.size w2.heap.size (w2.alloc (.cells #[.int .i64 (s.ver + 1), .slice b1 s.cols.length d1, .int .i64 s.next, .slice b2 L.length d2] 47)) (bump s)) := mkH ⟨_, _, L2, HO'.out.box HA2.out hs2 HBX.out⟩
    have HB3 : Hid (Below w.heap.size w (w2.alloc (.cells #[.int .i64 (s.ver + 1), .slice b1 s.cols.length d1, .int .i64 s.next, .slice b2 L.length d2] 47))) := mkH (HB2.out.alloc (by omega) _)
    have R3 := mkH ((HA2.out.block (w.heap.size + 2) (by omega)).trans R2.out)
    have HG0 : Hid (Good colB fitB (bump s)) := mkH ⟨HGD.out.few, HGD.out.cols, HGD.out.once, HGD.out.masks, HGD.out.rows⟩
    clear HO HO' HBX HA2 R2 HB2 hL2 x0 x1 x2
    go_wp2_with fail
    generalize w2.alloc (.cells #[.int .i64 (s.ver + 1), .slice b1 s.cols.length d1, .int .i64 s.next, .slice b2 L.length d2] 47) = w3 at *
    clear x2'
    generalize w2.heap.size = bb at *
    go_loopw [25] (fun vi wr => ∃ k : Nat, k ≤ acts.length ∧ vi = .int .i64 k ∧ ∃ t, Hid (RunsL (bump s) (acts.take k) t) ∧ Hid (SnapAt w1.heap.size bb wr t) ∧ Hid (Good colB fitB t) ∧ Hid (Below w.heap.size w wr) ∧ Hid (wr.heap[w.heap.size + 2]? = some (.cells #[.int .i64 0, .slice none 0 0, .int .i64 0, .slice none 0 0] 47 (0, 0)))) (fun vi _ => acts.length - (intOf vi).toNat)
    case atStart => exact ⟨0, Nat.zero_le _, rfl, bump s, mkH rfl, HI0, HG0, HB3, R3⟩
    case round =>
      clear HI0 HG0 HB3 R3
      obtain ⟨k, hk, rfl, t, RU, SN, GD, BW, RZ⟩ := hrel
      by_cases hlt : k < acts.length
      · have hltz : (k : Int) < (acts.length : Int) := by omega
        rcases HA.out.below BW.out with ⟨_, e0⟩ | ⟨g, o, c, eg, hcap, hgl, hact⟩
        · rw [e0] at hlt; simp at hlt
        · injection eg with eg1 _ eg2
          subst eg1 eg2
          obtain ⟨ma, mn, mc, ca, cn, cc, hAt, hC6⟩ := hact k hlt
          obtain ⟨⟨x1, x2, x3, x4, x5, x6⟩, hx⟩ : ∃ x, acts[k]! = x := ⟨_, rfl⟩
          have HX := mkH hx
          rw [hx] at hAt hC6
          obtain ⟨q0, q1, q2, q3, q4, q5⟩ := hC6
          simp only at q0 q1 q2 q3 q4 q5
          have HB6 : Hid (Below wr.heap.size wr (wr.alloc (.cells #[.int .i64 x1, .string x2, .int .i64 x3, .slice ma mn mc, .slice ca cn cc, .int .i64 x6] 62))) := mkH ((Below.refl _ _).alloc (Nat.le_refl _) _)
          have HDO : Hid (Calls Tryz.prog 42 #[.pointer (some ⟨bb, 0, none⟩), .agg #[.int .i64 x1, .string x2, .int .i64 x3, .slice ma mn mc, .slice ca cn cc, .int .i64 x6]] (wr.alloc (.cells #[.int .i64 x1, .string x2, .int .i64 x3, .slice ma mn mc, .slice ca cn cc, .int .i64 x6] 62)) (DoPost w1.heap.size bb (wr.alloc (.cells #[.int .i64 x1, .string x2, .int .i64 x3, .slice ma mn mc, .slice ca cn cc, .int .i64 x6] 62)) t (x1, x2, x3, x4, x5, x6))) := mkH (by
            obtain ⟨cv, fv, L3, hI⟩ := SN.out
            exact do_any w1.heap.size bb t x1 x2 x3 x4 x5 x6 ma mn mc ca cn cc _ ⟨cv, fv, L3, hI.up HB6.out⟩ (hAt.below HB6.out) ((HW.out.below BW.out).below HB6.out) GD.out)
          have hsz : w1.heap.size ≤ wr.heap.size := by obtain ⟨_, _, _, hI⟩ := SN.out; exact hI.size
          clear hAt hact hx
          go_wp2_with fail
          refine HDO.out.mono ?_
          rintro e w5 ⟨code, rfl, hb5, hcase⟩
          have HB5' : Hid (Below w.heap.size w w5) := mkH (BW.out.trans ((HB6.out.mono (by have := BW.out.size; omega)).trans (hb5.mono (by omega))))
          have RZ5 := mkH ((hb5.block (w.heap.size + 2) (by omega)).trans ((HB6.out.block (w.heap.size + 2) (by omega)).trans RZ.out))
          clear q0 q1 q2 q3 q4 q5 hb5
          rcases hcase with ⟨rfl, t', hd, hs'⟩ | ⟨hne0, hno⟩
          · have HD := mkH hd
            have HS' := mkH hs'
            clear hd hs'
            go_wp2
            go_roundw
            case rel =>
              have hdd := HD.out
              rw [← HX.out] at hdd
              exact ⟨k + 1, by omega, by go_num, t', mkH (runs_step hlt RU.out hdd), HS', mkH (does_good HD.out GD.out), HB5', RZ5⟩
            case measure => simp [intOf]; omega
          · have HNO : Hid (∀ t, ¬ AppliesL s (tx, rd, acts) t) := mkH (fun u hu => runs_stop hlt RU.out (by rw [HX.out]; exact hno) u ((HAP.out u).1 hu))
            obtain ⟨z0, z1, z2, z3, zf⟩ := cells4 RZ5.out
            have zf0 := zf 0
            have zf1 := zf 1
            have zf2 := zf 2
            have zf3 := zf 3
            have hl5 : w.heap.size + 2 < w5.heap.size := blk_lt RZ5.out
            have hl6 : w.heap.size + 1 + 1 < w5.heap.size := hl5
            clear hno zf
            go_wp2
            refine bodyPost_ret (v := .tuple #[zeroSV, .iface 105 (.pointer (some ⟨w5.heap.size, 0, none⟩))]) (by simp [results, Tryz.results20, go_sem, z0, z1, z2, z3, zeroSV, hl6]) rfl ?_
            exact ⟨((((HB5'.out.setCell (p := ⟨w.heap.size + 2, _, none⟩) (by show _ ≤ w.heap.size + 2; omega) _).setCell (p := ⟨w.heap.size + 2, _, none⟩) (by show _ ≤ w.heap.size + 2; omega) _).setCell (p := ⟨w.heap.size + 2, _, none⟩) (by show _ ≤ w.heap.size + 2; omega) _).setCell (p := ⟨w.heap.size + 2, _, none⟩) (by show _ ≤ w.heap.size + 2; omega) _).alloc (by simp; omega) _, .inr ⟨_, _, rfl, HNO.out⟩⟩
      · have hkl : k = acts.length := by omega
        subst hkl
        have HR : Hid (AppliesL s (tx, rd, acts) t) := mkH ((HAP.out t).2 (by have := RU.out; rwa [List.take_length] at this))
        obtain ⟨cv, fv, L3, hI⟩ := SN.out
        obtain ⟨e1, e2, e3, e4, rfl, rfl⟩ := hI.valueW
        obtain ⟨k0, k1, k2, k3, _⟩ := hI.cells
        obtain ⟨z0, z1, z2, z3, zf⟩ := cells4 RZ.out
        have zf0 := zf 0
        have zf1 := zf 1
        have zf2 := zf 2
        have zf3 := zf 3
        have HI := mkH hI
        have hlow := hI.low
        clear zf hI RU SN
        go_wp2
        refine bodyPost_ret (v := .tuple #[.agg #[.int .i64 t.ver, .slice e1 t.cols.length e2, .int .i64 t.next, .slice e3 L3.length e4], .nilIface]) (by simp [results, Tryz.results20, go_sem, z0, z1, z2, z3]) rfl ?_
        refine ⟨(((BW.out.setCell (p := ⟨w.heap.size + 2, _, none⟩) (by show _ ≤ w.heap.size + 2; omega) _).setCell (p := ⟨w.heap.size + 2, _, none⟩) (by show _ ≤ w.heap.size + 2; omega) _).setCell (p := ⟨w.heap.size + 2, _, none⟩) (by show _ ≤ w.heap.size + 2; omega) _).setCell (p := ⟨w.heap.size + 2, _, none⟩) (by show _ ≤ w.heap.size + 2; omega) _, .inl ⟨t, _, HR.out, rfl, e1, e2, e3, e4, L3, rfl, ?_⟩⟩
        have hgg : wr.grownBy _ (some (w.heap.size + 2)) := grown_two (grown_two (grown_two (grown_setC wr (w.heap.size + 2) 0 (.int .i64 t.ver)) (grown_setC _ (w.heap.size + 2) 1 (.slice e1 t.cols.length e2))) (grown_setC _ (w.heap.size + 2) 2 (.int .i64 t.next))) (grown_setC _ (w.heap.size + 2) 3 (.slice e3 L3.length e4))
        have hI := HI.out
        have far : ∀ {e z : Nat} {v : Value} {n : Nat} {xs : List Value}, wr.ownsRow w1.heap.size e z v n xs → ∀ q, v.ownBlock = some q → (some (w.heap.size + 2) : Option Nat) ≠ some q := fun ho q hq e => by have := (ho.lt q hq).1; injection e with e; omega
        exact ⟨own_base (own_keep hI.cols hgg (far hI.cols)) (Nat.zero_le _), hI.files, own_base (own_keep hI.row hgg (far hI.row)) (Nat.zero_le _), fun x hx => own_base (own_keep (hI.masks x hx) hgg (far (hI.masks x hx))) (Nat.zero_le _)⟩
end Go.Proofs.YtfppidnfomelpaaGreatDoor
