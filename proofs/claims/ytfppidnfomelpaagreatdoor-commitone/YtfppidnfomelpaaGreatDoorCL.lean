/- How turns and faults that came in lie in memory. -/
import Derived.Test.YtfppidnfomelpaaGreatDoorCI
import Derived.Deep.RegionHeld3
import Derived.Laws.IdiomStrings
import Derived.Test.YtfppidnfomelpaaGreatDoorO1
namespace Go.Proofs.YtfppidnfomelpaaGreatDoor
open Go.RowKit Go.Proofs Go.Lib Go.Joins

theorem lw_start {w W : World} {bb : Nat} {fs : List Int} {fv : Value} (hB : Base w W W.heap.size bb 0 (.map []) fs (.map none) fv) (hst : Stays w W) (hw : w.heap.size ≤ W.heap.size) :
    LwI w (W.alloc (.cells #[.int .i64 0, .slice none 0 0, .int .i64 0, .slice none 0 0, .int .i64 0, .slice none 0 0, .int .i64 0, .slice none 0 0, .int .i64 0, .slice none 0 0, .int .i64 0, .slice none 0 0] 48)) W.heap.size bb W.heap.size 0 (.map []) fs (.map none) fv [] (fun _ => (0, spZ)) [] (.slice none 0 0) :=
  ⟨hB.up ((Below.refl _ _).alloc (Nat.le_refl _) _), hst.trans (Stays.of_below ((Below.refl _ _).alloc (Nat.le_refl _) _)), Nat.le_refl _, hw, heap_alloc_new _ _, fun r _ => ⟨Nat.le_refl _, snapW_zero _⟩, rfl, ⟨rfl, .inl ⟨rfl, rfl⟩⟩, fun x hx => (by cases hx), lain_nil, trivial⟩
theorem conv1 (W : World) (b i : Nat) (hi : i < 30) (hc : W.cell? ⟨b, 0, none⟩ = some (.int .u8 (97 + (i : Int)))) : (convert 54 9 (.slice (some ⟨b, 0, none⟩) 1 1)).run Tryz.prog W = .ok (.string ⟨#[UInt8.ofNat (97 + i)]⟩) W :=
  run_convert_bytes_back W 54 9 5 ⟨b, 0, none⟩ 1 [UInt8.ofNat (97 + i)] Tryz.underlying54 Tryz.underlying5 Tryz.underlying9 (fun j hj => by
    have ej : j = 0 := by simp at hj; omega
    subst ej
    have e : ((UInt8.ofNat (97 + i)).toNat : Int) = 97 + (i : Int) := by
      rw [UInt8.toNat_ofNat']
      omega
    have e2 : (⟨b, 0, none⟩ : Addr).add 0 = ⟨b, 0, none⟩ := rfl
    rw [e2]
    show W.cell? ⟨b, 0, none⟩ = some (.int .u8 ((UInt8.ofNat (97 + i)).toNat : Int))
    rw [e]
    exact hc)
theorem try_form {w0 w w' : World} {NF bb n : Nat} {D : DataW Unit} {fs : List Int} {mv : Value} {C : Com} {H : List (Com × Snap)} {j : Nat} {e : Ending} (h : TryPost w0 w NF bb n D fs mv C H j e w') : ∃ (v : Int) (er : Value), e = .returned (.tuple #[.int .i64 v, er]) ∧ Hid (TryPost w0 w NF bb n D fs mv C H j (.returned (.tuple #[.int .i64 v, er])) w') := by
  have h' := h
  obtain ⟨_, _, _, _, _, _, _, _, _, ⟨_, rfl, _⟩ | ⟨_, _, rfl, _⟩⟩ := h'
  · exact ⟨_, _, rfl, mkH h⟩
  · exact ⟨_, _, rfl, mkH h⟩
theorem tried_cells {w W Y : World} {NF bb sb n m : Nat} {D : DataW Unit} {fs : List Int} {mv fv : Value} {H : List (Com × Snap)} {q : Nat → Nat × Sp} {S : List Sp} {wv : Value} {C : Com} {j b : Nat} {e : Ending} {cs : Array Value} (h : LwI w W NF bb sb n D fs mv fv H q S wv) (hb : W.heap[b]? = some (.cells cs 51 (0, 0))) (hp : TryPost w W NF bb m D fs mv C H j e Y) : SeenB Y sb q ∧ Y.heap[b]? = some (.cells cs 51 (0, 0)) := by
  obtain ⟨_, _, _, _, _, _, _, ho, _⟩ := hp
  exact ⟨(h.tried ho).2.1, keepT h.base.bu ho hb (by decide)⟩
theorem infoS : (Tryz.prog.info? 47).map (fun i => (i.zero, i.size, i.bytes)) = some (some zeroSV, 4, 64) := by kernel_rfl
theorem cells5 {W : World} {b : Nat} {x0 x1 x2 x3 x4 : Value} {t : TypeId} (h : W.heap[b]? = some (.cells #[x0, x1, x2, x3, x4] t (0, 0))) :
    W.cell? ⟨b, 0, none⟩ = some x0 ∧ W.cell? ⟨b, 1, none⟩ = some x1 ∧ W.cell? ⟨b, 2, none⟩ = some x2 ∧ W.cell? ⟨b, 3, none⟩ = some x3 ∧ W.cell? ⟨b, 4, none⟩ = some x4 ∧ ∀ i, W.frozen? ⟨b, i, none⟩ = false := by
  refine ⟨?_, ?_, ?_, ?_, ?_, fun i => ?_⟩ <;> simp [World.cell?, World.frozen?, h]
set_option maxHeartbeats 8000000 in
set_option maxRecDepth 100000 in
theorem one_law (ta : Option Addr) (tn tc : Nat) (l : List TurnV) (fa : Option Addr) (fn fc : Nat) (fs : List Int) (w : World) (hl : TurnsR w (.slice ta tn tc) l) (hln : l.length ≤ maxLen) (hf : B.Fs w (.slice fa fn fc) fs) (hfl : fs.length ≤ maxLen) (he : ErrB w) (hw : NcB w) (ht : TabB w) (hg : B.EtB w) :
    Calls Tryz.prog 4 #[.slice ta tn tc, .slice fa fn fc] w fun e w' => e = .returned (.bool true) ∧ Below w.heap.size w w' := by
  have e1 := hl.len
  have e2 : fn = fs.length := by obtain ⟨a, cap, e, _⟩ := hf; cases e; rfl
  subst e1 e2
  unfold maxLen at hln hfl
  by_cases h30 : l.length ≤ 30
  · by_cases h40 : fs.length ≤ 40
    · have z1 : ¬ (30 : Int) < (l.length : Int) := by omega
      have z2 : ¬ (40 : Int) < (fs.length : Int) := by omega
      have HCM := mkH (committed_any w he hw ht hg)
      have HV := mkH (And.intro he (And.intro hw ht))
      have HL := mkH hl
      have HF := mkH hf
      clear he hw ht hg hl hf hln hfl
      go_enter Tryz.func4, Tryz.ntmps4
      go_wp2_with fail
      refine HCM.out.mono ?_
      rintro e w1 ⟨rfl, hb1⟩
      have HB1 := mkH hb1
      have HFA := mkH (B.faults_any w1.heap.size 0 (.map []) [] fs _ _ (.slice fa fs.length fc) _ (B.bu_new w1) (HF.out.keep fun p v _ hc => ((Below.ups hb1 ((Below.refl _ _).alloc (Nat.le_refl _) _)).cell (World.block_lt_of_cell? _ p hc)).trans hc) (by omega))
      clear hb1 HCM
      go_wp2_with fail
      refine HFA.out.mono ?_
      rintro e w2 ⟨rfl, fv2, hu2, ho2⟩
      have HI2 : Hid (LwI w (w2.alloc (.cells #[.int .i64 0, .slice none 0 0, .int .i64 0, .slice none 0 0, .int .i64 0, .slice none 0 0, .int .i64 0, .slice none 0 0, .int .i64 0, .slice none 0 0, .int .i64 0, .slice none 0 0] 48)) w2.heap.size w1.heap.size w2.heap.size 0 (.map []) fs (.map none) fv2 [] (fun _ => (0, spZ)) [] (.slice none 0 0)) := mkH (by
        have hbA := Below.ups HB1.out ((Below.refl _ _).alloc (Nat.le_refl _) (.cells #[.map none, .slice none 0 0] 42))
        have hb2 : Below w.heap.size w w2 := ho2.below hbA hbA.size (fun i e => by rw [e]; exact HB1.out.size)
        refine lw_start ⟨hu2, hb2, HB1.out.size, fun k hk => (by cases hk), HV.out.1, HV.out.2.1, HV.out.2.2, fun b off l c e => ?_⟩ (Stays.of_below hb2) hb2.size
        obtain ⟨a, cap, e', hc, hx⟩ := hu2.2.2
        rw [e] at e'
        injection e' with e1 e2
        have hne : fs ≠ [] := fun h => by rw [h] at e2; cases e2
        obtain ⟨g, o, ea, hcell⟩ := hx hne
        rw [ea] at e1
        injection e1 with e1
        injection e1 with e1
        subst e1
        obtain ⟨y, ys, hy⟩ := List.exists_cons_of_ne_nil hne
        exact cell_lt (hcell 0 y (by rw [hy]; rfl)))
      clear hu2 ho2 HFA HB1 HF HV
      go_wp2_with fail
      generalize w2.alloc (.cells #[.int .i64 0, .slice none 0 0, .int .i64 0, .slice none 0 0, .int .i64 0, .slice none 0 0, .int .i64 0, .slice none 0 0, .int .i64 0, .slice none 0 0, .int .i64 0, .slice none 0 0] 48) = wa at *
      generalize w2.heap.size = sb at *
      generalize w1.heap.size = bb at *
      go_loopw [7, 8] (fun vw vi wr => ∃ (i n : Nat) (D : DataW Unit) (fs' : List Int) (mv fv : Value) (H : List (Com × Snap)) (q : Nat → Nat × Sp) (S : List Sp) (wn : Option Addr) (wc : Nat), i ≤ l.length ∧ vi = .int .i64 i ∧ H.length ≤ i ∧ n ≤ i * 51 ∧ vw = .slice wn H.length wc ∧ Hid (LwI w wr sb bb sb n D fs' mv fv H q S vw)) (fun _ vi _ => l.length - (intOf vi).toNat)
      case atStart => exact ⟨0, 0, _, _, _, _, [], _, [], none, 0, Nat.zero_le _, rfl, Nat.le_refl _, by omega, rfl, HI2⟩
      case round =>
        obtain ⟨i, n, D, fs', mv, fv, H, q, S, wn, wc, hi, rfl, hHi, hn, rfl, HI⟩ := hrel
        clear HI2
        by_cases hlt : i < l.length
        · have hltz : (i : Int) < (l.length : Int) := by omega
          rcases HL.out with ⟨_, e0⟩ | ⟨g, o, c, eg, hcap, hgl, hturn⟩
          · rw [e0] at hlt; simp at hlt
          injection eg with eg1 eg2 eg3
          subst eg1 eg3
          obtain ⟨aa, an, ac, k0, k1, k2, k3, k4, hA, hAl, htl, hIn⟩ := hturn i hlt
          have hm5 : H.length ≤ 30 := by omega
          have q0 := HI.out.st.cell k1 k0
          have q1 := HI.out.st.cell k1 k1
          have q2 := HI.out.st.cell k1 k2
          have q3 := HI.out.st.cell k1 k3
          have q4 := HI.out.st.cell k1 k4
          clear hturn eg2 k0 k1 k2 k3 k4
          generalize l[i]! = x at *
          obtain ⟨sees, who, tx, rd, A⟩ := x
          simp only at q0 q1 q2 q3 q4 hA hAl htl hIn
          have HBX : Hid (Below wr.heap.size wr (wr.alloc (.cells #[.bool sees, .int .i64 who, .string tx, .bool rd, .slice aa an ac] 51))) := mkH ((Below.refl _ _).alloc (Nat.le_refl _) _)
          have HX0 := mkH (heap_alloc_new wr (.cells #[.bool sees, .int .i64 who, .string tx, .bool rd, .slice aa an ac] 51))
          have HSH := mkH (short_any tx rd A aa an ac _ (hA.stays (HI.out.st.trans (Stays.of_below HBX.out))) hAl htl)
          have HA := mkH (And.intro hA hIn)
          clear hA hAl hIn htl
          cases hsh : shortB (tx, rd, A) with
          | false =>
            rw [hsh] at HSH
            have HLW := mkH (Below.ups HI.out.base.low HBX.out)
            clear hsh
            go_wp2_with fail
            refine HSH.out.mono ?_
            rintro e w3 ⟨rfl, hb3⟩
            have HB3 := mkH (Below.ups HLW.out hb3)
            clear q0 q1 q2 q3 q4 hb3 HSH
            go_wp2_with fail
            go_ret
            exact ⟨rfl, HB3.out⟩
          | true =>
            rw [hsh] at HSH
            simp only [shortB, Bool.and_eq_true, decide_eq_true_eq] at hsh
            have HS := mkH hsh
            clear hsh
            go_wp2_with fail
            refine HSH.out.mono ?_
            rintro e w3 ⟨rfl, hb3⟩
            have HI3 := mkH (HI.out.up (Below.ups HBX.out hb3))
            have HX3 := mkH ((hb3.block _ (blk_lt HX0.out)).trans HX0.out)
            have HA3 := mkH HA.out.1
            have hsb : sb < wr.heap.size := blk_lt HI.out.seen
            have HIN := mkH HA.out.2
            clear q0 q1 q2 q3 q4 hb3 HSH HA HBX HX0 HI
            obtain ⟨x0, x1, x2, x3, x4, xf⟩ := cells5 HX3.out
            go_wp2_with fail
            refine (pick_any who 3 (by decide) (by decide) w3).mono ?_
            rintro e w4 ⟨r, hr, rfl, rfl⟩
            cases sees with
            | true =>
              have HLD := mkH (load_any bb n D mv H (-1) H.length w4 HI3.out.base.ground HI3.out.lain HI3.out.past (by omega) (Nat.le_refl _) (.inl ⟨by decide, rfl⟩))
              unfold snv at HLD
              go_wp2_with fail
              refine HLD.out.mono ?_
              rintro e w5 ⟨a1, n1, c1, y2, a2, n2, c2, rfl, hs5, hb5⟩
              have HB6 : Hid (Below w4.heap.size w4 (w5.alloc (.cells #[.int .i64 (H.length : Int), .slice a1 n1 c1, .int .i64 y2, .slice a2 n2 c2] 47))) := mkH (Below.ups hb5 ((Below.refl _ _).alloc (Nat.le_refl _) _))
              have HI6 := mkH (HI3.out.up HB6.out)
              have HS6 := mkH (hs5.up ((Below.refl _ _).alloc (Nat.le_refl _) (.cells #[.int .i64 (H.length : Int), .slice a1 n1 c1, .int .i64 y2, .slice a2 n2 c2] 47)))
              obtain ⟨s0, s1, s2, s3, sf⟩ := HI6.out.seen.at hr
              have f0 := sf (r * 4)
              have f1 := sf (r * 4 + 1)
              have f2 := sf (r * 4 + 2)
              have f3 := sf (r * 4 + 3)
              have hrz0 : (0 : Int) ≤ (r : Int) := by omega
              have hrz : (r : Int) < 3 := by omega
              clear hs5 hb5 HLD HB6 x0 x1 x2 x3 x4 xf sf
              go_wp2_with fail
              exact ⟨⟨i + 1, n, D, fs', mv, fv, H, setQ q r (H.length, ((a1, n1, c1), y2, (a2, n2, c2))), S, wn, wc, by omega, by go_num, by omega, by omega, rfl, mkH (HI6.out.sees hr (p := ((a1, n1, c1), y2, (a2, n2, c2))) HS6.out)⟩, by simp [intOf]; omega⟩
            | false =>
              have iz1 : (0 : Int) ≤ (i : Int) := by omega
              have iz2 : (i : Int) < 30 := by omega
              have HB5 : Hid (Below w4.heap.size w4 (w4.alloc (.cells #[.int .u8 (97 + (i : Int))] 5))) := mkH ((Below.refl _ _).alloc (Nat.le_refl _) _)
              have hcv := conv1 (w4.alloc (.cells #[.int .u8 (97 + (i : Int))] 5)) w4.heap.size i (by omega) (cell1 (heap_alloc_new w4 _)).1
              have HX5 := mkH ((HB5.out.block _ (blk_lt HX3.out)).trans HX3.out)
              have HI5 := mkH (HI3.out.up HB5.out)
              generalize hbt : (⟨#[UInt8.ofNat (97 + i)]⟩ : ByteArray) = bt at *
              have hbs : bt.size = 1 := by rw [← hbt]; rfl
              clear hbt
              obtain ⟨_, _, _, _, _, xg⟩ := cells5 HX5.out
              have g2 := xg 2
              clear xg
              go_wp2_with fail
              have hP := heap_setC _ _ 2 _ _ (.string (⟨#[116]⟩ ++ bt)) HX5.out
              have HI6 := mkH (HI5.out.store HX5.out (Nat.le_of_lt hsb) (grown_setC _ wr.heap.size 2 (.string (⟨#[116]⟩ ++ bt))))
              have HX6 : Hid (((w4.alloc (.cells #[.int .u8 (97 + (i : Int))] 5)).setCell ⟨wr.heap.size, 2, none⟩ (.string (⟨#[116]⟩ ++ bt))).heap[wr.heap.size]? = some (.cells #[.bool false, .int .i64 who, .string (⟨#[116]⟩ ++ bt), .bool rd, .slice aa an ac] 51 (0, 0))) := mkH hP
              have hsz6 : sb ≤ ((w4.alloc (.cells #[.int .u8 (97 + (i : Int))] 5)).setCell ⟨wr.heap.size, 2, none⟩ (.string (⟨#[116]⟩ ++ bt))).heap.size := Nat.le_of_lt (Nat.lt_trans hsb (blk_lt HX6.out))
              have hts : (⟨#[116]⟩ ++ bt : ByteArray).size ≤ 60 := by
                rw [bsize_app, hbs]
                decide
              generalize (⟨#[116]⟩ ++ bt : ByteArray) = txn at *
              generalize (w4.alloc (.cells #[.int .u8 (97 + (i : Int))] 5)).setCell ⟨wr.heap.size, 2, none⟩ (.string txn) = w6 at *
              clear hP hcv g2 HX5 HI5 HB5 x0 x1 x2 x3 x4 xf HX3 HI3
              have HI7 := mkH (HI6.out.up (Below.refl _ w6).drew)
              have HX7 : Hid (w6.drew.heap[wr.heap.size]? = _) := mkH HX6.out
              obtain ⟨⟨jj, ⟨a1, n1, c1⟩, y2, ⟨a2, n2, c2⟩⟩, hqr⟩ : ∃ z, q r = z := ⟨_, rfl⟩
              obtain ⟨s0, s1, s2, s3, sf⟩ := HI6.out.seen.at hr
              have hlw := HI7.out.low r hr
              rw [hqr] at s0 s1 s2 s3 hlw
              simp only [sv] at s0 s1 s2 s3
              obtain ⟨x0, x1, x2, x3, x4, xf⟩ := cells5 HX6.out
              have HT := mkH (try_any w sb bb n D fs' mv fv txn rd A aa an ac H jj a1 n1 c1 y2 a2 n2 c2 w6.drew HI7.out.base hsz6 (by omega) HI7.out.lain HI7.out.past (by omega) hlw.1 hlw.2 ((HA3.out.stays HI7.out.st).short HS.out.2.2) HS.out.2.1 hts (fun a ha hr => lineOk_of hr (HIN.out a ha)))
              unfold snv at HT
              have hrz0 : (0 : Int) ≤ (r : Int) := by omega
              have hrz : (r : Int) < 3 := by omega
              have HQR := mkH hqr
              clear hlw hqr sf
              go_region_held3 (fun w' => w'.cell? ⟨sb, r * 4, none⟩ = some (.int .i64 (jj : Int)) ∧ w'.cell? ⟨sb, r * 4 + 1, none⟩ = some (.slice a1 n1 c1) ∧ w'.cell? ⟨sb, r * 4 + 2, none⟩ = some (.int .i64 y2) ∧ w'.cell? ⟨sb, r * 4 + 3, none⟩ = some (.slice a2 n2 c2) ∧ w'.cell? ⟨wr.heap.size, 2, none⟩ = some (.string txn) ∧ w'.cell? ⟨wr.heap.size, 3, none⟩ = some (.bool rd) ∧ w'.cell? ⟨wr.heap.size, 4, none⟩ = some (.slice aa an ac)) (go_keep)
                (first
                  | (go_at_call 15; refine HT.out.mono ?_; intro e w7 hp7; obtain ⟨v7, er7, rfl, HP7⟩ := try_form hp7
                     have hk7 := tried_cells HI7.out HX7.out HP7.out
                     have HX8 := mkH hk7.2
                     obtain ⟨m0, m1, m2, m3, _⟩ := hk7.1.at hr
                     rw [HQR.out] at m0 m1 m2 m3
                     simp only [sv] at m0 m1 m2 m3
                     obtain ⟨_, _, m4, m5, m6, _⟩ := cells5 hk7.2
                     clear hp7 hk7))
              obtain ⟨n', D', fs2, mv2, fv2', hB7, hn7, ho7, hl7, hcase⟩ := HP7.out
              rcases hcase with ⟨t, he7, hap, hok, hnf, hD⟩ | ⟨ty, xx, he7, hD, hno⟩
              · injection he7 with he7
                injection he7 with he7
                simp only [Array.mk.injEq, List.cons.injEq, Value.int.injEq, and_true, true_and] at he7
                obtain ⟨rfl, rfl⟩ := he7
                have hlay : Lay (txn, rd, A) := ⟨hok, fun a ha => by
                  simp only [printOk, Bool.and_eq_true, List.all_eq_true] at hok
                  exact lineOk_of (hok.2 a ha) (HIN.out a ha), HS.out.2.1⟩
                have HJ := mkH (HI7.out.yes ho7 hB7 (by omega) hD hap hlay)
                have HLY := mkH hlay
                have hn8 : n' ≤ (i + 1) * 51 := by omega
                have HXW := mkH HX8.out
                clear hB7 hn7 ho7 hl7 hnf hD hap hok hlay HP7 m0 m1 m2 m3 m4 m5 m6 s0 s1 s2 s3 x0 x1 x2 x3 x4 xf HT HX6 HX7 HX8 HI6 HI7
                obtain ⟨mm, hmm⟩ : ∃ mm, mm = H.length + 1 := ⟨_, rfl⟩
                have hz : (H.length : Int) + 1 = (mm : Int) := by omega
                rw [← hmm]
                obtain ⟨H', hH'⟩ : ∃ H', H ++ [((txn, rd, A), t)] = H' := ⟨_, rfl⟩
                have hlen' : H'.length = mm := by rw [← hH', List.length_append, hmm]; rfl
                have hat : (H'[H.length]?).map (·.1) = some (txn, rd, A) := by rw [← hH']; simp
                have hLA := HJ.out.lain
                have hPA := HJ.out.past
                rw [hH'] at hLA hPA
                obtain ⟨hhk, hak⟩ := (hLA.2 H.length (by omega)).1 _ hat
                rw [← hmm] at hhk hak
                have HLA := mkH (And.intro hLA (And.intro hPA (And.intro hhk hak)))
                have HLD := mkH (load_any bb n' D' mv2 H' (-1) mm w7 HJ.out.base.ground hLA hPA (by omega) (by omega) (.inl ⟨by decide, hlen'.symm⟩))
                have HM := mkH hmm
                have HHX := mkH hH'
                have HLE := mkH hlen'
                unfold snv at HLD
                clear hLA hPA hhk hak hat hmm hH' hlen'
                go_wp2_with fail
                refine HLD.out.mono ?_
                rintro e w8 ⟨b1, m1, d1, z2, b2, m2, d2, rfl, hs8, hb8⟩
                have HB8 : Hid (Below w7.heap.size w7 (w8.alloc (.cells #[.int .i64 (mm : Int), .slice b1 m1 d1, .int .i64 z2, .slice b2 m2 d2] 47))) := mkH (Below.ups hb8 ((Below.refl _ _).alloc (Nat.le_refl _) _))
                have HN8 := mkH (heap_alloc_new w8 (.cells #[.int .i64 (mm : Int), .slice b1 m1 d1, .int .i64 z2, .slice b2 m2 d2] 47))
                have HS8 := mkH (hs8.up ((Below.refl _ _).alloc (Nat.le_refl _) (.cells #[.int .i64 (mm : Int), .slice b1 m1 d1, .int .i64 z2, .slice b2 m2 d2] 47)))
                clear hs8 hb8 HLD
                go_wp2_with fail
                generalize w8.alloc (.cells #[.int .i64 (mm : Int), .slice b1 m1 d1, .int .i64 z2, .slice b2 m2 d2] 47) = wj at *
                generalize w8.heap.size = nb at *
                have HJ8 := mkH (HJ.out.up HB8.out)
                have HXJ := mkH ((HB8.out.block _ (blk_lt HXW.out)).trans HXW.out)
                have hm99 : mm < 100 := by have := HM.out; omega
                have HKE := key_from hm99 HJ8.out.base.ground.tb
                have HGT := get_from HJ8.out.base.ground mm (printB (txn, rd, A)) .nilIface (.inl ⟨HLA.out.2.2.1, HLA.out.2.2.2, rfl⟩)
                have HPA := parse_lay HLY.out HJ8.out.base.ground.er HJ8.out.base.ground.nc HJ8.out.base.ground.tb
                simp only at HPA
                generalize printB (txn, rd, A) = pb at *
                generalize keyB mm = key at *
                clear HB8 HXW HJ
                refine (HKE.out _ (Below.refl _ _)).mono ?_
                rintro e w9 ⟨rfl, hb9⟩
                have HB9 := mkH hb9
                clear hb9 HKE
                go_wp2_with fail
                refine (HGT.out _ HB9.out).mono ?_
                rintro e w10 ⟨rfl, hb10⟩
                have HB10 := mkH hb10
                clear hb10 HGT HB9
                go_wp2_with fail
                refine (HPA.out _ HB10.out).mono ?_
                rintro e w11 ⟨ba, bn, bc, rfl, hA11, hb11⟩
                have HBL : Hid (Below wj.heap.size wj (w11.alloc (.cells #[.string txn, .bool rd, .slice ba bn bc] 24))) := mkH (Below.ups hb11 ((Below.refl _ _).alloc (Nat.le_refl _) _))
                have HJL := mkH (HJ8.out.up HBL.out)
                have HXL := mkH ((HBL.out.block _ (blk_lt HXJ.out)).trans HXJ.out)
                have HAL := mkH (alike_same txn rd A ba bn bc aa an ac _ (hA11.below ((Below.refl _ _).alloc (Nat.le_refl _) (.cells #[.string txn, .bool rd, .slice ba bn bc] 24))) ((HA3.out.stays HJL.out.st).short HS.out.2.2) HLY.out.ok (by have := HS.out.2.1; omega) (by unfold maxLen; omega) (fun a ha _ => HLY.out.lines a ha) HJL.out.base.ground.nc HJL.out.base.ground.tb)
                obtain ⟨x0, x1, x2, x3, x4, xf⟩ := cells5 HXL.out
                clear hA11 hb11 HPA HB10
                go_wp2_with fail
                refine HAL.out.mono ?_
                rintro e w12 ⟨rfl, hb12⟩
                have HBM := mkH (Below.ups HBL.out hb12)
                have HJM := mkH (HJ8.out.up HBM.out)
                have HNM := mkH ((HBM.out.block _ (blk_lt HN8.out)).trans HN8.out)
                have HSM := mkH (HS8.out.up HBM.out)
                clear x0 x1 x2 x3 x4 xf hb12 HAL HXL HJL HBL HXJ HJ8 HN8 HS8 HBM
                obtain ⟨x0, x1, x2, x3, xf⟩ := cells4 HNM.out
                have HA8 : Hid (Below w12.heap.size w12 (w12.alloc (.cells #[.int .i64 (mm : Int), .slice b1 m1 d1, .int .i64 z2, .slice b2 m2 d2] 47))) := mkH ((Below.refl _ _).alloc (Nat.le_refl _) _)
                have HJN := mkH (HJM.out.up HA8.out)
                have HSN := mkH (HSM.out.up HA8.out)
                have hbase : sb + 1 ≤ w12.heap.size := blk_lt HJM.out.seen
                obtain ⟨iS, is1, is2, is3, is4⟩ := info_parts infoS
                have HIS := mkH (And.intro is1 (And.intro is2 (And.intro is3 is4)))
                clear is1 is2 is3 is4 HSM
                have HROW := mkH HJN.out.row
                go_wp2_with (first
                  | (at_builtin; refine wpList_append_own _ rfl _ _ 49 rfl (sb + 1) 47 iS zeroSV 4 64 Tryz.underlying49 HIS.out.1 HIS.out.2.1 HIS.out.2.2.1 HIS.out.2.2.2 rfl (by decide) (.slice wn H.length wc) H.length _ rfl HROW.out ⟨w12.heap.size, 0, none⟩ 1 1 (spC mm ((b1, m1, d1), z2, (b2, m2, d2))) rfl rfl (fun j u hj => World.news_of_block (heap_alloc_new _ _) j u hj) (by intro u hu; simp [spC, sv] at hu; rcases hu with rfl | rfl | rfl | rfl <;> rfl) (by unfold maxLen; omega) (by omega) (Nat.le_trans hbase HA8.out.size) ?_
                     intro v1 w13 hown13 hg13 _
                     have HO13 := mkH hown13
                     have HG13 := mkH hg13
                     obtain ⟨a', c', rfl⟩ := own_sl hown13
                     clear hown13 hg13))
                obtain ⟨S', hS'⟩ : ∃ S', S ++ [((b1, m1, d1), z2, (b2, m2, d2))] = S' := ⟨_, rfl⟩
                have HIK : Hid (LwI w w13 sb bb sb n' D' fs2 mv2 fv2' H' q S' (.slice a' mm c')) := mkH (by
                  have h0 := HJN.out
                  have h1 := HSN.out
                  have h2 := HO13.out
                  have h3 := HG13.out
                  generalize w12.alloc (.cells #[.int .i64 (mm : Int), .slice b1 m1 d1, .int .i64 z2, .slice b2 m2 d2] 47) = wv at h0 h1 h3
                  rw [HM.out] at h1 h2 ⊢
                  rw [← HHX.out] at h1 ⊢
                  rw [← hS']
                  exact h0.noted h1 h2 h3)
                have hlen' := HLE.out
                have hmb : mm ≤ i + 1 := by have := HM.out; omega
                rw [← HM.out]
                clear x0 x1 x2 x3 xf HJN HSN HA8 HJM HNM HO13 HG13 HROW hS'
                go_loopw [21] (fun vx wy => ∃ y : Nat, y ≤ mm ∧ vx = .int .i64 y ∧ Hid (Below w13.heap.size w13 wy)) (fun vx _ => mm - (intOf vx).toNat)
                case atStart => exact ⟨0, Nat.zero_le _, rfl, mkH (Below.refl _ _)⟩
                case round =>
                  obtain ⟨y, hy, rfl, HBY⟩ := hrel
                  by_cases hylt : y < mm
                  · have hylz : (y : Int) < (mm : Int) := by omega
                    have HIY := mkH (HIK.out.up HBY.out)
                    have HLY := mkH (load_any bb n' D' mv2 H' ((y + 1 : Nat) : Int) (y + 1) wr HIY.out.base.ground HIY.out.lain HIY.out.past (by omega) (by omega) (.inr rfl))
                    have ey : ((y + 1 : Nat) : Int) = (y : Int) + 1 := by omega
                    rw [ey] at HLY
                    unfold snv at HLY
                    obtain ⟨gg, rfl, hwc, v0, v1, v2, v3⟩ := HIY.out.wasAt (y := y) (by omega)
                    obtain ⟨⟨⟨e1', e2', e3'⟩, e4', ⟨e5', e6', e7'⟩⟩, hsy⟩ : ∃ z, S'[y]! = z := ⟨_, rfl⟩
                    have hwy := HIY.out.was y (by omega)
                    rw [hsy] at v1 v2 v3 hwy
                    rw [ey] at v0
                    simp only [sv] at v1 v3
                    simp only at v2
                    have HWY := mkH hwy
                    clear hwy hsy
                    have hyz : (0 : Int) ≤ (y : Int) := by omega
                    have hyz2 : (y : Int) + 1 ≤ 41 := by omega
                    go_wp2_with fail
                    refine HLY.out.mono ?_
                    rintro e w9 ⟨j1, o1', p1', j2, j3, o2', p2', rfl, hs9, hb9⟩
                    have HB9 : Hid (Below wr.heap.size wr (w9.alloc (.cells #[.int .i64 ((y : Int) + 1), .slice j1 o1' p1', .int .i64 j2, .slice j3 o2' p2'] 47))) := mkH (Below.ups hb9 ((Below.refl _ _).alloc (Nat.le_refl _) _))
                    have HN9 := mkH (heap_alloc_new w9 (.cells #[.int .i64 ((y : Int) + 1), .slice j1 o1' p1', .int .i64 j2, .slice j3 o2' p2'] 47))
                    have HS9 := mkH (hs9.up ((Below.refl _ _).alloc (Nat.le_refl _) (.cells #[.int .i64 ((y : Int) + 1), .slice j1 o1' p1', .int .i64 j2, .slice j3 o2' p2'] 47)))
                    clear hs9 hb9 HLY
                    go_wp2_with fail
                    generalize w9.alloc (.cells #[.int .i64 ((y : Int) + 1), .slice j1 o1' p1', .int .i64 j2, .slice j3 o2' p2'] 47) = wz at *
                    generalize w9.heap.size = sx at *
                    have HSS : Hid (∀ W, Below wz.heap.size wz W → Calls Tryz.prog 18 #[.agg #[.int .i64 ((y : Int) + 1), .slice j1 o1' p1', .int .i64 j2, .slice j3 o2' p2'], .agg #[.int .i64 ((y : Int) + 1), .slice e1' e2' e3', .int .i64 e4', .slice e5' e6' e7']] W fun e w' => e = .returned (.bool true) ∧ Below wz.heap.size wz w') := mkH (fun W hW => by
                      obtain ⟨gd, nd, _⟩ := past_good HIY.out.past (i := y + 1) (by omega)
                      have hx := HS9.out.up hW
                      have hyy := (HWY.out.up HB9.out).up hW
                      unfold spV snv at hyy
                      rw [ey] at hyy
                      exact (sameSet_yes _ _ _ _ W hx hyy gd gd nd nd (alike_self _)).mono fun _ _ ⟨h1, h2⟩ => ⟨h1, Below.ups hW h2⟩)
                    have HC9 : Hid (∀ W, Below wz.heap.size wz W → (W.cell? ⟨sx, 0, none⟩ = some (.int .i64 ((y : Int) + 1)) ∧ W.cell? ⟨sx, 1, none⟩ = some (.slice j1 o1' p1') ∧ W.cell? ⟨sx, 2, none⟩ = some (.int .i64 j2) ∧ W.cell? ⟨sx, 3, none⟩ = some (.slice j3 o2' p2')) ∧ W.cell? ⟨gg, y * 4, none⟩ = some (.int .i64 ((y : Int) + 1)) ∧ W.cell? ⟨gg, y * 4 + 1, none⟩ = some (.slice e1' e2' e3') ∧ W.cell? ⟨gg, y * 4 + 2, none⟩ = some (.int .i64 e4') ∧ W.cell? ⟨gg, y * 4 + 3, none⟩ = some (.slice e5' e6' e7')) := mkH (fun W hW => by
                      obtain ⟨d0, d1', d2', d3', _⟩ := cells4 ((hW.block _ (blk_lt HN9.out)).trans HN9.out)
                      have up : ∀ {p : Addr} {u : Value}, wr.cell? p = some u → W.cell? p = some u := fun hc => (hW.cell (World.block_lt_of_cell? wz _ ((HB9.out.cell (World.block_lt_of_cell? wr _ hc)).trans hc))).trans ((HB9.out.cell (World.block_lt_of_cell? wr _ hc)).trans hc)
                      exact ⟨⟨d0, d1', d2', d3'⟩, up v0, up v1, up v2, up v3⟩)
                    obtain ⟨⟨d0, d1', d2', d3'⟩, f0, f1, f2, f3⟩ := HC9.out wz (Below.refl _ _)
                    clear v0 v1 v2 v3
                    go_region_held3 (fun w' => w'.cell? ⟨sx, 0, none⟩ = some (.int .i64 ((y : Int) + 1)) ∧ w'.cell? ⟨sx, 1, none⟩ = some (.slice j1 o1' p1') ∧ w'.cell? ⟨sx, 2, none⟩ = some (.int .i64 j2) ∧ w'.cell? ⟨sx, 3, none⟩ = some (.slice j3 o2' p2') ∧ w'.cell? ⟨gg, y * 4, none⟩ = some (.int .i64 ((y : Int) + 1)) ∧ w'.cell? ⟨gg, y * 4 + 1, none⟩ = some (.slice e1' e2' e3') ∧ w'.cell? ⟨gg, y * 4 + 2, none⟩ = some (.int .i64 e4') ∧ w'.cell? ⟨gg, y * 4 + 3, none⟩ = some (.slice e5' e6' e7')) (go_keep)
                      (first
                        | (go_at_call 18; refine (HSS.out _ (by first | exact Below.refl _ _ | exact (Below.refl _ _).drew)).mono ?_; rintro e wq ⟨rfl, hbq⟩
                           obtain ⟨⟨h0, h1', h2', h3'⟩, l0, l1, l2, l3⟩ := HC9.out wq hbq))
                    have HBQ := mkH (Below.ups HBY.out (Below.ups HB9.out hbq))
                    clear d0 d1' d2' d3' f0 f1 f2 f3 h0 h1' h2' h3' l0 l1 l2 l3 hbq
                    go_wp2_with fail
                    exact ⟨⟨y + 1, by omega, by go_num, HBQ⟩, by simp [intOf]; omega⟩
                  · have hylz : ¬ (y : Int) < (mm : Int) := by omega
                    have HIY := mkH (HIK.out.up HBY.out)
                    go_wp2_with fail
                    exact ⟨⟨i + 1, n', D', fs2, mv2, fv2', H', q, S', a', c', by omega, by go_num, by omega, hn8, by rw [hlen'], HIY⟩, by simp [intOf]; omega⟩
              · injection he7 with he7
                injection he7 with he7
                simp only [Array.mk.injEq, List.cons.injEq, Value.int.injEq, and_true, true_and] at he7
                obtain ⟨rfl, rfl⟩ := he7
                subst hD
                have HI8 := mkH (HI7.out.no ho7 hB7)
                have hn8 : n' ≤ (i + 1) * 51 := by omega
                clear hB7 hn7 ho7 hl7 hno HP7 m0 m1 m2 m3 m4 m5 m6 s0 s1 s2 s3 x0 x1 x2 x3 x4 xf HT HX6 HX7 HX8 HI6 HI7
                have HLD := mkH (load_any bb n' D' mv2 H (-1) H.length w7 HI8.out.base.ground HI8.out.lain HI8.out.past (by omega) (Nat.le_refl _) (.inl ⟨by decide, rfl⟩))
                unfold snv at HLD
                go_wp2_with fail
                refine HLD.out.mono ?_
                rintro e w8 ⟨b1, m1, d1, z2, b2, m2, d2, rfl, hs8, hb8⟩
                have HIK := mkH (HI8.out.up (Below.ups hb8 ((Below.refl _ _).alloc (Nat.le_refl _) (.cells #[.int .i64 (H.length : Int), .slice b1 m1 d1, .int .i64 z2, .slice b2 m2 d2] 47))))
                clear hs8 hb8 HLD HI8
                go_wp2_with fail
                generalize w8.alloc (.cells #[.int .i64 (H.length : Int), .slice b1 m1 d1, .int .i64 z2, .slice b2 m2 d2] 47) = wk at *
                go_loopw [21] (fun vx wy => ∃ y : Nat, y ≤ H.length ∧ vx = .int .i64 y ∧ Hid (Below wk.heap.size wk wy)) (fun vx _ => H.length - (intOf vx).toNat)
                case atStart => exact ⟨0, Nat.zero_le _, rfl, mkH (Below.refl _ _)⟩
                case round =>
                  obtain ⟨y, hy, rfl, HBY⟩ := hrel
                  by_cases hylt : y < H.length
                  · have hylz : (y : Int) < (H.length : Int) := by omega
                    have HIY := mkH (HIK.out.up HBY.out)
                    have HLY := mkH (load_any bb n' D' mv2 H ((y + 1 : Nat) : Int) (y + 1) wr HIY.out.base.ground HIY.out.lain HIY.out.past (by omega) (by omega) (.inr rfl))
                    have ey : ((y + 1 : Nat) : Int) = (y : Int) + 1 := by omega
                    rw [ey] at HLY
                    unfold snv at HLY
                    obtain ⟨gg, rfl, hwc, v0, v1, v2, v3⟩ := HIY.out.wasAt (y := y) (by omega)
                    obtain ⟨⟨⟨e1', e2', e3'⟩, e4', ⟨e5', e6', e7'⟩⟩, hsy⟩ : ∃ z, S[y]! = z := ⟨_, rfl⟩
                    have hwy := HIY.out.was y (by omega)
                    rw [hsy] at v1 v2 v3 hwy
                    rw [ey] at v0
                    simp only [sv] at v1 v3
                    simp only at v2
                    have HWY := mkH hwy
                    clear hwy hsy
                    have hyz : (0 : Int) ≤ (y : Int) := by omega
                    have hyz2 : (y : Int) + 1 ≤ 41 := by omega
                    go_wp2_with fail
                    refine HLY.out.mono ?_
                    rintro e w9 ⟨j1, o1', p1', j2, j3, o2', p2', rfl, hs9, hb9⟩
                    have HB9 : Hid (Below wr.heap.size wr (w9.alloc (.cells #[.int .i64 ((y : Int) + 1), .slice j1 o1' p1', .int .i64 j2, .slice j3 o2' p2'] 47))) := mkH (Below.ups hb9 ((Below.refl _ _).alloc (Nat.le_refl _) _))
                    have HN9 := mkH (heap_alloc_new w9 (.cells #[.int .i64 ((y : Int) + 1), .slice j1 o1' p1', .int .i64 j2, .slice j3 o2' p2'] 47))
                    have HS9 := mkH (hs9.up ((Below.refl _ _).alloc (Nat.le_refl _) (.cells #[.int .i64 ((y : Int) + 1), .slice j1 o1' p1', .int .i64 j2, .slice j3 o2' p2'] 47)))
                    clear hs9 hb9 HLY
                    go_wp2_with fail
                    generalize w9.alloc (.cells #[.int .i64 ((y : Int) + 1), .slice j1 o1' p1', .int .i64 j2, .slice j3 o2' p2'] 47) = wz at *
                    generalize w9.heap.size = sx at *
                    have HSS : Hid (∀ W, Below wz.heap.size wz W → Calls Tryz.prog 18 #[.agg #[.int .i64 ((y : Int) + 1), .slice j1 o1' p1', .int .i64 j2, .slice j3 o2' p2'], .agg #[.int .i64 ((y : Int) + 1), .slice e1' e2' e3', .int .i64 e4', .slice e5' e6' e7']] W fun e w' => e = .returned (.bool true) ∧ Below wz.heap.size wz w') := mkH (fun W hW => by
                      obtain ⟨gd, nd, _⟩ := past_good HIY.out.past (i := y + 1) (by omega)
                      have hx := HS9.out.up hW
                      have hyy := (HWY.out.up HB9.out).up hW
                      unfold spV snv at hyy
                      rw [ey] at hyy
                      exact (sameSet_yes _ _ _ _ W hx hyy gd gd nd nd (alike_self _)).mono fun _ _ ⟨h1, h2⟩ => ⟨h1, Below.ups hW h2⟩)
                    have HC9 : Hid (∀ W, Below wz.heap.size wz W → (W.cell? ⟨sx, 0, none⟩ = some (.int .i64 ((y : Int) + 1)) ∧ W.cell? ⟨sx, 1, none⟩ = some (.slice j1 o1' p1') ∧ W.cell? ⟨sx, 2, none⟩ = some (.int .i64 j2) ∧ W.cell? ⟨sx, 3, none⟩ = some (.slice j3 o2' p2')) ∧ W.cell? ⟨gg, y * 4, none⟩ = some (.int .i64 ((y : Int) + 1)) ∧ W.cell? ⟨gg, y * 4 + 1, none⟩ = some (.slice e1' e2' e3') ∧ W.cell? ⟨gg, y * 4 + 2, none⟩ = some (.int .i64 e4') ∧ W.cell? ⟨gg, y * 4 + 3, none⟩ = some (.slice e5' e6' e7')) := mkH (fun W hW => by
                      obtain ⟨d0, d1', d2', d3', _⟩ := cells4 ((hW.block _ (blk_lt HN9.out)).trans HN9.out)
                      have up : ∀ {p : Addr} {u : Value}, wr.cell? p = some u → W.cell? p = some u := fun hc => (hW.cell (World.block_lt_of_cell? wz _ ((HB9.out.cell (World.block_lt_of_cell? wr _ hc)).trans hc))).trans ((HB9.out.cell (World.block_lt_of_cell? wr _ hc)).trans hc)
                      exact ⟨⟨d0, d1', d2', d3'⟩, up v0, up v1, up v2, up v3⟩)
                    obtain ⟨⟨d0, d1', d2', d3'⟩, f0, f1, f2, f3⟩ := HC9.out wz (Below.refl _ _)
                    clear v0 v1 v2 v3
                    go_region_held3 (fun w' => w'.cell? ⟨sx, 0, none⟩ = some (.int .i64 ((y : Int) + 1)) ∧ w'.cell? ⟨sx, 1, none⟩ = some (.slice j1 o1' p1') ∧ w'.cell? ⟨sx, 2, none⟩ = some (.int .i64 j2) ∧ w'.cell? ⟨sx, 3, none⟩ = some (.slice j3 o2' p2') ∧ w'.cell? ⟨gg, y * 4, none⟩ = some (.int .i64 ((y : Int) + 1)) ∧ w'.cell? ⟨gg, y * 4 + 1, none⟩ = some (.slice e1' e2' e3') ∧ w'.cell? ⟨gg, y * 4 + 2, none⟩ = some (.int .i64 e4') ∧ w'.cell? ⟨gg, y * 4 + 3, none⟩ = some (.slice e5' e6' e7')) (go_keep)
                      (first
                        | (go_at_call 18; refine (HSS.out _ (by first | exact Below.refl _ _ | exact (Below.refl _ _).drew)).mono ?_; rintro e wq ⟨rfl, hbq⟩
                           obtain ⟨⟨h0, h1', h2', h3'⟩, l0, l1, l2, l3⟩ := HC9.out wq hbq))
                    have HBQ := mkH (Below.ups HBY.out (Below.ups HB9.out hbq))
                    clear d0 d1' d2' d3' f0 f1 f2 f3 h0 h1' h2' h3' l0 l1 l2 l3 hbq
                    go_wp2_with fail
                    exact ⟨⟨y + 1, by omega, by go_num, HBQ⟩, by simp [intOf]; omega⟩
                  · have hylz : ¬ (y : Int) < (H.length : Int) := by omega
                    have HIY := mkH (HIK.out.up HBY.out)
                    go_wp2_with fail
                    exact ⟨⟨i + 1, n', D', fs2, mv2, fv2', H, q, S, wn, wc, by omega, by go_num, by omega, hn8, rfl, HIY⟩, by simp [intOf]; omega⟩
        · have hltz : ¬ (i : Int) < (l.length : Int) := by omega
          have HLW := mkH HI.out.base.low
          go_wp2_with fail
          go_ret
          exact ⟨rfl, HLW.out⟩
    · have z1 : ¬ (30 : Int) < (l.length : Int) := by omega
      have z2 : (40 : Int) < (fs.length : Int) := by omega
      clear he hw ht hg hl hf
      go_enter Tryz.func4, Tryz.ntmps4
      go_wp2
      go_ret
      exact ⟨rfl, Below.refl _ _⟩
  · have z1 : (30 : Int) < (l.length : Int) := by omega
    clear he hw ht hg hl hf
    go_enter Tryz.func4, Tryz.ntmps4
    go_wp2
    go_ret
    exact ⟨rfl, Below.refl _ _⟩
end Go.Proofs.YtfppidnfomelpaaGreatDoor

namespace Go.Proofs.YtfppidnfomelpaaGreatDoor
open Go.ChangeShapes Go.WideShapes Go.ChangeAt Go.RowKit Go.Joins Go.Deep Go.Proofs

theorem sizeTurn : Tryz.prog.cellsOf 51 = 5 := by kernel_rfl
abbrev TurnQ := TurnV × Sv
def encT (q : TurnQ) : List Value := [.bool q.1.1, .int .i64 q.1.2.1, .string q.1.2.2.1, .bool q.1.2.2.2.1, sv q.2]
def PT (W : World) (q : TurnQ) : Prop := ActsR W (sv q.2) q.1.2.2.2.2 ∧ q.1.2.2.2.2.length ≤ maxLen ∧ q.1.2.2.1.size ≤ maxLen ∧ ∀ a ∈ q.1.2.2.2.2, Ints a
section
variable {H : Type} {enc : TypeId × Value → H} {W : World} {sp : Nat → Bool} {held : Bool} {n : Nat} {cs : List Value} {x : DataW H × List MemPlace}
set_option maxRecDepth 100000 in
theorem open_turn (h : DataW.trod enc Tryz.prog W 0 sp held n 51 cs = some x) : ∃ q : TurnQ, cs = encT q ∧ PT W q := by
  obtain ⟨y0, y1, y2, n1, _, hl, h0, h1, h2⟩ := trod_struct3 Tryz.underlying51 h
  rw [sizeTurn] at hl
  obtain ⟨v0, cs1, rfl, hl1⟩ := list_cons (n := 4) hl
  obtain ⟨v1, cs2, rfl, hl2⟩ := list_cons (n := 3) hl1
  obtain ⟨v2, cs3, rfl, hl3⟩ := list_cons (n := 2) hl2
  obtain ⟨v3, cs4, rfl, hl4⟩ := list_cons (n := 1) hl3
  obtain ⟨v4, cs5, rfl, hl5⟩ := list_cons (n := 0) hl4
  obtain rfl := list_nil hl5
  simp only [size4, size3, sizeCom, List.drop_zero, List.drop_succ_cons, List.take_succ_cons, List.take_zero] at h0 h1 h2
  obtain ⟨a0, e0, _⟩ := DataW.trod_bool Tryz.underlying4 h0
  obtain ⟨a1, e1, _, _⟩ := DataW.trod_int Tryz.underlying3 h1
  obtain ⟨q, e2, hq⟩ := open_com h2
  unfold encK at e2
  simp at e0 e1 e2
  obtain ⟨e2, e3, e4⟩ := e2
  subst e0 e1 e2 e3 e4
  exact ⟨((a0, a1, q.1), q.2), rfl, hq⟩
theorem lies_turns {v : Value} {l : List TurnQ} (h : Lies 5 encT W v l) (hp : ∀ q ∈ l, PT W q) : TurnsR W v (l.map (·.1)) := by
  rcases h with ⟨h1, h2⟩ | ⟨g, o, c, e, hc, hg, hcell⟩
  · exact .inl ⟨h1, by rw [h2]; rfl⟩
  · refine .inr ⟨g, o, c, by rw [List.length_map]; exact e, by rw [List.length_map]; exact hc, hg, fun j hj => ?_⟩
    rw [List.length_map] at hj
    have hq := hp l[j]! (by rw [getElem!_pos l j hj]; exact List.getElem_mem hj)
    have he : (l.map (·.1))[j]! = l[j]!.1 := by
      rw [getElem!_pos _ j (by rw [List.length_map]; exact hj), List.getElem_map, getElem!_pos l j hj]
    rw [he]
    exact ⟨_, _, _, hcell j hj 0 _ rfl, hcell j hj 1 _ rfl, hcell j hj 2 _ rfl, hcell j hj 3 _ rfl, hcell j hj 4 _ rfl, hq⟩
theorem lies_fs {v : Value} {l : List Int} (h : Lies 1 (fun x : Int => [Value.int .i64 x]) W v l) : B.Fs W v l := by
  rcases h with ⟨⟨a, c, rfl⟩, rfl⟩ | ⟨g, o, c, e, hc, hg, hcell⟩
  · exact ⟨a, c, rfl, Nat.zero_le _, fun hn => absurd rfl hn⟩
  · refine ⟨_, c, e, hc, fun _ => ⟨g, o, rfl, fun j x hx => ?_⟩⟩
    have hj : j < l.length := by
      rcases Nat.lt_or_ge j l.length with h' | h'
      · exact h'
      · rw [List.getElem?_eq_none h'] at hx; cases hx
    have hv : l[j]! = x := by
      rw [getElem!_pos l j hj]
      rw [List.getElem?_eq_getElem hj] at hx
      exact Option.some.inj hx
    have := hcell j hj 0 _ rfl
    rw [hv] at this
    simpa using this
end
set_option maxRecDepth 100000 in
theorem open_turns {H : Type} {enc : TypeId × Value → H} {W : World} {b0 : Nat} {v : Value} {d : DataW H} {p : List MemPlace} (hv : Value.okWide Tryz.prog W .any b0 37 v) (h : DataW.Trod enc Tryz.prog W 0 (fun _ => true) true 37 v d p) :
    ∃ a n c, v = .slice a n c ∧ ∃ l : List TurnV, TurnsR W (.slice a n c) l ∧ l.length ≤ maxLen := by
  obtain ⟨a0, len, cap, rfl⟩ := okWide_slice Tryz.underlying37 hv
  obtain ⟨fuel, hf⟩ := h
  obtain ⟨v', e, l, hl, hn, hp⟩ := open_lies (k := 5) (en := encT) (P := PT W) (by decide) (fun _ => rfl) Tryz.underlying37 sizeTurn (fun h => open_turn h) hf
  have e' : v' = .slice a0 len cap := by simpa [Value.cells] using e.symm
  subst e'
  exact ⟨_, _, _, rfl, l.map (·.1), lies_turns hl hp, by rw [List.length_map]; exact hn⟩
set_option maxRecDepth 100000 in
theorem open_faults {H : Type} {enc : TypeId × Value → H} {W : World} {b0 : Nat} {v : Value} {d : DataW H} {p : List MemPlace} (hv : Value.okWide Tryz.prog W .any b0 38 v) (h : DataW.Trod enc Tryz.prog W 0 (fun _ => true) true 38 v d p) :
    ∃ a n c, v = .slice a n c ∧ ∃ l : List Int, B.Fs W (.slice a n c) l ∧ l.length ≤ maxLen := by
  obtain ⟨a0, len, cap, rfl⟩ := okWide_slice Tryz.underlying38 hv
  obtain ⟨fuel, hf⟩ := h
  obtain ⟨v', e, l, hl, hn, _⟩ := open_lies (k := 1) (en := fun x : Int => [Value.int .i64 x]) (P := fun _ => True) (by decide) (fun _ => rfl) Tryz.underlying38 size3 (fun h => by
    obtain ⟨a, e, _, _⟩ := DataW.trod_int Tryz.underlying3 h
    exact ⟨a, e, trivial⟩) hf
  have e' : v' = .slice a0 len cap := by simpa [Value.cells] using e.symm
  subst e'
  exact ⟨_, _, _, rfl, l, lies_fs hl, hn⟩
end Go.Proofs.YtfppidnfomelpaaGreatDoor
