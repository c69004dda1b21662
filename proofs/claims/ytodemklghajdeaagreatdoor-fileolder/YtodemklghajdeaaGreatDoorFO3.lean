/- How a list of changes that came in lies in memory. -/
import Derived.Test.YtodemklghajdeaaGreatDoorFZ9
import Derived.Test.YtodemklghajdeaaGreatDoorFZA
import Derived.Test.YtodemklghajdeaaGreatDoorFO1
import Derived.Deep.DeepCutAuto
import Derived.Deep.CutBlock
import Derived.Test.YtodemklghajdeaaGreatDoorFZO
namespace Go.Proofs.YtodemklghajdeaaGreatDoor
open Go.RowKit Go.Proofs Go.Shelf Go.Joins

/-- A change: what, the column (seven parts), the name, the other name. -/
abbrev Chg := Int × Int × ByteArray × Int × Bool × Int × Int × ByteArray × ByteArray × ByteArray
def encX (x : Chg) : List Value := [.int .i64 x.1, .int .i64 x.2.1, .string x.2.2.1, .int .i64 x.2.2.2.1, .bool x.2.2.2.2.1, .int .i64 x.2.2.2.2.2.1, .int .i64 x.2.2.2.2.2.2.1, .string x.2.2.2.2.2.2.2.1, .string x.2.2.2.2.2.2.2.2.1, .string x.2.2.2.2.2.2.2.2.2]

/-- How it stands between two changes: the box of the columns' slice, and how they lie. -/
def OSt (wX wr : World) (B g o c : Nat) (m : List Col) : Prop :=
  Below wX.heap.size wX wr ∧ wX.heap.size = B ∧ B < wr.heap.size ∧ wr.heap[B]? = some (.cells #[.slice (some ⟨g, o, none⟩) m.length c] 22) ∧ C.SlC wr g o m ∧ g ≠ B ∧ m.length ≤ c ∧ 1 ≤ m.length ∧ m.length ≤ 8
theorem OSt.start {wX : World} {B g o c : Nat} {m : List Col} (hB : wX.heap.size = B) (h : C.SlC wX g o m) (hg : g < wX.heap.size) (hc : m.length ≤ c) (h1 : 1 ≤ m.length) (h8 : m.length ≤ 8) :
    OSt wX (wX.alloc (.cells #[.slice (some ⟨g, o, none⟩) m.length c] 22)) B g o c m := by
  have hb : Below wX.heap.size wX (wX.alloc (.cells #[.slice (some ⟨g, o, none⟩) m.length c] 22)) := (Below.refl _ _).alloc (Nat.le_refl _) _
  refine ⟨hb, hB, by simp; omega, ?_, h.below hb, by omega, hc, h1, h8⟩
  rw [← hB]; exact heap_alloc_new _ _
theorem OSt.old {w wX wr : World} {B g o c lb lo : Nat} {m l : List Col} (h : OSt wX wr B g o c m) (hb : Below w.heap.size w wX) (hl : C.SlC w lb lo l) : C.SlC wr lb lo l := hl.below (ups hb h.1)

def FiledO : Prop := ∀ W, C.NcB W → C.EtB W → Calls Tryz.prog 8 #[] W fun e w' => e = .returned (.bool true) ∧ Below W.heap.size W w'
theorem OSt.up {wX wr W : World} {B g o c : Nat} {m : List Col} (h : OSt wX wr B g o c m) (hb : Below wr.heap.size wr W) : OSt wX W B g o c m :=
  ⟨ups h.1 hb, h.2.1, Nat.lt_of_lt_of_le h.2.2.1 hb.size, (hb.block B h.2.2.1).trans h.2.2.2.1, h.2.2.2.2.1.below hb, h.2.2.2.2.2⟩
theorem OSt.set {wX wr : World} {B g o c g' o' c' : Nat} {m m' : List Col} (h : OSt wX wr B g o c m) (hs : C.SlC wr g' o' m') (hg : g' ≠ B) (hc : m'.length ≤ c') (h1 : 1 ≤ m'.length) (h8 : m'.length ≤ 8) :
    OSt wX (wr.setCell ⟨B, 0, none⟩ (.slice (some ⟨g', o', none⟩) m'.length c')) B g' o' c' m' := by
  have hsz : (wr.setCell ⟨B, 0, none⟩ (.slice (some ⟨g', o', none⟩) m'.length c')).heap.size = wr.heap.size := by simp
  refine ⟨h.1.setCell (p := ⟨B, 0, none⟩) (by rw [h.2.1]; exact Nat.le_refl _) _, h.2.1, by rw [hsz]; exact h.2.2.1, one_setCell h.2.2.2.1, ⟨by rw [hsz]; exact hs.1, fun j hj i v hv => ?_⟩, hg, hc, h1, h8⟩
  have := hs.2 j hj i v hv
  rw [← this]
  simp only [World.cell?]
  rw [heap_setCell_other _ _ _ _ hg]
theorem heap_lt {W : World} {b : Nat} {X : Obj} (h : W.heap[b]? = some X) : b < W.heap.size := by
  rcases Nat.lt_or_ge b W.heap.size with h' | h'
  · exact h'
  · rw [Array.getElem?_eq_none h'] at h; cases h

theorem cell3 {W : World} {b : Nat} {v0 v1 v2 : Value} {T : TypeId} (h : W.heap[b]? = some (.cells #[v0, v1, v2] T)) : W.cell? ⟨b, 0, none⟩ = some v0 ∧ W.cell? ⟨b, 1, none⟩ = some v1 ∧ W.cell? ⟨b, 2, none⟩ = some v2 := by
  simp [World.cell?, h]
def boxOf (s : Value) (w : World) : Nat := match s with
  | .pointer (some a) => (intOf ((w.cell? a).getD .nilIface)).toNat
  | _ => 0

set_option maxHeartbeats 16000000 in
set_option maxRecDepth 100000 in
theorem fileOlder_any (hfiled : FiledO) (lv rv xv : Value) (l : List Col) (rows : List (List V)) (xs : List Chg) (w : World) (hl : SlE 7 C.encC w lv l) (hr : SlR w rv rows) (hx : SlE 10 encX w xv xs) (hms : ∀ c ∈ l, c.2.1.size ≤ maxLen ∧ c.2.2.2.2.2.2.size ≤ maxLen)
    (hrs : ∀ r ∈ rows, ∀ v ∈ r, v.2.2.size ≤ maxLen) (hxs : ∀ x ∈ xs, x.2.2.1.size ≤ maxLen ∧ x.2.2.2.2.2.2.2.1.size ≤ maxLen) (h64 : All64 rows) (hw : C.NcB w) (hg : C.EtB w) :
    Calls Tryz.prog 4 #[lv, rv, xv] w fun e w' => e = .returned (.bool true) ∧ Below w.heap.size w w' := by
  have HL := mkH hl
  have HR := mkH hr
  have HX := mkH hx
  have HXS := mkH hxs
  have HMS := mkH hms
  have HRS := mkH hrs
  have H64 := mkH h64
  have HNC := mkH hw
  have HET := mkH hg
  have HC1 := mkH (columns_any lv l w hl hms)
  have HC2 := mkH (fun W (hW : Below w.heap.size w W) => keepRows_any rv rows W (hr.up hW) hrs)
  have HFD := mkH (fun W (hW : Below w.heap.size w W) => hfiled W (hw.below hW) (hg.below hW))
  obtain ⟨la, lc, rfl, _⟩ := hl.slice
  obtain ⟨ra, rc, rfl, _⟩ := hr.slice
  obtain ⟨xa, xc, rfl, _⟩ := hx.slice
  clear hl hr hms hrs h64 hw hg hx hxs
  go_enter Tryz.func4, Tryz.ntmps4
  go_wp2_with fail
  refine HC1.out.mono ?_
  rintro e w1 ⟨b1, rfl, hf1, hb1⟩
  cases b1 with
  | false =>
    go_wp2
    go_ret
    exact ⟨rfl, hb1⟩
  | true =>
    have HF1 := mkH (hf1 rfl)
    clear hf1
    go_wp2_with fail
    refine (HC2.out w1 (by first | exact hb1 | exact hb1.drew)).mono ?_
    rintro e w2 ⟨b2, rfl, hf2, hb2⟩
    have hb02 := ups hb1 hb2
    cases b2 with
    | false =>
      go_wp2
      go_ret
      exact ⟨rfl, hb02⟩
    | true =>
      have HF2 := mkH (hf2 rfl)
      have HB2 := mkH hb02
      clear hf2 hb1 hb2
      by_cases h12 : 12 < xs.length
      · have h12' : (12 : Int) < (xs.length : Int) := by omega
        go_wp2
        go_ret
        exact ⟨rfl, hb02⟩
      · have h12' : ¬ (12 : Int) < (xs.length : Int) := by omega
        have hl20 := HF1.out.1
        have hr70 := HF2.out.1
        go_wp2_with fail
        refine (HFD.out w2 (by first | exact hb02 | exact hb02.drew)).mono ?_
        rintro e w3 ⟨rfl, hb3⟩
        have hb03 := ups hb02 hb3
        clear hb3 hb02 HB2
        go_wp2_with fail
        have HMK := mkH (make_any (.slice la l.length lc) (.slice ra rows.length rc) l rows w3 (HL.out.up hb03) (HR.out.up hb03) (by omega) (by omega) HMS.out HRS.out H64.out (HNC.out.below hb03) (HET.out.below hb03))
        cases hm : makeR l rows with
        | none =>
          rw [hm] at HMK
          clear hm
          refine HMK.out.mono ?_
          rintro e w6 ⟨T6, v6, rfl, hb6⟩
          have hbf := (ups hb03 hb6).alloc (by have := hb03.size; have := hb6.size; omega) (.cells #[.slice none 0 0, .slice none 0 0] 29)
          go_wp2
          go_ret
          exact ⟨rfl, hbf⟩
        | some f =>
          have hok : makeOk l rows = true := by
            cases h : makeOk l rows with
            | true => rfl
            | false => rw [makeR_no h] at hm; cases hm
          rw [makeR_yes hok] at hm
          injection hm with hm
          subst hm
          rw [makeR_yes hok] at HMK
          have HOK := mkH hok
          have HRF := mkH (makeOk_iff.1 hok).1
          have hl8 := HRF.out.eight
          have hl1 := HRF.out.one
          have hgl : (groupsOf l rows).length = nGr rows.length := by unfold groupsOf; rw [List.length_map, parts_len]
          have hr60 := (makeOk_iff.1 hok).2.2.1
          have hg10 := nGr_le hr60
          have HWL := mkH (write_len hok H64.out)
          have HSZ : Hid (∀ g ∈ groupsOf l rows, ∀ b ∈ g.2.2, b.length ≤ 1000000) := mkH (fun g hg b hb => Nat.le_trans (byte_len (f := (l, groupsOf l rows)) hg hb) (by have := HWL.out; omega))
          clear hok
          refine HMK.out.mono ?_
          rintro e w6 ⟨cv, gv, rfl, hF6, hb6⟩
          obtain ⟨ca, cc, rfl, _⟩ := hF6.1.slice
          obtain ⟨ga, gc, rfl, _⟩ := hF6.2.slice
          dsimp only at hF6 ⊢
          rw [hgl] at hF6 ⊢
          have hbX : Below w6.heap.size w6 (w6.alloc (.cells #[.slice ca l.length cc, .slice ga (nGr rows.length) gc] 29)) := (Below.refl _ _).alloc (Nat.le_refl _) _
          have HFX := mkH (hF6.up hbX)
          have HBX := mkH (ups (ups hb03 hb6) hbX)
          have HFB := mkH (heap_alloc_new w6 (.cells #[.slice ca l.length cc, .slice ga (nGr rows.length) gc] 29))
          have hs6 : w6.heap.size < (w6.alloc (.cells #[.slice ca l.length cc, .slice ga (nGr rows.length) gc] 29)).heap.size := by simp
          clear hF6 hb6 hbX HMK hb03
          obtain ⟨lb, lo, lc', hle, _, hSL⟩ := slC_of HL.out hl1
          injection hle with hla _ hlc
          subst hla
          subst hlc
          have HSL := mkH hSL
          clear hSL
          have HID : Hid (∀ c ∈ l, 1 ≤ c.1 ∧ c.1 < 1099511627777) := mkH (fun c hc => by
            obtain ⟨i, hi, e⟩ := List.getElem_of_mem hc
            have hm := HRF.out.may i hi
            rw [List.getElem?_eq_getElem hi] at hm
            simp only [Option.getD_some, e] at hm
            exact ⟨(may_parts hm.1).2.1, hm.2⟩)
          go_wp2_with fail
          have hszB : (w6.alloc (.cells #[.slice ca l.length cc, .slice ga (nGr rows.length) gc] 29)).heap.size = w6.heap.size + 1 := by simp
          have HST0 : Hid (OSt (w6.alloc (.cells #[.slice ca l.length cc, .slice ga (nGr rows.length) gc] 29)) ((w6.alloc (.cells #[.slice ca l.length cc, .slice ga (nGr rows.length) gc] 29)).alloc (.cells #[.slice (some ⟨lb, lo, none⟩) l.length lc] 22)) (w6.heap.size + 1) lb lo lc l) := mkH (OSt.start hszB (HSL.out.below HBX.out) (Nat.lt_of_lt_of_le HSL.out.1 HBX.out.size) (by omega) hl1 hl8)
          generalize w6.alloc (.cells #[.slice ca l.length cc, .slice ga (nGr rows.length) gc] 29) = wX at *
          generalize wX.alloc (.cells #[.slice (some ⟨lb, lo, none⟩) l.length lc] 22) = wN at *
          generalize hFb : w6.heap.size = F at *
          generalize hBb : F + 1 = B at *
          have HSB := mkH hszB
          have HS6 := mkH hs6
          have HBB := mkH hBb
          clear hszB hs6 hFb hBb
          go_loopw [10, 11] (fun s10 s11 wr => ∃ (k : Nat) (n : Int), k ≤ l.length ∧ 1 ≤ n ∧ n ≤ 1099511627777 ∧ s10 = .int .i64 n ∧ s11 = .int .i64 k ∧ wr = wN)
            (fun _ s11 _ => l.length - (intOf s11).toNat)
          case atStart => exact ⟨0, 1, Nat.zero_le _, by omega, by omega, rfl, rfl, rfl⟩
          case round =>
            obtain ⟨k, n, hk, hn1, hn2, rfl, rfl, rfl⟩ := hrel
            by_cases hlt : k < l.length
            · have hltz : (k : Int) < (l.length : Int) := by omega
              have hk0 : (0 : Int) ≤ (k : Int) := by omega
              obtain ⟨x, hx⟩ : ∃ x, l[k]? = some x := ⟨_, List.getElem?_eq_getElem hlt⟩
              have hid := HID.out x (List.mem_of_getElem? hx)
              have hx! : l[k]! = x := by rw [List.getElem!_eq_getElem?_getD, hx]; rfl
              obtain ⟨c1, c2, c3, c4, c5, c6, c7⟩ := x
              have e0 := ((HST0.out.old HBX.out (HSL.out)).cells hlt hx!).1
              have hw1 : IntKind.i64.wrap (c1 + 1) = c1 + 1 := by rw [IntKind.wrap_i64]; simp only at hid; omega
              simp only at hid
              clear hx hx!
              go_wp2
              exact ⟨⟨k + 1, max n (c1 + 1), by omega, by omega, by omega, rfl, by go_num, trivial⟩, by simp [intOf]; omega⟩
            · have ek : k = l.length := by omega
              subst ek
              go_wp2_with fail
              have HNN := mkH (⟨hn1, hn2⟩ : 1 ≤ n ∧ n ≤ 1099511627777)
              have HL1 := mkH hlt
              clear hn1 hn2 hk hlt HID HC1 HC2 HFD HMS
              generalize (l.length : Int) = ll at *
              go_loopw [10, 12] (fun s10 s12 wr => ∃ (k : Nat) (next : Int) (g o c : Nat) (m : List Col), k ≤ xs.length ∧ s10 = .int .i64 next ∧ s12 = .int .i64 k ∧ Hid (OSt wX wr B g o c m) ∧ Hid (1 ≤ next ∧ next ≤ 1099511627777 + k))
                (fun _ s12 _ => xs.length - (intOf s12).toNat)
              case atStart => exact ⟨0, n, lb, lo, lc, l, Nat.zero_le _, rfl, rfl, HST0, ⟨HNN.out.1, by have := HNN.out.2; omega⟩⟩
              case round =>
                obtain ⟨k, next, g, o, c, m, hk, rfl, rfl, HST, HNX⟩ := hrel
                by_cases hlt : k < xs.length
                · obtain ⟨xb, xo, xc', hxe, _, hxb, hxc⟩ := HX.out.cons (by omega)
                  injection hxe with hxa _ hxcc
                  subst hxa
                  subst hxcc
                  obtain ⟨x, hxk⟩ : ∃ x, xs[k]? = some x := ⟨_, List.getElem?_eq_getElem hlt⟩
                  have hq := hxc k x hxk
                  have hxsz := HXS.out x (List.mem_of_getElem? hxk)
                  clear hxc hxk
                  have hltz : (k : Int) < (xs.length : Int) := by omega
                  have hk0 : (0 : Int) ≤ (k : Int) := by omega
                  obtain ⟨x0, x1, x2, x3, x4, x5, x6, x7, x8, x9⟩ := x
                  have hbw : Below w.heap.size w wr := ups HBX.out HST.out.1
                  have q0 := (hbw.cell (p := ⟨xb, xo + k * 10 + 0, none⟩) hxb).trans (hq 0 _ rfl)
                  have q1 := (hbw.cell (p := ⟨xb, xo + k * 10 + 1, none⟩) hxb).trans (hq 1 _ rfl)
                  have q2 := (hbw.cell (p := ⟨xb, xo + k * 10 + 2, none⟩) hxb).trans (hq 2 _ rfl)
                  have q3 := (hbw.cell (p := ⟨xb, xo + k * 10 + 3, none⟩) hxb).trans (hq 3 _ rfl)
                  have q4 := (hbw.cell (p := ⟨xb, xo + k * 10 + 4, none⟩) hxb).trans (hq 4 _ rfl)
                  have q5 := (hbw.cell (p := ⟨xb, xo + k * 10 + 5, none⟩) hxb).trans (hq 5 _ rfl)
                  have q6 := (hbw.cell (p := ⟨xb, xo + k * 10 + 6, none⟩) hxb).trans (hq 6 _ rfl)
                  have q7 := (hbw.cell (p := ⟨xb, xo + k * 10 + 7, none⟩) hxb).trans (hq 7 _ rfl)
                  have q8 := (hbw.cell (p := ⟨xb, xo + k * 10 + 8, none⟩) hxb).trans (hq 8 _ rfl)
                  have q9 := (hbw.cell (p := ⟨xb, xo + k * 10 + 9, none⟩) hxb).trans (hq 9 _ rfl)
                  simp only [Nat.add_zero] at q0
                  have HXZ := mkH hxsz
                  have HBW := mkH hbw
                  clear hq hxsz hbw hk hlt
                  have HCO := mkH (colsOne wr (.cells #[.int .i64 x0, .int .i64 x1, .string x2, .int .i64 x3, .bool x4, .int .i64 x5, .int .i64 x6, .string x7, .string x8, .string x9] 49) x1 x2 x3 x4 x5 x6 x7 HXZ.out.1 HXZ.out.2)
                  go_upto_block 4 with fail
                  all_goals first
                    | (go_ret; exact ⟨rfl, HBW.out.alloc HBW.out.size _⟩)
                    | skip
                  refine HCO.out.mono ?_
                  rintro e w4 ⟨b4, rfl, h4⟩
                  cases b4 with
                  | false =>
                    go_wp2
                    go_ret
                    exact ⟨rfl, ups HBW.out h4.out.2.1⟩
                  | true =>
                    have HSZ2 := mkH (h4.out.1 rfl)
                    have HB4 := mkH h4.out.2.1
                    have HST4 := mkH (HST.out.up HB4.out)
                    have hlt4 : wr.heap.size < w4.heap.size := heap_lt h4.out.2.2
                    have HX4 := mkH h4.out.2.2
                    obtain ⟨y0, y1, y2, y3, y4, y5, y6, y7, y8, y9⟩ := cell10 HX4.out
                    obtain ⟨yB, _⟩ := box1 HST4.out.2.2.2.1
                    have hz9 : (x9.size : Int) ≤ 60 := by omega
                    clear h4 q0 q1 q2 q3 q4 q5 q6 q7 q8 q9 HCO
                    have HN4 := mkH (HNC.out.below (ups HBW.out HB4.out))
                    have HM := mkH (more_out g o c m next x1 x2 x3 x4 x5 x6 x7 w4 HST4.out.2.2.2.2.1 HST4.out.2.2.2.2.2.2.2.1 HST4.out.2.2.2.2.2.2.2.2 HNX.out.1 (by have := HNX.out.2; omega) HSZ2.out.1 HSZ2.out.2 HN4.out B HST4.out.2.2.1)
                    have HLE := mkH (less_out g o c m next x8 w4 HST4.out.2.2.2.2.1 HST4.out.2.2.2.2.2.2.2.1 HST4.out.2.2.2.2.2.2.2.2 HST4.out.2.2.2.2.2.2.1 B HST4.out.2.2.1)
                    have HRE := mkH (ren_out g o c m next x8 x9 w4 HST4.out.2.2.2.2.1 HST4.out.2.2.2.2.2.2.2.1 HST4.out.2.2.2.2.2.2.2.2 (by unfold maxLen; omega) HN4.out B HST4.out.2.2.1)
                    go_upto_block 4 with fail
                    go_cut [14, 15, 16] (fun s14 s15 s16 wx => Hid (Out w4 wx B next s14 s15 s16))
                    case first =>
                      by_cases h0 : x0 = 0
                      · subst h0
                        go_wp2_with (first
                          | (go_at_call 16; refine HM.out.mono ?_; rintro e w5 ⟨s9, s10, s11, rfl, ho5⟩))
                        go_meet
                        case rel => exact ho5
                      · by_cases h1 : x0 = 1
                        · subst h1
                          go_wp2_with (first
                            | (go_at_call 17; refine HLE.out.mono ?_; rintro e w5 ⟨s9, s11, rfl, ho5⟩))
                          go_meet
                          case rel => exact ho5
                        · by_cases h2 : x0 = 2
                          · subst h2
                            go_wp2_with (first
                              | (go_at_call 18; refine HRE.out.mono ?_; rintro e w5 ⟨s9, s11, rfl, ho5⟩))
                            go_meet
                            case rel => exact ho5
                          · have b0 : (x0 == 0) = false := by simpa using h0
                            have b1 : (x0 == 1) = false := by simpa using h1
                            have b2 : (x0 == 2) = false := by simpa using h2
                            go_wp2_with fail
                            go_meet
                            case rel => exact .inl ⟨g, o, c, m, next, rfl, rfl, rfl, HST4.out.2.2.2.2.2.1, HST4.out.2.2.2.2.1, HST4.out.2.2.2.2.2.2.1, HST4.out.2.2.2.2.2.2.2.1, HST4.out.2.2.2.2.2.2.2.2, by omega, by omega, Below.refl _ _⟩
                    case rest =>
                      clear HM HLE HRE y0 y1 y2 y3 y4 y5 y6 y7 y8 y9 yB
                      rcases hcut.out with ⟨g', o', c', m', next', rfl, rfl, rfl, hgB, hs', hc', h1', h8', hn1, hn2, hb'⟩ | ⟨x, rfl, hb'⟩
                      · have HST5 := mkH (HST4.out.up hb')
                        obtain ⟨yB, yf⟩ := box1 HST5.out.2.2.2.1
                        have HST6 : Hid (OSt wX (wc.setCell ⟨B, 0, none⟩ (.slice (some ⟨g', o', none⟩) m'.length c')) B g' o' c' m') := mkH (HST5.out.set hs' hgB hc' h1' h8')
                        have HNX' : Hid (1 ≤ next' ∧ next' ≤ 1099511627777 + (k + 1 : Nat)) := mkH (by have := HNX.out; omega)
                        clear hgB hs' hc' h1' h8' hn1 hn2 hcut hb'
                        go_wp2
                        go_roundw
                        case rel => exact ⟨k + 1, next', g', o', c', m', by omega, rfl, by go_num, HST6, HNX'⟩
                        case measure => simp [intOf]; omega
                      · have HST5 := mkH (HST4.out.up hb')
                        have HNX' : Hid (1 ≤ next ∧ next ≤ 1099511627777 + (k + 1 : Nat)) := mkH (by have := HNX.out; omega)
                        clear hcut hb'
                        go_wp2
                        go_roundw
                        case rel => exact ⟨k + 1, next, g, o, c, m, by omega, rfl, by go_num, HST5, HNX'⟩
                        case measure => simp [intOf]; omega
                · have ek : k = xs.length := by omega
                  subst ek
                  have HFR := mkH ((HST.out.1.block F HS6.out).trans HFB.out)
                  obtain ⟨f0, f1⟩ := row2 HFR.out
                  obtain ⟨yB, _⟩ := box1 HST.out.2.2.2.1
                  have hm8 := HST.out.2.2.2.2.2.2.2.2
                  have HAL := mkH (all_gen (.slice ca l.length cc) (.slice ga (nGr rows.length) gc) (.slice (some ⟨g, o, none⟩) m.length c) l (groupsOf l rows) m wr (HFX.out.up HST.out.1) (of_slC HST.out.2.2.2.2.1 HST.out.2.2.2.2.2.2.1) hm8 hl1 hl8 HSZ.out (by omega))
                  have HRO := mkH (rowsOk_of (makeOk_iff.1 HOK.out).2.2.2 H64.out)
                  rw [all_groups (sameIK_refl l) HRF.out.kinds m HRO.out] at HAL
                  have HRL : Hid (∀ r ∈ rows, r.length = l.length) := mkH (fun r hr => (HRO.out r hr).1)
                  have hrl' : (rows.map fun r => m.map (pick l r)).length = rows.length := by simp
                  have HBR := mkH (ups HBX.out HST.out.1)
                  clear hk hlt HNX
                  go_wp2_with fail
                  refine HAL.out.mono ?_
                  rintro e w7 ⟨rv', rfl, hso, hb7⟩
                  obtain ⟨qa, qc, rfl, _⟩ := hso.slr.slice
                  rw [hrl'] at hso ⊢
                  have HQ := mkH hso.slr
                  have HST7 := mkH (HST.out.up hb7)
                  have HR7 := mkH (HR.out.up (ups HBR.out hb7))
                  have HL7 := mkH (HSL.out.below (ups HBR.out hb7))
                  have HB7 := mkH (ups HBR.out hb7)
                  clear hso hb7 HAL HRO f0 f1 yB HFR HST HST0 HFX HFB HBR HOK HSZ HWL HNC HET H64 HRS HXS HX
                  clear hrl'
                  go_wp2_with fail
                  go_loopw [19] (fun s19 wr => ∃ i : Nat, i ≤ rows.length ∧ s19 = .int .i64 i ∧ Hid (Below w7.heap.size w7 wr))
                    (fun s19 _ => rows.length - (intOf s19).toNat)
                  case atStart => exact ⟨0, Nat.zero_le _, rfl, Below.refl _ _⟩
                  case round =>
                    obtain ⟨i, hi, rfl, HBI⟩ := hrel
                    by_cases hil : i < rows.length
                    · have hilz : (i : Int) < (rows.length : Int) := by omega
                      have hi0 : (0 : Int) ≤ (i : Int) := by omega
                      obtain ⟨r, hr⟩ : ∃ r, rows[i]? = some r := ⟨_, List.getElem?_eq_getElem hil⟩
                      have hrl := HRL.out r (List.mem_of_getElem? hr)
                      obtain ⟨rb, ro, rc', rv, hre, hrb, hrc, hrS⟩ := HR7.out.at hr
                      injection hre with hra _ hrcc
                      subst hra
                      subst hrcc
                      obtain ⟨a1, ac1, rfl, _, hS1⟩ := hrS
                      obtain ⟨b1, o1, rfl, hb1, hc1⟩ := hS1 (by intro e; rw [e] at hrl; simp at hrl; omega)
                      obtain ⟨pb, po, pc', pv, hpe, hpb, hpc, hpS⟩ := HQ.out.at (k := i) (r := m.map (pick l r)) (by rw [List.getElem?_map, hr]; rfl)
                      injection hpe with hpa hpl hpcc
                      subst hpa
                      subst hpcc
                      clear hpl
                      obtain ⟨a2, ac2, rfl, _, hS2⟩ := hpS
                      have hm1 := HST7.out.2.2.2.2.2.2.2.1
                      obtain ⟨b2, o2, rfl, hb2, hc2⟩ := hS2 (by intro e; have := congrArg List.length e; simp at this; subst this; simp at hm1)
                      rw [hrl] at hrc
                      rw [List.length_map] at hpc
                      have HC1 := mkH hc1
                      have HC2 := mkH hc2
                      have HP1 := mkH (⟨hrb, hrc, hb1⟩ : _ ∧ _ ∧ _)
                      have HP2 := mkH (⟨hpb, hpc, hb2⟩ : _ ∧ _ ∧ _)
                      have HRL2 := mkH hrl
                      clear hc1 hc2 hrb hrc hb1 hpb hpc hb2 hS1 hS2 hr hrl
                      go_wp2_with fail
                      have HI0 : Hid (Below w7.heap.size w7 (wr.alloc (.cells #[.int .i64 0] 3)) ∧ w7.heap.size ≤ wr.heap.size ∧ (wr.alloc (.cells #[.int .i64 0] 3)).heap[wr.heap.size]? = some (.cells #[.int .i64 (0 : Nat)] 3)) := mkH ⟨HBI.out.alloc HBI.out.size _, HBI.out.size, heap_alloc_new _ _⟩
                      go_loopw [20] (fun s20 wi => ∃ (q K : Nat), q ≤ m.length ∧ s20 = .pointer (some ⟨K, 0, none⟩) ∧ Hid (Below w7.heap.size w7 wi ∧ w7.heap.size ≤ K ∧ wi.heap[K]? = some (.cells #[.int .i64 q] 3)))
                        (fun s20 wi => m.length - boxOf s20 wi)
                      case atStart => exact ⟨0, wr.heap.size, Nat.zero_le _, rfl, HI0⟩
                      case round =>
                        obtain ⟨q, K, hq, rfl, HI⟩ := hrel
                        have HSTr := mkH (HST7.out.up HI.out.1)
                        obtain ⟨kB, _⟩ := box1 HSTr.out.2.2.2.1
                        obtain ⟨kK, _⟩ := box1 HI.out.2.2
                        have hbox : boxOf (.pointer (some ⟨K, 0, none⟩)) wr = q := by simp [boxOf, kK, intOf]
                        by_cases hql : q < m.length
                        · have hqz : (q : Int) < (m.length : Int) := by omega
                          have hq0 : (0 : Int) ≤ (q : Int) := by omega
                          have ex : ∃ x, m[q]! = x := ⟨_, rfl⟩
                          obtain ⟨⟨c1, c2, c3, c4, c5, c6, c7⟩, hx⟩ := ex
                          have hx? : m[q]? = some (c1, c2, c3, c4, c5, c6, c7) := by
                            rw [List.getElem?_eq_getElem hql, ← hx, getElem!_pos m q hql]
                          obtain ⟨e0, e1, e2, e3, e4, e5, e6⟩ := HSTr.out.2.2.2.2.1.cells hql hx
                          obtain ⟨⟨v1, v2, v3⟩, hv⟩ : ∃ v, pick l r (c1, c2, c3, c4, c5, c6, c7) = v := ⟨_, rfl⟩
                          have hd := HC2.out q (v1, v2, v3) (by rw [List.getElem?_map, hx?]; simp [hv])
                          have hKlt : K < wr.heap.size := heap_lt HI.out.2.2
                          have HIX := mkH (olderIdx B K g o m.length c q c1 lb lo lc l wr (HL7.out.below HI.out.1) hl8 HSTr.out.2.2.1 hKlt HSTr.out.2.2.2.2.1.1 kB kK hql e0)
                          have HD := mkH hd
                          clear hx hx? hd
                          go_wp2_with fail
                          refine HIX.out.mono ?_
                          rintro e w8 ⟨rfl, hb8⟩
                          have HST8 := mkH (HSTr.out.up hb8)
                          have HBI8 := mkH (ups HI.out.1 hb8)
                          have HK8 := mkH ((hb8.block K hKlt).trans HI.out.2.2)
                          have hK8 : K < w8.heap.size := Nat.lt_of_lt_of_le hKlt hb8.size
                          have hb78 := HBI8.out.size
                          have hgr := HSTr.out.2.2.2.2.1.1
                          have hg8 : g < w8.heap.size := HST8.out.2.2.2.2.1.1
                          have hB8 : B < w8.heap.size := HST8.out.2.2.1
                          have kB8 := (box1 HST8.out.2.2.2.1).1
                          have kK8 := (box1 HK8.out).1
                          have g4 := (hb8.cell (p := ⟨g, o + q * 7 + 4, none⟩) hgr).trans e4
                          have g5 := (hb8.cell (p := ⟨g, o + q * 7 + 5, none⟩) hgr).trans e5
                          have g6 := (hb8.cell (p := ⟨g, o + q * 7 + 6, none⟩) hgr).trans e6
                          have hDw : Hid (∀ W, Below w7.heap.size w7 W → (W.cell? ⟨pb, po + i, none⟩ = some (.slice (some ⟨b2, o2, none⟩) m.length ac2) ∧ W.cell? ⟨b2, o2 + q * 3, none⟩ = some (.int .i64 v1) ∧ W.cell? ⟨b2, o2 + q * 3 + 1, none⟩ = some (.int .i64 v2) ∧ W.cell? ⟨b2, o2 + q * 3 + 2, none⟩ = some (.string v3))) := mkH (fun W hW =>
                            ⟨(hW.cell (p := ⟨pb, po + i, none⟩) HP2.out.1).trans HP2.out.2.1, (hW.cell (p := ⟨b2, o2 + q * 3, none⟩) HP2.out.2.2).trans HD.out.1, (hW.cell (p := ⟨b2, o2 + q * 3 + 1, none⟩) HP2.out.2.2).trans HD.out.2.1, (hW.cell (p := ⟨b2, o2 + q * 3 + 2, none⟩) HP2.out.2.2).trans HD.out.2.2⟩)
                          have HEND : Hid (∀ W, Below w8.heap.size w8 W → Below w7.heap.size w7 (W.alloc (.cells #[.int .i64 ((q + 1 : Nat) : Int)] 3)) ∧ w7.heap.size ≤ W.heap.size ∧ (W.alloc (.cells #[.int .i64 ((q + 1 : Nat) : Int)] 3)).heap[W.heap.size]? = some (.cells #[.int .i64 ((q + 1 : Nat) : Int)] 3)) := mkH (fun W hW =>
                            ⟨(ups HBI8.out hW).alloc (ups HBI8.out hW).size _, (ups HBI8.out hW).size, heap_alloc_new _ _⟩)
                          clear hb8 e0 e1 e2 e3 e4 e5 e6 kB kK HIX hgr hKlt HI HSTr
                          by_cases hp : pos l c1 < l.length
                          · have hpi : posI l c1 = (pos l c1 : Int) := by unfold posI; rw [if_pos hp]
                            rw [hpi]
                            have hv' : r[pos l c1]? = some (v1, v2, v3) := by
                              unfold pick at hv
                              simp only at hv
                              rw [if_pos hp] at hv
                              have : pos l c1 < r.length := by rw [HRL2.out]; exact hp
                              rw [List.getElem?_eq_getElem this] at hv ⊢
                              simpa using hv
                            have hr3 := HC1.out _ _ hv'
                            generalize pos l c1 = j at *
                            clear hv hv' hpi
                            have hjz : (j : Int) < (l.length : Int) := by omega
                            have hj0 : (0 : Int) ≤ (j : Int) := by omega
                            have HRW : Hid (∀ W, Below w7.heap.size w7 W → (W.cell? ⟨rb, ro + i, none⟩ = some (.slice (some ⟨b1, o1, none⟩) l.length ac1) ∧ W.cell? ⟨b1, o1 + j * 3, none⟩ = some (.int .i64 v1) ∧ W.cell? ⟨b1, o1 + j * 3 + 1, none⟩ = some (.int .i64 v2) ∧ W.cell? ⟨b1, o1 + j * 3 + 2, none⟩ = some (.string v3))) := mkH (fun W hW =>
                              ⟨(hW.cell (p := ⟨rb, ro + i, none⟩) HP1.out.1).trans HP1.out.2.1, (hW.cell (p := ⟨b1, o1 + j * 3, none⟩) HP1.out.2.2).trans hr3.1, (hW.cell (p := ⟨b1, o1 + j * 3 + 1, none⟩) HP1.out.2.2).trans hr3.2.1, (hW.cell (p := ⟨b1, o1 + j * 3 + 2, none⟩) HP1.out.2.2).trans hr3.2.2⟩)
                            have hA := HRW.out (w8.alloc (.cells #[.int .i64 c5, .int .i64 c6, .string c7] 45)) (HBI8.out.alloc HBI8.out.size _)
                            obtain ⟨h1, h2, h3, h4⟩ := hA
                            go_wp2_with fail
                            have hbA : Below w8.heap.size w8 (w8.alloc (.cells #[.int .i64 v1, .int .i64 v2, .string v3] 45)) := (Below.refl _ _).alloc (Nat.le_refl _) _
                            obtain ⟨p0, p1, p2, p3⟩ := hDw.out _ (ups HBI8.out hbA)
                            have pK := (hbA.cell (p := ⟨K, 0, none⟩) hK8).trans kK8
                            obtain ⟨u0, u1, u2⟩ := cell3 (heap_alloc_new w8 (.cells #[.int .i64 v1, .int .i64 v2, .string v3] 45))
                            have HEA := mkH (HEND.out _ hbA.drew)
                            have hKA : K < (w8.alloc (.cells #[.int .i64 v1, .int .i64 v2, .string v3] 45)).heap.size := Nat.lt_of_lt_of_le hK8 hbA.size
                            clear hbA HEND hDw g4 g5 g6 kB8 kK8
                            generalize w8.alloc (.cells #[.int .i64 v1, .int .i64 v2, .string v3] 45) = w9 at *
                            go_region
                            go_wp2_with fail
                            refine ⟨⟨q + 1, _, by omega, rfl, HEA⟩, ?_⟩
                            rw [hbox]
                            have hbx := (box1 HEA.out.2.2).1
                            have : boxOf (.pointer (some ⟨w9.drew.heap.size, 0, none⟩)) (w9.drew.alloc (.cells #[.int .i64 ((q + 1 : Nat) : Int)] 3)) = q + 1 := by simp only [boxOf, hbx, Option.getD_some, intOf]; omega
                            first
                              | (have h2 := this; simp only [Int.natCast_add, Int.natCast_one] at h2; rw [h2]; omega)
                              | (erw [this]; omega)
                          · have hpi : posI l c1 = -1 := posI_no hp
                            rw [hpi]
                            have hv' : c5 = v1 ∧ c6 = v2 ∧ c7 = v3 := by
                              unfold pick at hv
                              simp only at hv
                              rw [if_neg hp] at hv
                              simpa [dfl] using hv
                            obtain ⟨rfl, rfl, rfl⟩ := hv'
                            clear hv hpi hp
                            go_wp2_with fail
                            have hbA : Below w8.heap.size w8 (w8.alloc (.cells #[.int .i64 c5, .int .i64 c6, .string c7] 45)) := (Below.refl _ _).alloc (Nat.le_refl _) _
                            obtain ⟨p0, p1, p2, p3⟩ := hDw.out _ (ups HBI8.out hbA)
                            have pK := (hbA.cell (p := ⟨K, 0, none⟩) hK8).trans kK8
                            obtain ⟨u0, u1, u2⟩ := cell3 (heap_alloc_new w8 (.cells #[.int .i64 c5, .int .i64 c6, .string c7] 45))
                            have HEA := mkH (HEND.out _ hbA.drew)
                            have hKA : K < (w8.alloc (.cells #[.int .i64 c5, .int .i64 c6, .string c7] 45)).heap.size := Nat.lt_of_lt_of_le hK8 hbA.size
                            clear hbA HEND hDw g4 g5 g6 kB8 kK8
                            generalize w8.alloc (.cells #[.int .i64 c5, .int .i64 c6, .string c7] 45) = w9 at *
                            go_region
                            go_wp2_with fail
                            refine ⟨⟨q + 1, _, by omega, rfl, HEA⟩, ?_⟩
                            rw [hbox]
                            have hbx := (box1 HEA.out.2.2).1
                            have : boxOf (.pointer (some ⟨w9.drew.heap.size, 0, none⟩)) (w9.drew.alloc (.cells #[.int .i64 ((q + 1 : Nat) : Int)] 3)) = q + 1 := by simp only [boxOf, hbx, Option.getD_some, intOf]; omega
                            first
                              | (have h2 := this; simp only [Int.natCast_add, Int.natCast_one] at h2; rw [h2]; omega)
                              | (erw [this]; omega)
                        · have eq : q = m.length := by omega
                          subst eq
                          go_wp2
                          exact ⟨⟨i + 1, by omega, by go_num, HI.out.1⟩, by simp [intOf]; omega⟩
                    · have ei : i = rows.length := by omega
                      subst ei
                      have hbf := ups HB7.out HBI.out
                      go_wp2
                      go_ret
                      exact ⟨rfl, hbf⟩
end Go.Proofs.YtodemklghajdeaaGreatDoor

namespace Go.Proofs.YtodemklghajdeaaGreatDoor
open Go.ChangeShapes Go.WideShapes Go.ChangeAt Go.RowKit Go.Joins Go.Deep Go.Proofs

theorem cellsChg : Tryz.prog.cellsOf 49 = 10 := by kernel_rfl
set_option maxRecDepth 100000 in
theorem open_chg {H : Type} {enc : TypeId × Value → H} {W : World} {base : Nat} {sp : Nat → Bool} {held : Bool} {n : Nat} {cs : List Value} {x : DataW H × List MemPlace} (h : DataW.trod enc Tryz.prog W base sp held n 49 cs = some x) :
    ∃ c : Chg, cs = encX c ∧ c.2.2.1.size ≤ maxLen ∧ c.2.2.2.2.2.2.2.1.size ≤ maxLen := by
  obtain ⟨y0, y1, y2, y3, n1, _, hl, h0, h1, h2, h3⟩ := trod_struct4 Tryz.underlying49 h
  rw [cellsChg] at hl
  obtain ⟨v0, cs1, rfl, hl1⟩ := list_cons (n := 9) hl
  obtain ⟨v1, cs2, rfl, hl2⟩ := list_cons (n := 8) hl1
  obtain ⟨v2, cs3, rfl, hl3⟩ := list_cons (n := 7) hl2
  obtain ⟨v3, cs4, rfl, hl4⟩ := list_cons (n := 6) hl3
  obtain ⟨v4, cs5, rfl, hl5⟩ := list_cons (n := 5) hl4
  obtain ⟨v5, cs6, rfl, hl6⟩ := list_cons (n := 4) hl5
  obtain ⟨v6, cs7, rfl, hl7⟩ := list_cons (n := 3) hl6
  obtain ⟨v7, cs8, rfl, hl8⟩ := list_cons (n := 2) hl7
  obtain ⟨v8, cs9, rfl, hl9⟩ := list_cons (n := 1) hl8
  obtain ⟨v9, cs10, rfl, hl10⟩ := list_cons (n := 0) hl9
  obtain rfl := list_nil hl10
  simp only [cells3, cells9, cellsCol, List.drop_zero, List.drop_succ_cons, List.take_succ_cons, List.take_zero] at h0 h1 h2 h3
  obtain ⟨a0, e0, _, _⟩ := DataW.trod_int Tryz.underlying3 h0
  obtain ⟨⟨a1, a2, a3, a4, a5, a6, a7⟩, e1, m2, m7⟩ := open_col h1
  obtain ⟨a8, e2, _, _⟩ := DataW.trod_string Tryz.underlying9 h2
  obtain ⟨a9, e3, _, _⟩ := DataW.trod_string Tryz.underlying9 h3
  simp [C.encC] at e0 e1 e2 e3
  obtain ⟨rfl, rfl, rfl, rfl, rfl, rfl, rfl⟩ := e1
  subst e0 e2 e3
  exact ⟨(a0, a1, a2, a3, a4, a5, a6, a7, a8, a9), rfl, m2, m7⟩
set_option maxRecDepth 100000 in
theorem open_changes {H : Type} {enc : TypeId × Value → H} {W : World} {b0 : Nat} {v : Value} {d : DataW H} {p : List MemPlace} (hv : Value.okWide Tryz.prog W .any b0 43 v) (h : DataW.Trod enc Tryz.prog W 0 (fun _ => true) true 43 v d p) :
    ∃ l : List Chg, SlE 10 encX W v l ∧ ∀ c ∈ l, c.2.2.1.size ≤ maxLen ∧ c.2.2.2.2.2.2.2.1.size ≤ maxLen := by
  obtain ⟨a0, len, cap, rfl⟩ := okWide_slice Tryz.underlying43 hv
  obtain ⟨fuel, hf⟩ := h
  obtain ⟨v', e, l, hl, hp⟩ := open_sle (k := 10) (en := encX) (P := fun c : Chg => c.2.2.1.size ≤ maxLen ∧ c.2.2.2.2.2.2.2.1.size ≤ maxLen) (by decide) (fun _ => rfl) Tryz.underlying43 cellsChg (fun h => open_chg h) hf
  have e' : v' = .slice a0 len cap := by simpa [Value.cells] using e.symm
  subst e'
  exact ⟨l, hl, hp⟩
end Go.Proofs.YtodemklghajdeaaGreatDoor
