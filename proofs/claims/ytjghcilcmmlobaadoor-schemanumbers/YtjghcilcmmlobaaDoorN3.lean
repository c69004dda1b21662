/- What millpondkeep.SchemaNumbers does, said of every call. -/
import Derived.Test.YtjghcilcmmlobaaDoorN2
import Derived.Deep.DeepCutAuto
import Derived.Deep.CutBlock
namespace Go.Proofs.YtjghcilcmmlobaaDoor
open Go.RowKit Go.Proofs Go.Lib Go.Joins Go.Maps
open Go.Sort (grow)

theorem ownsMap_below {w W : World} {B n : Nat} {D : DataW Unit} (h : w.ownsMap Tryd.prog 3 (plainElem Tryd.prog 3) B n D) (hb : Below w.heap.size w W) : W.ownsMap Tryd.prog 3 (plainElem Tryd.prog 3) B n D := by
  have hlt := h.lt
  obtain ⟨es, clock, hB, r⟩ := h
  exact ⟨es, clock, (hb.block B hlt).trans hB, r⟩
theorem KMap.mono {w : World} {B n n' : Nat} {l : List Col} {next : Int} {k : Nat} (h : KMap w B n l next k) (hn : n ≤ n') : KMap w B n' l next k := by
  obtain ⟨D, hown, r⟩ := h
  exact ⟨D, hown.mono hn, r⟩

set_option maxHeartbeats 8000000 in
set_option maxRecDepth 100000 in
theorem numbers_some (gb ob L cap : Nat) (X : Nat → Chg) (w : World) (hL : L ≤ 30) (hgb : gb < w.heap.size) (hX : ∀ j, j < L → ∀ i v, (encX (X j))[i]? = some v → w.cell? ⟨gb, ob + j * 10 + i, none⟩ = some v) (hN : NcB w) (hE : EtB w) :
    Calls Tryd.prog 6 #[.slice (some ⟨gb, ob, none⟩) L cap] w fun e w' => e = .returned (.bool true) ∧ Below w.heap.size w w' := by
  have hmm := @run_makeMap Tryd.prog
  have HSh := mkH (shaped_any w hN hE)
  have HN := mkH hN
  have HX := mkH hX
  have hL30 : (L : Int) ≤ 30 := by omega
  clear hX hN hE
  go_enter Tryd.func6, Tryd.ntmps6
  go_wp2_with (first
    | (go_at_call 26; refine HSh.out.mono ?_; rintro e w1 ⟨rfl, hb1⟩)
    | (refine wpList_first rfl _ rfl (w1.heap.size + 1) rfl (map_made w1 _) ?_; intro w2 hown2 hg2)
    | go_in)
  have HS0 : Hid (St w w2 (w1.heap.size + 1) w1.heap.size 1 0 [cF] 2) := st_start hb1 hown2 hg2
  clear hb1 hown2 hg2
  generalize hB : w1.heap.size + 1 = B at *
  generalize w1.heap.size = g0 at *
  clear hB
  go_loopw [3, 4, 6] (fun s3 s4 s6 wr => ∃ (k : Nat) (l : List Col) (next : Int) (g c : Nat), k ≤ L ∧ s3 = .slice (some ⟨g, 0, none⟩) l.length c ∧ s4 = .int .i64 next ∧ s6 = .int .i64 k ∧ Hid (St w wr B g c k l next))
    (fun _ _ s6 _ => L - (intOf s6).toNat)
  case atStart => exact ⟨0, [cF], 2, g0, 1, Nat.zero_le _, rfl, rfl, rfl, HS0⟩
  case round =>
    obtain ⟨k, l, next, g, c, hk, rfl, rfl, rfl, HS⟩ := hrel
    by_cases hlt : k < L
    · have hltz : (k : Int) < (L : Int) := by omega
      have hk0 : (0 : Int) ≤ (k : Int) := by omega
      have hq := HX.out k hlt
      generalize X k = x at hq
      obtain ⟨x0, x1, x2, x3, x4, x5, x6, x7, x8, x9⟩ := x
      have hbw : Below w.heap.size w wr := HS.out.1
      have q0 := (hbw.cell (p := ⟨gb, ob + k * 10 + 0, none⟩) hgb).trans (hq 0 _ rfl)
      have q1 := (hbw.cell (p := ⟨gb, ob + k * 10 + 1, none⟩) hgb).trans (hq 1 _ rfl)
      have q2 := (hbw.cell (p := ⟨gb, ob + k * 10 + 2, none⟩) hgb).trans (hq 2 _ rfl)
      have q3 := (hbw.cell (p := ⟨gb, ob + k * 10 + 3, none⟩) hgb).trans (hq 3 _ rfl)
      have q4 := (hbw.cell (p := ⟨gb, ob + k * 10 + 4, none⟩) hgb).trans (hq 4 _ rfl)
      have q5 := (hbw.cell (p := ⟨gb, ob + k * 10 + 5, none⟩) hgb).trans (hq 5 _ rfl)
      have q6 := (hbw.cell (p := ⟨gb, ob + k * 10 + 6, none⟩) hgb).trans (hq 6 _ rfl)
      have q7 := (hbw.cell (p := ⟨gb, ob + k * 10 + 7, none⟩) hgb).trans (hq 7 _ rfl)
      have q8 := (hbw.cell (p := ⟨gb, ob + k * 10 + 8, none⟩) hgb).trans (hq 8 _ rfl)
      have q9 := (hbw.cell (p := ⟨gb, ob + k * 10 + 9, none⟩) hgb).trans (hq 9 _ rfl)
      simp only [Nat.add_zero] at q0
      clear hq
      have HC : Hid (∀ o, Calls Tryd.prog 27 #[.slice (some ⟨g, 0, none⟩) l.length c] (wr.alloc o) fun e w' => ∃ g' c', e = .returned (.slice (some ⟨g', 0, none⟩) l.length c') ∧ Hid (SlC w' g' 0 l) ∧ Hid (Below (wr.alloc o).heap.size (wr.alloc o) w')) := fun o => (clone_any g 0 c l (wr.alloc o) (HS.out.2.2.1.below ((Below.refl _ _).alloc (Nat.le_refl _) _)) HS.out.2.2.2.2.2.1.2.1).mono fun e w' ⟨g', c', he, ho, hb⟩ => ⟨g', c', he, SlC.of_own ho rfl, hb⟩
      go_upto_block 2 with (first
        | (go_at_call 27; refine (HC.out _).mono ?_; rintro e w4 ⟨g4, c4, rfl, hs4, hb4⟩; have hcl : ∀ o, w4.cell? ⟨wr.heap.size, o, none⟩ = _ := fun o => hb4.out.cell (p := ⟨wr.heap.size, o, none⟩) (by simp)))
      all_goals first
        | (go_ret; exact ⟨rfl, HS.out.1.alloc HS.out.1.size _⟩)
        | skip
      have z8 : (x8.size : Int) ≤ 60 := by omega
      have z9 : (x9.size : Int) ≤ 60 := by omega
      have z2 : (x2.size : Int) ≤ 60 := by omega
      have z7 : (x7.size : Int) ≤ 100 := by omega
      have HB4 : Hid (Below wr.heap.size wr w4) := Below.ups ((Below.refl _ _).alloc (Nat.le_refl _) _) hb4.out
      have hBw : B < wr.heap.size := by
        obtain ⟨D, ho, _⟩ := HS.out.2.2.2.2.2.2.2.2
        exact ho.lt
      have HM : Hid (Calls Tryd.prog 28 #[.slice (some ⟨g, 0, none⟩) l.length c, .int .i64 next, .agg #[.int .i64 x1, .string x2, .int .i64 x3, .bool x4, .int .i64 x5, .int .i64 x6, .string x7]] w4 fun e w' => ∃ s9 s10 s11, e = .returned (.tuple #[s9, s10, s11]) ∧ Hid (Out w4 w' B l next s9 s10 s11)) :=
        more_out B g c l next x1 x2 x3 x4 x5 x6 x7 w4 (HS.out.2.2.1.below HB4.out) HS.out.2.2.2.2.2.1 HS.out.2.2.2.2.2.2.1 (by have := HS.out.2.2.2.2.2.2.2.1; omega) (by omega) (by omega) (HN.out.below (Below.ups HS.out.1 HB4.out)) (Nat.lt_of_lt_of_le hBw HB4.out.size)
      have HL : Hid (Calls Tryd.prog 29 #[.slice (some ⟨g, 0, none⟩) l.length c, .string x8] w4 fun e w' => ∃ s9 s11, e = .returned (.tuple #[s9, s11]) ∧ Hid (Out w4 w' B l next s9 (.int .i64 next) s11)) :=
        less_out B g c l next x8 w4 (HS.out.2.2.1.below HB4.out) HS.out.2.2.2.2.2.1 HS.out.2.2.2.1 (Nat.lt_of_lt_of_le hBw HB4.out.size)
      go_cut [9, 10, 11] (fun s9 s10 s11 wx => Hid (Out w4 wx B l next s9 s10 s11))
      case first =>
        by_cases h0 : x0 = 0
        · subst h0
          go_wp2_with (first
            | (go_at_call 28; refine HM.out.mono ?_; rintro e w5 ⟨s9, s10, s11, rfl, ho5⟩))
          go_meet
          case rel => exact ho5
        · by_cases h1 : x0 = 1
          · subst h1
            go_wp2_with (first
              | (go_at_call 29; refine HL.out.mono ?_; rintro e w5 ⟨s9, s11, rfl, ho5⟩))
            go_meet
            case rel => exact ho5
          · by_cases h2 : x0 = 2
            · subst h2
              rcases find_cases l x8 with ⟨hf, _⟩ | ⟨j, hj, hf, hnm⟩
              · have HR : Hid (Calls Tryd.prog 30 #[.slice (some ⟨g, 0, none⟩) l.length c, .string x8, .string x9] w4 fun e w' => ∃ x, e = .returned (.tuple #[.slice none 0 0, .iface 87 (.int .i64 x)]) ∧ Hid (Below w4.heap.size w4 w')) := (rename_no g c l x8 x9 w4 (HS.out.2.2.1.below HB4.out) (.inl hf) (by unfold maxLen; omega) HS.out.2.2.2.2.2.1.2.1 (HN.out.below (Below.ups HS.out.1 HB4.out))).mono fun e w' ⟨x, he, hb⟩ => ⟨x, he, hb⟩
                clear hf
                go_wp2_with (first
                  | (go_at_call 30; refine HR.out.mono ?_; rintro e w5 ⟨x, rfl, ho5⟩))
                go_meet
                case rel => exact .inr ⟨x, rfl, ho5.out⟩
              · by_cases hyes : colB x9 = true ∧ findC l x9 = -1
                · obtain ⟨hc9, hf9⟩ := hyes
                  have HR1 : Hid (Calls Tryd.prog 30 #[.slice (some ⟨g, 0, none⟩) l.length c, .string x8, .string x9] w4 fun e w' => ∃ g' c', e = .returned (.tuple #[.slice (some ⟨g', 0, none⟩) l.length c', .nilIface]) ∧ Hid (SlC w' g' 0 (l.set j (renC l[j]! x9)) ∧ l.length ≤ c' ∧ g' ≠ B ∧ Below w4.heap.size w4 w')) :=
                    ren_out B g c l next x8 x9 j w4 (HS.out.2.2.1.below HB4.out) HS.out.2.2.2.2.2.1 hf hj hc9 hf9 (HN.out.below (Below.ups HS.out.1 HB4.out)) (Nat.lt_of_lt_of_le hBw HB4.out.size)
                  have HR2 : Hid (∀ W g' c', Below w4.heap.size w4 W → SlC W g' 0 (l.set j (renC l[j]! x9)) → Calls Tryd.prog 30 #[.slice (some ⟨g', 0, none⟩) l.length c', .string x9, .string x8] W fun e w' => ∃ g' c', e = .returned (.tuple #[.slice (some ⟨g', 0, none⟩) l.length c', .nilIface]) ∧ Hid (SlC w' g' 0 l ∧ Below W.heap.size W w')) :=
                    fun W g' c' hb hs => ren_back_out g' c' l next x8 x9 j W HS.out.2.2.2.2.2.1 hnm hj hc9 hf9 (HN.out.below (Below.ups (Below.ups HS.out.1 HB4.out) hb)) hs
                  have HEQ : Hid (∀ W g' c', Below w4.heap.size w4 W → SlC W g' 0 l → Calls Tryd.prog 31 #[.slice (some ⟨g', 0, none⟩) l.length c', .slice (some ⟨g4, 0, none⟩) l.length c4] W fun e w' => e = .returned (.bool true) ∧ Hid (Below W.heap.size W w')) :=
                    fun W g' c' hb hs => (equal_any g' 0 c' g4 0 c4 l W hs (hs4.out.below hb) HS.out.2.2.2.2.2.1.2.1).mono fun e w' ⟨he, hb'⟩ => ⟨he, hb'⟩
                  have HRR : Hid (RightP colB fitB (l.set j (renC l[j]! x9)) next) := right_ren HS.out.2.2.2.2.2.1 hj hc9 (by
                    rcases find_cases l x9 with ⟨_, hn⟩ | ⟨i, _, hi, _⟩
                    · exact hn
                    · omega)
                  have HTR : Hid (Trans l next (l.set j (renC l[j]! x9)) next) := trans_ren l next j hj x9
                  have HLE : Hid ((l.set j (renC l[j]! x9)).length = l.length) := by rw [List.length_set]; exact rfl
                  generalize l.set j (renC l[j]! x9) = l1 at *
                  clear hf hj hnm hc9 hf9
                  go_wp2_with (first
                    | (go_at_call_of 30 (#[.slice (some ⟨g, 0, none⟩) l.length c, .string x8, .string x9] : Array Value); refine HR1.out.mono ?_; rintro e w5 ⟨g5, c5, rfl, ho5⟩; have hcl5 : ∀ o, w5.cell? ⟨wr.heap.size, o, none⟩ = w4.cell? ⟨wr.heap.size, o, none⟩ := fun o => ho5.out.2.2.2.cell (p := ⟨wr.heap.size, o, none⟩) (Nat.lt_of_lt_of_le (alloc_lt wr _) hb4.out.size))
                    | (go_at_call 30; refine (HR2.out _ _ _ ho5.out.2.2.2 ho5.out.1).mono ?_; rintro e w6 ⟨g6, c6, rfl, ho6⟩)
                    | (go_at_call 31; refine (HEQ.out _ _ _ (Below.ups ho5.out.2.2.2 ho6.out.2) ho6.out.1).mono ?_; rintro e w7 ⟨rfl, hb7⟩))
                  go_meet
                  case rel =>
                    have hb47 := Below.ups (Below.ups ho5.out.2.2.2 ho6.out.2) hb7.out
                    exact .inl ⟨g5, c5, l1, next, by rw [HLE.out], rfl, rfl, ho5.out.2.2.1, (ho5.out.1.below ho6.out.2).below hb7.out, by rw [HLE.out]; exact ho5.out.2.1, HRR.out, HTR.out, by omega, by omega, hb47⟩
                · have HR : Hid (Calls Tryd.prog 30 #[.slice (some ⟨g, 0, none⟩) l.length c, .string x8, .string x9] w4 fun e w' => ∃ x, e = .returned (.tuple #[.slice none 0 0, .iface 87 (.int .i64 x)]) ∧ Hid (Below w4.heap.size w4 w')) := (rename_no g c l x8 x9 w4 (HS.out.2.2.1.below HB4.out) (.inr (by
                    cases hc9 : colB x9 with
                    | false => exact .inl rfl
                    | true =>
                      right
                      rcases find_cases l x9 with ⟨e, _⟩ | ⟨i, _, e, _⟩
                      · exact (hyes ⟨hc9, e⟩).elim
                      · omega)) (by unfold maxLen; omega) HS.out.2.2.2.2.2.1.2.1 (HN.out.below (Below.ups HS.out.1 HB4.out))).mono fun e w' ⟨x, he, hb⟩ => ⟨x, he, hb⟩
                  clear hf hj hnm hyes
                  go_wp2_with (first
                    | (go_at_call 30; refine HR.out.mono ?_; rintro e w5 ⟨x, rfl, ho5⟩))
                  go_meet
                  case rel => exact .inr ⟨x, rfl, ho5.out⟩
            · have b0 : (x0 == 0) = false := by simpa using h0
              have b1 : (x0 == 1) = false := by simpa using h1
              have b2 : (x0 == 2) = false := by simpa using h2
              go_wp2_with fail
              go_meet
              case rel => exact .inl ⟨g, c, l, next, rfl, rfl, rfl, HS.out.2.2.2.2.1, HS.out.2.2.1.below HB4.out, HS.out.2.2.2.1, HS.out.2.2.2.2.2.1, trans_refl _ _, by omega, by omega, Below.refl _ _⟩
      case rest =>
        have HEQ : Hid (∀ W, Below w4.heap.size w4 W → Calls Tryd.prog 31 #[.slice (some ⟨g, 0, none⟩) l.length c, .slice (some ⟨g4, 0, none⟩) l.length c4] W fun e w' => e = .returned (.bool true) ∧ Hid (Below W.heap.size W w')) :=
          fun W hb => (equal_any g 0 c g4 0 c4 l W ((HS.out.2.2.1.below HB4.out).below hb) (hs4.out.below hb) HS.out.2.2.2.2.2.1.2.1).mono fun e w' ⟨he, hb'⟩ => ⟨he, hb'⟩
        clear HM HL hcl hb4 hs4 HC
        rcases hcut.out with ⟨g', c', l', next', rfl, rfl, rfl, hgB, hs', hc', hr', ht', hn1, hn2, hb'⟩ | ⟨x, rfl, hb'⟩
        · have HG : Hid (g' ≠ B ∧ SlC wc g' 0 l' ∧ l'.length ≤ c' ∧ RightP colB fitB l' next' ∧ Below w4.heap.size w4 wc) := ⟨hgB, hs', hc', hr', hb'⟩
          have hl8 : (l'.length : Int) ≤ 8 := by have := hr'.2.1; omega
          have hB0 : Hid (Below w.heap.size w wc) := Below.ups (Below.ups HS.out.1 HB4.out) hb'
          have HK0 : Hid (KMap wc B (1 + 8 * k) l' next' 0) := ((HS.out.2.2.2.2.2.2.2.2.below HB4.out).below hb').change ht'
          have hnx : 2 ≤ next' ∧ next' ≤ 2 + (k + 1 : Nat) := by have := HS.out.2.2.2.2.2.2; omega
          have HRT : Hid (∀ W, Below wc.heap.size wc W → Calls Tryd.prog 32 #[.slice (some ⟨g', 0, none⟩) l'.length c', .int .i64 next'] W fun e w' => e = .returned (.bool true) ∧ Hid (Below W.heap.size W w')) :=
            fun W hb => (right_any g' c' l' next' W (HG.out.2.1.below hb) HG.out.2.2.2.1 HG.out.2.2.1 (HN.out.below (Below.ups hB0.out hb))).mono fun e w' ⟨he, hb'⟩ => ⟨he, hb'⟩
          clear hgB hs' hc' hr' ht' hn1 hn2 hcut
          go_wp2_with (first
            | (go_at_call 31; refine (HEQ.out _ hb').mono ?_; rintro e w6 ⟨rfl, hb6⟩)
            | (go_at_call 32; refine (HRT.out _ hb6.out).mono ?_; rintro e w7 ⟨rfl, hb7⟩))
          have HI0 : Hid (Below w.heap.size w w7 ∧ SlC w7 g' 0 l' ∧ KMap w7 B (1 + 8 * k + 0) l' next' 0) := ⟨Below.ups (Below.ups hB0.out hb6.out) hb7.out, (HG.out.2.1.below hb6.out).below hb7.out, (HK0.out.below hb6.out).below hb7.out⟩
          clear hb6 hb7 HRT HEQ hb' HK0 hB0 HX HSh HB4 hBw
          go_loopw [14] (fun s14 wi => ∃ q : Nat, q ≤ l'.length ∧ s14 = .int .i64 q ∧ Hid (Below w.heap.size w wi ∧ SlC wi g' 0 l' ∧ KMap wi B (1 + 8 * k + q) l' next' q))
            (fun s14 _ => l'.length - (intOf s14).toNat)
          case atStart => exact ⟨0, Nat.zero_le _, rfl, HI0⟩
          case round =>
            obtain ⟨q, hq, rfl, HI⟩ := hrel
            by_cases hql : q < l'.length
            · have hqz : (q : Int) < (l'.length : Int) := by omega
              have hq0 : (0 : Int) ≤ (q : Int) := by omega
              have ex : ∃ x, l'[q]! = x := ⟨_, rfl⟩
              obtain ⟨⟨y1, y2, y3, y4, y5, y6, y7⟩, hx⟩ := ex
              obtain ⟨e0, e1, e2, e3, e4, e5, e6⟩ := HI.out.2.1.cells hql hx
              simp only [Nat.zero_add] at e0 e1 e2 e3 e4 e5 e6
              obtain ⟨hmay, hid⟩ := HG.out.2.2.2.1.2.2.1 _ (mem_of_lt hql)
              have hfnd := find_at HG.out.2.2.2.1 hql
              obtain ⟨D, hown, k1, k2, k3⟩ := HI.out.2.2
              have kq := k1 q hql
              have HPUT : Hid (∀ w', w'.ownsMap Tryd.prog 3 (plainElem Tryd.prog 3) B (1 + 8 * k + q + 1) (D.put (.int .i64 y1) (.lit (.int .i64 y3))) → KMap w' B (1 + 8 * k + q + 1) l' next' (q + 1)) := fun w' ho => KMap.put hql HG.out.2.2.2.1.2.2.2 hid hown.isMap (by rw [hx]; exact ho) k1 k2 k3
              rw [hx] at hmay hid hfnd kq
              simp only at hid hfnd kq
              have wf1 : (Lit.int .i64 y1).wf = true := WalkArith.wf_i64 (by have := hmay.2.1; simp only at this; omega)
              have wf3 : (Lit.int .i64 y3).wf = true := WalkArith.wf_i64 (by have := hmay.1; simp only at this; omega)
              have HO := mkH hown
              have HF : Hid (∀ W, Below wr.heap.size wr W → Calls Tryd.prog 33 #[.slice (some ⟨g', 0, none⟩) l'.length c', .string y2] W fun e w' => e = .returned (.int .i64 q) ∧ Hid (Below W.heap.size W w')) := fun W hb => by
                have := find_any g' 0 c' l' y2 W (HI.out.2.1.below hb) HG.out.2.2.2.1.2.1
                rw [hfnd] at this
                exact this.mono fun e w' ⟨he, hb'⟩ => ⟨he, hb'⟩
              have hsub : IntKind.i64.wrap (next' - 1) = next' - 1 := by rw [IntKind.wrap_i64]; omega
              have HKQ := mkH kq
              clear hmay hid hfnd hown k1 k2 k3 hx kq
              cases hh : Maps.has D (.int .i64 y1) with
              | true =>
                go_wp2_with (first
                  | (at_lookup; refine wpList_lookup_own_ok_int _ rfl _ _ 56 rfl 3 3 .i64 law3 Tryd.underlying56 Tryd.underlying3 (zero3 _) B _ D rfl (HO.out.alloc _) _ _ rfl (keyOf_int_mk Tryd.underlying3 wf1) ?_; intro cv hat hwc; have hcv : cv = y3 := (by have hz := HKQ.out.1 hh; rw [hat] at hz; injection hz with hz; injection hz); subst hcv; clear hat)
                  | (go_at_call 33; refine (HF.out _ ((Below.refl _ _).alloc (Nat.le_refl _) _)).mono ?_; rintro e w8 ⟨rfl, hb8⟩; have hcl8 : ∀ o, w8.cell? ⟨wr.heap.size, o, none⟩ = _ := fun o => hb8.out.cell (p := ⟨wr.heap.size, o, none⟩) (by simp); have hO8 := ownsMap_below (HO.out.alloc _) hb8.out)
                  | (at_mapUpdate; refine wpList_mapUpdate_own _ rfl _ _ _ 56 rfl 3 3 law3 Tryd.underlying56 _ B _ _ rfl hO8 (by unfold maxLen; omega) _ _ _ rfl rfl (keyOf_int_mk Tryd.underlying3 wf1) _ [] (plainElem_int Tryd.underlying3 wf3) ?_; intro w9 hown9 hg9)
                  | go_in)
                go_roundw
                case rel =>
                  have b8 : Below w.heap.size w w8 := Below.ups (HI.out.1.alloc HI.out.1.size _) hb8.out
                  exact ⟨q + 1, by omega, by go_num, b8.grown hg9 b8.size (fun j hj => by cases hj; exact HS.out.2.1), ((HI.out.2.1.below ((Below.refl _ _).alloc (Nat.le_refl _) _)).below hb8.out).grown hg9 HG.out.1, HPUT.out _ hown9⟩
                case measure => simp [intOf]; omega
              | false =>
                have hy : y1 = next' - 1 := HKQ.out.2 hh
                subst hy
                go_wp2_with (first
                  | (at_lookup; refine wpList_lookup_own_ok_int _ rfl _ _ 56 rfl 3 3 .i64 law3 Tryd.underlying56 Tryd.underlying3 (zero3 _) B _ D rfl (HO.out.alloc _) _ _ rfl (keyOf_int_mk Tryd.underlying3 wf1) ?_; intro cv hat hwc; clear hat)
                  | (go_at_call 33; refine (HF.out _ ((Below.refl _ _).alloc (Nat.le_refl _) _)).mono ?_; rintro e w8 ⟨rfl, hb8⟩; have hcl8 : ∀ o, w8.cell? ⟨wr.heap.size, o, none⟩ = _ := fun o => hb8.out.cell (p := ⟨wr.heap.size, o, none⟩) (by simp); have hO8 := ownsMap_below (HO.out.alloc _) hb8.out)
                  | (at_mapUpdate; refine wpList_mapUpdate_own _ rfl _ _ _ 56 rfl 3 3 law3 Tryd.underlying56 _ B _ _ rfl hO8 (by unfold maxLen; omega) _ _ _ rfl rfl (keyOf_int_mk Tryd.underlying3 wf1) _ [] (plainElem_int Tryd.underlying3 wf3) ?_; intro w9 hown9 hg9)
                  | go_in)
                go_roundw
                case rel =>
                  have b8 : Below w.heap.size w w8 := Below.ups (HI.out.1.alloc HI.out.1.size _) hb8.out
                  exact ⟨q + 1, by omega, by go_num, b8.grown hg9 b8.size (fun j hj => by cases hj; exact HS.out.2.1), ((HI.out.2.1.below ((Below.refl _ _).alloc (Nat.le_refl _) _)).below hb8.out).grown hg9 HG.out.1, HPUT.out _ hown9⟩
                case measure => simp [intOf]; omega
            · have hql' : q = l'.length := by omega
              subst hql'
              go_wp2
              go_roundw
              case rel =>
                exact ⟨k + 1, l', next', g', c', by omega, rfl, rfl, by go_num, HI.out.1, HS.out.2.1, HI.out.2.1, HG.out.2.2.1, HG.out.1, HG.out.2.2.2.1, hnx.1, hnx.2, HI.out.2.2.mono (by omega)⟩
              case measure => simp [intOf]; omega
        · go_wp2_with (first
            | (go_at_call 31; refine (HEQ.out _ hb').mono ?_; rintro e w6 ⟨rfl, hb6⟩))
          go_roundw
          case rel =>
            have hbb := Below.ups (Below.ups HB4.out hb') hb6.out
            exact ⟨k + 1, l, next, g, c, by omega, rfl, rfl, by go_num, Below.ups HS.out.1 hbb, HS.out.2.1, HS.out.2.2.1.below hbb, HS.out.2.2.2.1, HS.out.2.2.2.2.1, HS.out.2.2.2.2.2.1, HS.out.2.2.2.2.2.2.1, by have := HS.out.2.2.2.2.2.2.2.1; omega, (HS.out.2.2.2.2.2.2.2.2.below hbb).mono (by omega)⟩
          case measure => simp [intOf]; omega
    · have hkl : k = L := by omega
      subst hkl
      go_wp2
      go_ret
      exact ⟨rfl, HS.out.1⟩
end Go.Proofs.YtjghcilcmmlobaaDoor
