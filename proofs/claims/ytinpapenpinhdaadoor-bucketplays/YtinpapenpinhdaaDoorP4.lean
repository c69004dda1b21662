/- millpondlaw.BucketPlays, walked: at every list of deeds it returns true. -/
import Derived.Test.YtinpapenpinhdaaDoorP3
import Derived.Deep.DeepCutAuto
import Derived.Deep.CutBlock
import Derived.Deep.RegionHeld3
import Derived.Laws.AppendOwnNone
namespace Go.Proofs.YtinpapenpinhdaaDoor
open Go.RowKit Go.Maps Go.Sort Go.Shelf Go.Lib

/-- A deed, as it came in. -/
abbrev De := Int × ByteArray × ByteArray × Value
def encD (x : De) : List Value := [.int .i64 x.1, .string x.2.1, .string x.2.2.1, x.2.2.2]
/-- Numbers that came in: nil, or somewhere. -/
def Fx (w : World) (v : Value) (fs : List Int) : Prop := Fs w v fs ∧ (v = .slice none 0 0 ∨ ∃ a n c, v = .slice (some a) n c)
/-- What a round keeps. -/
def Rp (w : World) (bb rb rm k : Nat) (wr : World) : Prop := ∃ n D fs, n ≤ 2 * k ∧ Qs w bb rb rm n D fs D fs wr
/-- What a round's first half comes to. -/
def Rq (w : World) (bb rb rm k xb : Nat) (what : Int) (key s : ByteArray) (xf : Value) (wr : World) : Prop := ∃ n D fs, n ≤ 2 * k + 2 ∧ RQ w bb rb rm n D fs D fs xb what key s xf wr

/-- Whether something is there, as an error's number. -/
def ev (D : DataW Unit) (key : ByteArray) : Int := if Maps.has D (lit key) = true then 0 else 7
/-- A look into a map of texts, in whatever world that drew. -/
theorem look_drew {w : World} {rm n : Nat} {D : DataW Unit} (hm : Now w rm n D) {key : ByteArray} (hk : key.size ≤ maxLen) : ∃ t : ByteArray, D.atKey (lit key) (txt ByteArray.empty) = txt t ∧
    (Instr.lookup 32 (.map (some rm)) (.string key) true).run Tryd.prog w = .ok (.tuple #[.string t, .bool (Maps.has D (lit key))]) w ∧
    (Instr.lookup 32 (.map (some rm)) (.string key) true).run Tryd.prog w.drew = .ok (.tuple #[.string t, .bool (Maps.has D (lit key))]) w.drew := by
  have hz : ∀ W, (zeroValue 9).run Tryd.prog W = .ok (.string ⟨#[]⟩) W := fun W => by kernel_rfl
  have key1 : ∀ W, Now W rm n D → ∃ t : ByteArray, D.atKey (lit key) (txt ByteArray.empty) = txt t ∧ (Instr.lookup 32 (.map (some rm)) (.string key) true).run Tryd.prog W = .ok (.tuple #[.string t, .bool (Maps.has D (lit key))]) W := by
    intro W hW
    obtain ⟨v, ps, hrun, hv⟩ := hW.look_ok law9 Tryd.underlying32 (hz W) (zd := txt ByteArray.empty) (plainElem_string Tryd.underlying9 (by decide)) (keyOf9 hk)
    obtain ⟨s, rfl, e, _⟩ := plainElem_string_inv Tryd.underlying9 hv
    exact ⟨s, congrArg Prod.fst e, hrun⟩
  obtain ⟨t, h1, h2⟩ := key1 w hm
  obtain ⟨t', h1', h2'⟩ := key1 w.drew hm
  have : t' = t := txt_inj (h1'.symm.trans h1)
  subst this
  exact ⟨t', h1, h2, h2'⟩

theorem get_as {D : DataW Unit} {key t : ByteArray} {w w' : World} {e : Ending} (hat : D.atKey (lit key) (txt ByteArray.empty) = txt t) (h : GetPost D key w e w') : e = .returned (.tuple #[.string t, errV (ev D key)]) ∧ Below w.heap.size w w' := by
  obtain ⟨t', rfl, h1, h2, hb⟩ := h
  refine ⟨?_, hb⟩
  have : t' = t := by
    cases hh : Maps.has D (lit key) with
    | true => exact txt_inj ((h1 hh).symm.trans hat)
    | false =>
      rw [h2 hh]
      exact txt_inj ((atKey_of_not_has hh _).symm.trans hat)
  subst this
  rfl
theorem row_shape {w : World} {base : Nat} {v : Value} {n : Nat} {xs : List Value} (h : w.ownsRow base 3 1 v n xs) : ∃ a c, v = .slice a n c ∧ ∀ b off len cap, a = some ⟨b, off, none⟩ → v = .slice (some ⟨b, off, none⟩) len cap → base ≤ b := by
  obtain ⟨_, ⟨rfl, h0⟩ | ⟨g, cap, cur, rfl, hg, _⟩⟩ := h
  · subst h0
    exact ⟨_, _, rfl, fun b off len cap e => by cases e⟩
  · exact ⟨_, _, rfl, fun b off len cap e _ => by cases e; exact hg⟩
theorem Ss.below {w w' : World} {base : Nat} {v : Value} {L : List (List UInt8)} (h : Ss w base v L) (hb : Below w.heap.size w w') : Ss w' base v L := by
  obtain ⟨a, cap, rfl, hc, hl⟩ := h
  refine ⟨a, cap, rfl, hc, fun hn => ?_⟩
  obtain ⟨b, rfl, h1, h2, hh⟩ := hl hn
  exact ⟨b, rfl, h1, Nat.lt_of_lt_of_le h2 hb.size, fun j hj => ⟨(hb.cell (p := ⟨b, 0 + j, none⟩) h2).trans (hh j hj).1, (hb.frozen (p := ⟨b, 0 + j, none⟩) h2).trans (hh j hj).2⟩⟩

set_option maxHeartbeats 4000000 in
set_option maxRecDepth 100000 in
theorem plays_some (bl ol L cap : Nat) (X : Nat → De) (F : Nat → List Int) (w : World) (h60 : L ≤ 60) (hbl : bl < w.heap.size) (hX : ∀ j, j < L → ∀ i u, (encD (X j))[i]? = some u → w.cell? ⟨bl, ol + j * 4 + i, none⟩ = some u) (hF : ∀ j, j < L → Fx w (X j).2.2.2 (F j)) (hg : EtB w) :
    Calls Tryd.prog 3 #[.slice (some ⟨bl, ol, none⟩) L cap] w fun e w' => e = .returned (.bool true) ∧ Below w.heap.size w w' := by
  have HG : Hid (EtB w) := hg
  have HX : Hid (∀ j, j < L → ∀ i u, (encD (X j))[i]? = some u → w.cell? ⟨bl, ol + j * 4 + i, none⟩ = some u) := hX
  have HFX : Hid (∀ j, j < L → Fx w (X j).2.2.2 (F j)) := hF
  have HNB : Hid (Calls Tryd.prog 5 #[] (w.alloc (.cells #[.map none, .slice none 0 0] 26)) fun e w' => ∃ rb rm, e = .returned (.pointer (some ⟨rb, 0, none⟩)) ∧ Hid (Rp w w.heap.size rb rm 0 w')) := by
    refine (newB_any _).mono ?_
    rintro e w' ⟨rb, rm, rfl, h1, h2, hr, hm, hb⟩
    have ha : Below w.heap.size w (w.alloc (.cells #[.map none, .slice none 0 0] 26)) := (Below.refl _ w).alloc (Nat.le_refl _) _
    simp at h1 h2
    exact ⟨rb, rm, rfl, 0, .map [], [], Nat.le_refl _, _, _, _, (bu_new w).below hb, hr, hm, ⟨_, _, rfl, Nat.le_refl _, fun h => absurd rfl h⟩, (fun e => by cases e), ha.trans (hb.mono (by simp)), Nat.le_refl _, by omega, by omega, (fun k hk => by cases hk)⟩
  clear hg hX hF
  go_enter Tryd.func3, Tryd.ntmps3
  go_wp2_with (first
    | (go_at_call 5; refine HNB.out.mono ?_; rintro e w1 ⟨rb, rm, rfl, hr1⟩))
  go_loopw [5] (fun s5 wr => ∃ k : Nat, k ≤ L ∧ s5 = .int .i64 k ∧ Hid (Rp w w.heap.size rb rm k wr)) (fun s5 _ => L - (intOf s5).toNat)
  case atStart => exact ⟨0, Nat.zero_le _, rfl, hr1⟩
  case round =>
    obtain ⟨k, hk, rfl, HR⟩ := hrel
    by_cases hlt : k < L
    · have hltz : (k : Int) < (L : Int) := by omega
      have hk0 : (0 : Int) ≤ (k : Int) := by omega
      have hq := HX.out k hlt
      have hfx := HFX.out k hlt
      generalize X k = x at hq hfx
      generalize F k = xs at hfx
      obtain ⟨what, key, s, xf⟩ := x
      simp only at hfx
      obtain ⟨n, D, fs, hn2, hqs⟩ := HR.out
      have hlow := hqs.low
      have e0 : wr.cell? ⟨bl, ol + k * 4, none⟩ = some (.int .i64 what) := (hlow.cell (p := ⟨bl, ol + k * 4, none⟩) hbl).trans (hq 0 _ rfl)
      have e1 : wr.cell? ⟨bl, ol + k * 4 + 1, none⟩ = some (.string key) := (hlow.cell (p := ⟨bl, ol + k * 4 + 1, none⟩) hbl).trans (hq 1 _ rfl)
      have e2 : wr.cell? ⟨bl, ol + k * 4 + 2, none⟩ = some (.string s) := (hlow.cell (p := ⟨bl, ol + k * 4 + 2, none⟩) hbl).trans (hq 2 _ rfl)
      have e3 : wr.cell? ⟨bl, ol + k * 4 + 3, none⟩ = some xf := (hlow.cell (p := ⟨bl, ol + k * 4 + 3, none⟩) hbl).trans (hq 3 _ rfl)
      have HQS : Hid (Qs w w.heap.size rb rm n D fs D fs wr) := hqs
      have HXF : Hid (Fx w xf xs) := hfx
      obtain ⟨⟨fa, fc, exf, _, _⟩, _⟩ := hfx
      subst exf
      clear hqs hlow hq HR
      go_upto_region 10 with fail
      all_goals first
        | exact ⟨⟨k + 1, by omega, by go_num, n, D, fs, by omega, HQS.out.below ((Below.refl _ _).alloc (Nat.le_refl _) _)⟩, by simp [intOf]; omega⟩
        | skip
      have zk : key.size ≤ maxLen := by unfold maxLen; omega
      have zs : s.size ≤ maxLen := by unfold maxLen; omega
      have zn : n < maxLen := by unfold maxLen; omega
      have zx : xs.length ≤ 1000 := by omega
      have HRQ : Hid (RQ w w.heap.size rb rm n D fs D fs wr.heap.size what key s (.slice fa xs.length fc) (wr.alloc (.cells #[.int .i64 what, .string key, .string s, .slice fa xs.length fc] 30))) := ⟨HQS.out.below ((Below.refl _ _).alloc (Nat.le_refl _) _), heap_alloc_new wr _⟩
      obtain ⟨t, hat, hr0, hr1⟩ := look_drew HRQ.out.1.now zk
      have r0 := HRQ.out.1.r0
      have HAT : Hid (D.atKey (lit key) (txt ByteArray.empty) = txt t) := hat
      clear e0 e1 e2 e3 hat
      go_region
      clear hr0 hr1
      have HRD : Hid (RQ w w.heap.size rb rm n D fs D fs wr.heap.size what key s (.slice fa xs.length fc) (wr.alloc (.cells #[.int .i64 what, .string key, .string s, .slice fa xs.length fc] 30)).drew) := HRQ.out.drew
      clear HRQ r0
      generalize (wr.alloc (.cells #[.int .i64 what, .string key, .string s, .slice fa xs.length fc] 30)).drew = wd at HRD ⊢
      go_upto_if 53 with fail
      go_cut [8, 9] (fun _ s9 wx => s9 = .int .i64 (ev D key) ∧ wx = wd)
      case first =>
        cases hh : Maps.has D (lit key) with
        | true =>
          go_wp2
          go_meet
          exact ⟨by unfold ev; rw [hh]; rfl, rfl⟩
        | false =>
          go_wp2
          go_meet
          exact ⟨by unfold ev; rw [hh]; rfl, rfl⟩
      case rest =>
        obtain ⟨rfl, rfl⟩ := hcut
        have d0 := HRD.out.2.c0
        go_upto_block 2 with fail
        go_cut [10, 11] (fun _ _ wx => Hid (Rq w w.heap.size rb rm k wr.heap.size what key s (.slice fa xs.length fc) wx))
        case first =>
          have d1 := HRD.out.2.c1
          have d2 := HRD.out.2.c2
          have d3 := HRD.out.2.c3
          by_cases h0 : what = 0
          · subst h0
            have HP : Hid (∀ W, RQ w w.heap.size rb rm n D fs D fs wr.heap.size 0 key s (.slice fa xs.length fc) W → Calls Tryd.prog 7 #[.pointer (some ⟨w.heap.size, 0, none⟩), .string key, .string s] W fun e w' => e = .returned (errV (putR D fs key s).1) ∧ RQ w w.heap.size rb rm (n + 1) (putR D fs key s).2.1 (putR D fs key s).2.2 D fs wr.heap.size 0 key s (.slice fa xs.length fc) w') := fun W h => h.put zn zk zs
            have HQ : Hid (∀ W D1 fs1, RQ w w.heap.size rb rm (n + 1) D1 fs1 D fs wr.heap.size 0 key s (.slice fa xs.length fc) W → Calls Tryd.prog 8 #[.pointer (some ⟨rb, 0, none⟩), .string key, .string s] W fun e w' => e = .returned (.int .i64 (putR D fs key s).1) ∧ RQ w w.heap.size rb rm (n + 1 + 1) D1 fs1 (putR D fs key s).2.1 (putR D fs key s).2.2 wr.heap.size 0 key s (.slice fa xs.length fc) w') := fun W D1 fs1 h => h.rput (by unfold maxLen; omega) zk zs
            generalize putR D fs key s = r at HP HQ
            go_wp2_with fail
            go_region_held3 (fun w' => w'.cell? ⟨wr.heap.size, 1, none⟩ = some (.string key) ∧ w'.cell? ⟨wr.heap.size, 2, none⟩ = some (.string s)) (go_keep)
              (first
                | (go_at_call 7; first | (refine (HP.out _ HRD.out).mono ?_; rintro e w4 ⟨rfl, hr4⟩; have k1 := hr4.2.c1; have k2 := hr4.2.c2) | (refine (HP.out _ HRD.out.drew).mono ?_; rintro e w4 ⟨rfl, hr4⟩; have k1 := hr4.2.c1; have k2 := hr4.2.c2))
                | (go_at_call 8; first | (refine (HQ.out _ _ _ hr4).mono ?_; rintro e w5 ⟨rfl, hr5⟩; have j1 := hr5.2.c1; have j2 := hr5.2.c2) | (refine (HQ.out _ _ _ hr4.drew).mono ?_; rintro e w5 ⟨rfl, hr5⟩; have j1 := hr5.2.c1; have j2 := hr5.2.c2))
                | (go_at_call 6; first | (refine (hr5.1.bare HG.out _).mono ?_; rintro e w6 ⟨rfl, hb6⟩; have hr6 := hr5.below hb6; have l1 := hr6.2.c1; have l2 := hr6.2.c2) | (refine (hr5.drew.1.bare HG.out _).mono ?_; rintro e w6 ⟨rfl, hb6⟩; have hr6 := hr5.drew.below hb6; have l1 := hr6.2.c1; have l2 := hr6.2.c2)))
            go_wp2
            go_meet
            exact ⟨n + 1 + 1, r.2.1, r.2.2, by omega, hr6⟩
          · by_cases h1 : what = 1
            · subst h1
              have HGT : Hid (Calls Tryd.prog 9 #[.pointer (some ⟨w.heap.size, 0, none⟩), .string key] wc fun e w' => e = .returned (.tuple #[.string t, errV (ev D key)]) ∧ Below wc.heap.size wc w') := (HRD.out.1.get key zk).mono fun e w' hp => get_as HAT.out hp
              go_wp2_with (first
                | (go_at_call 9; refine HGT.out.mono ?_; rintro e w4 ⟨rfl, hb4⟩; have hr4 := HRD.out.below hb4)
                | (go_at_call 6; refine (hr4.1.bare HG.out _).mono ?_; rintro e w5 ⟨rfl, hb5⟩; have hr5 := hr4.below hb5))
              go_meet
              exact ⟨n, D, fs, by omega, hr5⟩
            · by_cases h2 : what = 2
              · subst h2
                have HDL : Hid (Calls Tryd.prog 10 #[.pointer (some ⟨w.heap.size, 0, none⟩), .string key] wc fun e w' => e = .returned (errV (ev D key)) ∧ RQ w w.heap.size rb rm n (D.del (lit key)) fs D fs wr.heap.size 2 key s (.slice fa xs.length fc) w') := HRD.out.del zk
                go_wp2_with (first
                  | (go_at_call 10; refine HDL.out.mono ?_; rintro e w4 ⟨rfl, hr4⟩)
                  | (go_at_call 6; refine (hr4.1.bare HG.out _).mono ?_; rintro e w5 ⟨rfl, hb5⟩; have hr5 := hr4.below hb5; have m0 := hr5.1.r0; have m1 := hr5.2.c1))
                obtain ⟨w6, hrun6, hown6, hturn6⟩ := hr5.drew.1.now.drop law9 Tryd.underlying32 (keyOf9 zk) 0
                go_region
                go_wp2
                go_meet
                exact ⟨n, D.del (lit key), fs, by omega, hr5.drew.turn hturn6 hown6 (Nat.le_refl _)⟩
              · by_cases h3 : what = 3
                · subst h3
                  have HL1 : Hid (∀ W, RQ w w.heap.size rb rm n D fs D fs wr.heap.size 3 key s (.slice fa xs.length fc) W → Calls Tryd.prog 12 #[.pointer (some ⟨w.heap.size, 0, none⟩), .string s] W fun e w' => ∃ a c, e = .returned (.slice a (listR D s).length c) ∧ Hid (∃ b, Ss w' b (.slice a (listR D s).length c) (listR D s)) ∧ RQ w w.heap.size rb rm n D fs D fs wr.heap.size 3 key s (.slice fa xs.length fc) w') := by
                    intro W hW
                    refine (hW.1.list (by omega) s).mono ?_
                    rintro e w' ⟨v, rfl, hS, hb⟩
                    have hS' := hS
                    obtain ⟨a, c, rfl, _, _⟩ := hS'
                    exact ⟨a, c, rfl, ⟨_, hS⟩, hW.below hb⟩
                  have HL2 : Hid (∀ W a c, RQ w w.heap.size rb rm n D fs D fs wr.heap.size 3 key s (.slice fa xs.length fc) W → Hid (∃ b, Ss W b (.slice a (listR D s).length c) (listR D s)) → Calls Tryd.prog 13 #[.pointer (some ⟨rb, 0, none⟩), .string s] W fun e w' => ∃ a' c', e = .returned (.slice a' (listR D s).length c') ∧ Hid (∃ b, Ss w' b (.slice a (listR D s).length c) (listR D s)) ∧ Hid (∃ b, Ss w' b (.slice a' (listR D s).length c') (listR D s)) ∧ RQ w w.heap.size rb rm n D fs D fs wr.heap.size 3 key s (.slice fa xs.length fc) w') := by
                    intro W a c hW h1
                    refine (hW.1.rlist (by omega) s).mono ?_
                    rintro e w' ⟨v, rfl, hS, hb⟩
                    have hS' := hS
                    obtain ⟨a', c', rfl, _, _⟩ := hS'
                    obtain ⟨b1, h1⟩ := h1.out
                    exact ⟨a', c', rfl, ⟨b1, h1.below hb⟩, ⟨_, hS⟩, hW.below hb⟩
                  have HL3 : Hid (∀ W a c a' c', RQ w w.heap.size rb rm n D fs D fs wr.heap.size 3 key s (.slice fa xs.length fc) W → Hid (∃ b, Ss W b (.slice a (listR D s).length c) (listR D s)) → Hid (∃ b, Ss W b (.slice a' (listR D s).length c') (listR D s)) → Calls Tryd.prog 11 #[.slice a (listR D s).length c, .slice a' (listR D s).length c'] W fun e w' => e = .returned (.bool true) ∧ RQ w w.heap.size rb rm n D fs D fs wr.heap.size 3 key s (.slice fa xs.length fc) w') := by
                    intro W a c a' c' hW h1 h2
                    obtain ⟨b1, h1⟩ := h1.out
                    obtain ⟨b2, h2⟩ := h2.out
                    refine (same_any b1 b2 _ _ _ W h1 h2 (by have := hW.1.len s; omega)).mono ?_
                    rintro e w' ⟨rfl, hb⟩
                    exact ⟨rfl, hW.below hb⟩
                  generalize (listR D s).length = ll at HL1 HL2 HL3
                  go_wp2_with fail
                  go_region_held3 (fun w' => w'.cell? ⟨wr.heap.size, 2, none⟩ = some (.string s) ∧ w'.cell? ⟨wr.heap.size, 1, none⟩ = some (.string key)) (go_keep)
                    (first
                      | (go_at_call 12; first | (refine (HL1.out _ HRD.out).mono ?_; rintro e w4 ⟨a4, c4, rfl, hs4, hr4⟩; have k1 := hr4.2.c1; have k2 := hr4.2.c2) | (refine (HL1.out _ HRD.out.drew).mono ?_; rintro e w4 ⟨a4, c4, rfl, hs4, hr4⟩; have k1 := hr4.2.c1; have k2 := hr4.2.c2))
                      | (go_at_call 13; first | (refine (HL2.out _ _ _ hr4 hs4).mono ?_; rintro e w5 ⟨a5, c5, rfl, hs5, hs5', hr5⟩; have j1 := hr5.2.c1; have j2 := hr5.2.c2) | (refine (HL2.out _ _ _ hr4.drew hs4).mono ?_; rintro e w5 ⟨a5, c5, rfl, hs5, hs5', hr5⟩; have j1 := hr5.2.c1; have j2 := hr5.2.c2))
                      | (go_at_call 11; first | (refine (HL3.out _ _ _ _ _ hr5 hs5 hs5').mono ?_; rintro e w6 ⟨rfl, hr6⟩; have l1 := hr6.2.c1; have l2 := hr6.2.c2) | (refine (HL3.out _ _ _ _ _ hr5.drew hs5 hs5').mono ?_; rintro e w6 ⟨rfl, hr6⟩; have l1 := hr6.2.c1; have l2 := hr6.2.c2)))
                  go_wp2
                  go_meet
                  exact ⟨n, D, fs, by omega, hr6⟩
                · by_cases h4 : what = 4
                  · subst h4
                    obtain ⟨i0, hi, hz0, hz1, hz2⟩ := info_parts info3
                    have HFA : Hid (Calls Tryd.prog 14 #[.pointer (some ⟨w.heap.size, 0, none⟩), .slice fa xs.length fc] wc fun e w' => e = .returned (.tuple #[]) ∧ RQ w w.heap.size rb rm n D xs D fs wr.heap.size 4 key s (.slice fa xs.length fc) w') := HRD.out.faults (HXF.out.1.keep fun p v _ hc => (HRD.out.1.low.cell (World.block_lt_of_cell? w p hc)).trans hc) zx
                    have HAL : Hid (∀ w4, RQ w w.heap.size rb rm n D xs D fs wr.heap.size 4 key s (.slice fa xs.length fc) w4 → (w4.alloc (.cells #[] 3)).cell? ⟨wr.heap.size, 3, none⟩ = some (.slice fa xs.length fc)) := fun w4 h => (h.below ((Below.refl _ _).alloc (Nat.le_refl _) _)).2.c3
                    rcases HXF.out.2 with hxn | ⟨xa, xn, xc, hxs⟩
                    · injection hxn with e1 e2 e3
                      subst e1 e3
                      have exs : xs = [] := List.length_eq_zero_iff.1 e2
                      subst exs
                      have HRB : Hid (∀ w4, RQ w w.heap.size rb rm n D [] D fs wr.heap.size 4 key s (.slice none 0 0) w4 → ∃ rfv, (w4.alloc (.cells #[] 3)).cell? ⟨rb, 1, none⟩ = some rfv ∧ (w4.alloc (.cells #[] 3)).frozen? ⟨rb, 1, none⟩ = false) := fun w4 h => (h.below ((Below.refl _ _).alloc (Nat.le_refl _) _)).1.r1
                      clear hi hz0 hz1 hz2 d0 d1 d2
                      obtain ⟨i1, hi1, _⟩ := info_parts info3
                      go_wp2_with (first
                        | (go_at_call 14; refine HFA.out.mono ?_; rintro e w4 ⟨rfl, hr4⟩; have m3 := HAL.out w4 hr4; obtain ⟨rfv4, m0, m1⟩ := HRB.out w4 hr4; have m4 := hr4.2.c3)
                        | (at_builtin; refine wpList_append_own_none rfl _ _ 24 rfl w4.heap.size 3 i1 1 Tryd.underlying24 hi1 _ 0 [] rfl (World.ownsRow_made w4 #[] 0 (Nat.le_refl _) (Nat.zero_le _) (by simp)) rfl ?_))
                      go_meet
                      exact ⟨n, D, [], by omega, hr4.setF ((Below.refl _ _).alloc (Nat.le_refl _) _) ⟨_, _, rfl, Nat.le_refl _, fun h => absurd rfl h⟩ (fun h => absurd rfl h)⟩
                    · injection hxs with e1 e2 e3
                      subst e1 e2 e3
                      have HSRC : Hid (∀ W, Below w.heap.size w W → ∀ j u, (xs.map (Value.int .i64))[j]? = some u → W.cell? (xa.add j) = some u) := by
                        intro W hb j u hu
                        rw [List.getElem?_map] at hu
                        obtain ⟨y, hy, rfl⟩ := Option.map_eq_some_iff.1 hu
                        obtain ⟨a, c, e, _, hl⟩ := HXF.out.1
                        injection e with e1 e2 e3
                        subst e1
                        obtain ⟨b, off, ea, hcell⟩ := hl (by intro e; rw [e] at hy; cases hy)
                        cases ea
                        have h1 := hcell j y hy
                        rw [Addr.add_lit]
                        exact (hb.cell (p := ⟨b, off + j, none⟩) (World.block_lt_of_cell? w ⟨b, off + j, none⟩ h1)).trans h1
                      have HRB : Hid (∀ w4 w5, RQ w w.heap.size rb rm n D xs D fs wr.heap.size 4 key s (.slice (some xa) xs.length fc) w4 → Below w4.heap.size w4 w5 → ∃ rfv, w5.cell? ⟨rb, 1, none⟩ = some rfv ∧ w5.frozen? ⟨rb, 1, none⟩ = false) := fun w4 w5 h hb => (h.below hb).1.r1
                      clear d0 d1 d2
                      go_wp2_with (first
                        | (go_at_call 14; refine HFA.out.mono ?_; rintro e w4 ⟨rfl, hr4⟩; have m3 := HAL.out w4 hr4; have m4 := hr4.2.c3)
                        | (at_builtin; refine wpList_append_own _ rfl _ _ 24 rfl w4.heap.size 3 i0 (.int .i64 0) 1 8 Tryd.underlying24 hi hz0 hz1 hz2 rfl (by decide) (.slice (some ⟨w4.heap.size, 0, none⟩) 0 0) 0 [] rfl (World.ownsRow_made w4 #[] 0 (Nat.le_refl _) (Nat.zero_le _) (by simp)) xa xs.length fc (xs.map (Value.int .i64)) rfl (by simp) (HSRC.out _ (hr4.1.low.alloc hr4.1.low.size _)) (by intro u hu; simp only [List.mem_map] at hu; obtain ⟨y, _, rfl⟩ := hu; rfl) (by unfold maxLen; omega) (by omega) (by simp) ?_; intro v5 w5 hown5 hgrow5 hnil5; have hb5 : Below w4.heap.size w4 w5 := ((Below.refl _ w4).alloc (Nat.le_refl _) _).grown hgrow5 (by simp) (by intro j hj; simp [Value.ownBlock] at hj; omega); obtain ⟨rfv5, m0, m1⟩ := HRB.out w4 w5 hr4 hb5; obtain ⟨g5, c5, hv5, hg5⟩ := row_shape hown5; subst hv5))
                      go_meet
                      exact ⟨n, D, xs, by omega, hr4.setF hb5 (ownsRow_fs (by simpa using hown5)) (fun _ b off len cap e => by injection e with e1 e2 e3; exact hg5 b off _ _ e1 (by rw [e1]))⟩
                  · go_wp2
                    go_meet
                    exact ⟨n, D, fs, by omega, HRD.out⟩
        case rest =>
          obtain ⟨n2, D2, fs2, hn3, hrq⟩ := hcut.out
          clear HRD HAT hcut
          go_wp2_with (first
            | (go_at_call 12; refine (hrq.1.list (by omega) _).mono ?_; rintro e w4 ⟨v4, rfl, hS4, hb4⟩; have hr4 := hrq.below hb4)
            | (go_at_call 13; refine (hr4.1.rlist (by omega) _).mono ?_; rintro e w5 ⟨v5, rfl, hS5, hb5⟩; have hr5 := hr4.below hb5; have hS4' := hS4.below hb5)
            | (go_at_call 11; refine (same_any _ _ _ _ _ _ hS4' hS5 (by have := hr5.1.len ⟨#[]⟩; omega)).mono ?_; rintro e w6 ⟨rfl, hb6⟩; have hr6 := hr5.below hb6))
          exact ⟨⟨k + 1, by omega, by go_num, n2, D2, fs2, by omega, hr6.1⟩, by simp [intOf]; omega⟩
    · have hkl : k = L := by omega
      subst hkl
      have HLOW : Hid (Below w.heap.size w wr) := by
        obtain ⟨n, D, fs1, _, hnw⟩ := HR.out
        exact hnw.low
      go_wp2
      go_ret
      exact ⟨rfl, HLOW.out⟩
end Go.Proofs.YtinpapenpinhdaaDoor
