/- QueryOrders' law, said of every call. -/
import Derived.Test.YtlnkbhbpkmnkaaaGreatDoorYWe
import Derived.Test.YtlnkbhbpkmnkaaaGreatDoorYUd
import Derived.Test.YtlnkbhbpkmnkaaaGreatDoorFX0
import Derived.Test.YtlnkbhbpkmnkaaaGreatDoorYUn
import Derived.Deep.DeepCutAuto
import Derived.Deep.CutBlock
namespace Go.Proofs.YtlnkbhbpkmnkaaaGreatDoor
open Go.RowKit Go.Proofs Go.Lib Go.Joins Go.Proofs.YtlnkbhbpkmnkaaaGreatDoor.Ask
open Go.Sort (grow)

set_option maxHeartbeats 8000000 in
set_option maxRecDepth 100000 in
theorem orders_law (lv rv : Value) (l : List F.Col) (rows : List (List F.V)) (a0 b0 : Int) (w : World) (hl : F.SlE 7 C.encC w lv l) (hr : F.SlR w rv rows)
    (hms : ∀ c ∈ l, c.2.1.size ≤ maxLen ∧ c.2.2.2.2.2.2.size ≤ maxLen) (hrs : ∀ r ∈ rows, ∀ x ∈ r, F.Ok64 x ∧ x.2.2.size ≤ maxLen)
    (hm : MkB w) (hg : GB w) (hw : 10 ≤ w.heap.size) (hn : C.NcB w) (he : C.EtB w) :
    Calls Tryz.prog 4 #[lv, rv, .int .i64 a0, .int .i64 b0] w fun e w' => e = .returned (.bool true) ∧ Below w.heap.size w w' := by
  have HCO := mkH (F.columns_any lv l w hl hms)
  have HRO := mkH (fun W (hb : Below w.heap.size w W) => F.keepRows_any rv rows W (hr.up hb) (fun r h x hx => (hrs r h x hx).2))
  have HAN := mkH (fun W (hb : Below w.heap.size w W) => answered_any W (hm.below hb) (hg.below hb) (Nat.le_trans hw hb.size))
  have HRR := mkH (fun W (hb : Below w.heap.size w W) (h1 : l.length ≤ 1000) (h2 : rows.length ≤ 100000) => F.rightRows_any lv rv l rows W (hl.up hb) (hr.up hb) h1 h2 hms (fun r h x hx => (hrs r h x hx).2) (fun r h x hx => (hrs r h x hx).1) (hn.below hb) (he.below hb))
  have HKE := mkH (fun W (hb : Below w.heap.size w W) (h0 : 0 < l.length) (h1 : l.length ≤ 1000) => F.kept_any lv l W (hl.up hb) h0 h1)
  have HL := mkH hl
  have HR := mkH hr
  have HG := mkH (And.intro hm (And.intro hg hw))
  obtain ⟨la, lc, rfl, _⟩ := hl.slice
  obtain ⟨ra, rc, rfl, _⟩ := hr.slice
  unfold F.TellPost at HCO HRO
  clear hl hr hms hrs hm hg hw hn he
  go_enter Tryz.func4, Tryz.ntmps4
  go_wp2_with fail
  with_reducible refine HCO.out.mono ?_
  rintro e w1 ⟨b1, rfl, hp1, hb1⟩
  have HB1 := mkH hb1
  have HP1 := mkH hp1
  clear hb1 hp1 HCO
  cases b1 with
  | false =>
    go_wp2_with fail
    go_ret
    exact ⟨rfl, HB1.out⟩
  | true =>
  have h20 := (HP1.out rfl).1
  have HFT := mkH (HP1.out rfl).2
  clear HP1
  go_wp2_with fail
  with_reducible refine (HRO.out _ HB1.out).mono ?_
  rintro e w2 ⟨b2, rfl, hp2, hb2⟩
  have HB2 := mkH (F.ups HB1.out hb2)
  have HP2 := mkH hp2
  clear hb2 hp2 HRO
  cases b2 with
  | false =>
    go_wp2_with fail
    go_ret
    exact ⟨rfl, HB2.out⟩
  | true =>
  have h70 := (HP2.out rfl).1
  clear HP2
  go_wp2_with fail
  with_reducible refine (HAN.out _ HB2.out).mono ?_
  rintro e w3 ⟨rfl, hb3⟩
  have HB3 := mkH (F.ups HB2.out hb3)
  clear hb3 HB2 HAN HB1
  go_wp2_with fail
  with_reducible refine (HRR.out _ HB3.out (by omega) (by omega)).mono ?_
  rintro e w4 ⟨rfl, hb4⟩
  have HB4 := mkH (F.ups HB3.out hb4)
  clear hb4 HB3 HRR
  cases hmk : F.makeOk l rows with
  | false =>
    go_wp2_with fail
    go_ret
    exact ⟨rfl, HB4.out⟩
  | true =>
  have HMK := mkH (made_right hmk)
  have HMC := mkH (fun kc (hk : kc < l.length) => made_col hmk (kc := kc) hk)
  have h0 : 0 < l.length := HMK.out.1.1
  have h60 : rows.length ≤ 60 := HMK.out.2.2.1
  clear hmk
  go_wp2_with fail
  with_reducible refine (HKE.out _ HB4.out h0 (by omega)).mono ?_
  rintro e w5 ⟨rfl, hb5⟩
  have HB5 := mkH (F.ups HB4.out hb5)
  clear hb5 HB4 HKE
  cases hke : l.any F.keptC with
  | true =>
    go_wp2_with fail
    go_ret
    exact ⟨rfl, HB5.out⟩
  | false =>
  have HKP := mkH (fun c (hc : c ∈ l) => (show F.keptC c = false by simpa using List.any_eq_false.1 hke c hc))
  clear hke
  obtain ⟨k, hk, HPA⟩ := pickA_fix a0 l.length h0 (by omega)
  obtain ⟨n9, hn9, HPL0⟩ := pickA_fix b0 9 (by omega) (by omega)
  have HPL : Hid (∀ w : World, Calls Tryz.prog 10 #[.int .i64 b0, .int .i64 9] w fun e w' => e = .returned (.int .i64 n9) ∧ w' = w) := mkH HPL0
  replace HPA := mkH HPA
  clear HPL0
  have h8 : l.length ≤ 8 := HMK.out.1.2.1
  obtain ⟨L, hL⟩ : ∃ L, n9 + 1 = L := ⟨_, rfl⟩
  have hL1 : 1 ≤ L ∧ L ≤ 9 := by omega
  have hLw : IntKind.i64.wrap (1 + (n9 : Int)) = (L : Int) := by rw [IntKind.wrap_i64]; omega
  obtain ⟨lb, lo, lc', el, _, hlb, hlcell⟩ := (HL.out.up HB5.out).cons (by omega)
  injection el with el1 _ el2
  subst el1 el2
  have HCL := mkH hlcell
  have HFZ := mkH (fun c (hc : c ∈ l) => (HFT.out c hc).1)
  clear hlcell HFT
  go_wp2_with fail
  with_reducible refine (HPA.out _).mono ?_
  rintro e w6 ⟨rfl, rfl⟩
  clear HPA
  go_wp2_with fail
  go_loopw [10, 11] (fun vs vi wr => ∃ i : Nat, i ≤ l.length ∧ vs = .string (selB l i) ∧ vi = .int .i64 i ∧ wr = w6) (fun _ vi _ => l.length - (intOf vi).toNat)
  case atStart => exact ⟨0, Nat.zero_le _, rfl, rfl, rfl⟩
  case round =>
    obtain ⟨i, hi, rfl, rfl, rfl⟩ := hrel
    by_cases hlt : i < l.length
    · obtain ⟨⟨x1, x2, x3, x4, x5, x6, x7⟩, hx⟩ : ∃ c, l[i]? = some c := ⟨_, List.getElem?_eq_getElem hlt⟩
      have q1 : wr.cell? ⟨lb, lo + i * 7 + 1, none⟩ = some (.string x2) := HCL.out i _ hx 1 _ rfl
      have hz1 := HFZ.out _ (List.mem_of_getElem? hx)
      simp only at hz1
      have hs0 := selB_size l HFZ.out i (by omega)
      have hlti : (i : Int) < (l.length : Int) := by omega
      obtain ⟨s0, hse⟩ : ∃ s, selB l i = s := ⟨_, rfl⟩
      rw [hse] at hs0 ⊢
      rcases Nat.eq_zero_or_pos i with hi0 | hi0
      · have HN : Hid (s0 ++ x2 = selB l (i + 1)) := by
          rw [← hse]; show Hid (_ = (if 0 < i then selB l i ++ comW else selB l i) ++ ((l[i]?).getD F.zC).2.1); rw [if_neg (by omega), hx]; exact mkH rfl
        have hk1 : ¬ (0 : Int) < (i : Int) := by omega
        have hk2 : ¬ 0 < i := by omega
        clear hse hx hi0
        go_wp2_with fail
        refine ⟨⟨i + 1, hlt, by rw [HN.out], by go_num, trivial⟩, by simp [intOf]; omega⟩
      · have HN : Hid (s0 ++ (⟨#[44, 32]⟩ : ByteArray) ++ x2 = selB l (i + 1)) := by
          rw [← hse]; show Hid (_ = (if 0 < i then selB l i ++ comW else selB l i) ++ ((l[i]?).getD F.zC).2.1); rw [if_pos hi0, hx]; exact mkH rfl
        have hk1 : (0 : Int) < (i : Int) := by omega
        have hk2 : 0 < i := by omega
        have hs2 : (s0 ++ (⟨#[44, 32]⟩ : ByteArray)).size ≤ 700 := by have hl8 : l.length ≤ 8 := HMK.out.1.2.1; have hc2 : (⟨#[44, 32]⟩ : ByteArray).size = 2 := rfl; rw [ByteArray.size_append, hc2]; omega
        clear hse hx hi0
        go_wp2_with fail
        refine ⟨⟨i + 1, hlt, by rw [HN.out], by go_num, trivial⟩, by simp [intOf]; omega⟩
    · have hie : i = l.length := by omega
      have hlti : ¬ (i : Int) < (l.length : Int) := by omega
      clear hlt hi
      obtain ⟨sB, hsB⟩ : ∃ s, selB l i = s := ⟨_, rfl⟩
      have HSB : Hid (selB l l.length = sB) := by rw [← hie]; exact mkH hsB
      have hs0 := selB_size l HFZ.out i (by omega)
      rw [hsB] at hs0 ⊢
      have hs1 : sB.size ≤ 600 := by have : l.length ≤ 8 := HMK.out.1.2.1; omega
      clear hsB hs0
      subst hie
      have hcE := F.convE k (by have : l.length ≤ 8 := HMK.out.1.2.1; omega) wr
      have hd1 : (dgB (k + 1)).size = 1 := rfl
      obtain ⟨dB, hdB⟩ : ∃ s, dgB (k + 1) = s := ⟨_, rfl⟩
      have HDB := mkH hdB
      rw [hdB] at hcE hd1
      clear hdB
      go_wp2_with fail
      have HBQ : Hid (Below w.heap.size w (wr.alloc (.cells #[.int .u8 (49 + (k : Int))] 5))) := mkH (HB5.out.alloc HB5.out.size _)
      with_reducible refine (HPL.out _).mono ?_
      rintro e w6 ⟨rfl, rfl⟩
      clear HPL hcE HB5 HCL
      generalize wr.alloc (.cells #[.int .u8 (49 + (k : Int))] 5) = w6 at *
      have HRU : Hid (∀ (ord : Option (Nat × Bool)) (lim : Option Nat) (R : List (List F.V)) (m : Nat), ordQ ord lim rows = R → R.length = m → (∀ x, ord = some x → x.1 < l.length) → (∀ n, lim = some n → 1 ≤ n ∧ n ≤ 9) → ∀ s : ByteArray, (∀ c0 cs, l = c0 :: cs → s = bA (qX (qO c0 cs ord lim))) → s.size ≤ 1000000 → ∀ V, Below w.heap.size w V → Calls Tryz.prog 11 #[.slice (some ⟨lb, lo, none⟩) l.length lc, .slice ra rows.length rc, .string s] V fun e V' => ∃ a c, e = .returned (.tuple #[.slice a m c, .bool true]) ∧ F.SlR V' (.slice a m c) R ∧ Below V.heap.size V V') :=
        mkH (fun ord lim R m e1 e2 ho hm s hs hz V hV => by
          subst e1 e2
          exact runs_ord _ _ l F.next40 rows ord lim s V HMK.out.1 HKP.out HFZ.out ho hm hs hz (HG.out.1.below hV) (HG.out.2.1.below hV) (Nat.le_trans HG.out.2.2 hV.size) (HL.out.up hV) (HR.out.up hV) HMK.out.2.1 (by have := HMK.out.2.2.1; omega) (fun r h => (HMK.out.2.2.2 r h).1))
      obtain ⟨mm, hmm⟩ : ∃ mm, min L rows.length = mm := ⟨_, rfl⟩
      have hmi : min (L : Int) (rows.length : Int) = (mm : Int) := by omega
      have hmr : mm ≤ rows.length := by omega
      have hdL : (dgB L).size = 1 := rfl
      have HR1 := mkH (HRU.out none none rows rows.length (ord_plain rows) rfl (fun x e => by cases e) (fun n e => by cases e))
      have HR2 := mkH (HRU.out (some (k, false)) none (upR k rows) rows.length (ord_up k rows) (up_len k rows) (fun x e => by injection e with e; subst e; exact hk) (fun n e => by cases e))
      have HR3 := mkH (HRU.out (some (k, true)) none (downR k rows) rows.length (ord_down k rows) (down_len k rows) (fun x e => by injection e with e; subst e; exact hk) (fun n e => by cases e))
      have HR4 := mkH (HRU.out (some (k, false)) (some L) ((upR k rows).take mm) mm (by rw [ord_few k L hL1.1, hmm]) (by rw [List.length_take, up_len]; omega) (fun x e => by injection e with e; subst e; exact hk) (fun n e => by injection e with e; subst e; exact hL1))
      have hcL := F.convD L hL1.2
      have HDL : Hid (dgB L = dgB L) := mkH rfl
      obtain ⟨dL, hdLe⟩ : ∃ s, dgB L = s := ⟨_, rfl⟩
      rw [hdLe] at hdL hcL
      have HDE := mkH hdLe
      have HT := mkH (And.intro hmm hmr)
      have HKL0 := mkH hk
      clear HRU hmm hdLe HDL hk
      go_wp2_with fail
      with_reducible refine (HR1.out _ ?_ ?_ w6 HBQ.out).mono ?_
      · intro c0 cs e; rw [← HSB.out, e]; exact text_plain c0 cs
      · omega
      rintro e w7 ⟨pa, pc, rfl, hp1, hb7⟩
      have HB7 := mkH (F.ups HBQ.out hb7)
      have HP1 := mkH hp1
      clear hp1 hb7 HR1 HBQ
      go_wp2_with fail
      with_reducible refine (HR2.out _ ?_ ?_ w7 HB7.out).mono ?_
      · intro c0 cs e; rw [← HSB.out, ← HDB.out, e]; exact text_up c0 cs k
      · simp only [ByteArray.size_append, sz_mk]; simp; omega
      rintro e w8 ⟨ua, uc, rfl, hp1, hb8⟩
      have HB8 := mkH (F.ups HB7.out hb8)
      have HP1' := mkH (HP1.out.up hb8)
      have HP2 := mkH hp1
      clear hp1 hb8 HR2 HB7 HP1
      go_wp2_with fail
      with_reducible refine (HR3.out _ ?_ ?_ w8 HB8.out).mono ?_
      · intro c0 cs e; rw [← HSB.out, ← HDB.out, e]; exact text_down c0 cs k
      · simp only [ByteArray.size_append, sz_mk]; simp; omega
      rintro e w9 ⟨da, dc, rfl, hp1, hb9⟩
      have HB9 := mkH (F.ups HB8.out hb9)
      have HP1 := mkH (HP1'.out.up hb9)
      have HP2' := mkH (HP2.out.up hb9)
      have HP3 := mkH hp1
      clear hp1 hb9 HR3 HB8 HP1' HP2
      go_wp2_with fail
      have HBA : Hid (Below w.heap.size w (w9.alloc (.cells #[.int .u8 (48 + (L : Int))] 5))) := mkH (HB9.out.alloc HB9.out.size _)
      have HBI : Hid (Below w9.heap.size w9 (w9.alloc (.cells #[.int .u8 (48 + (L : Int))] 5))) := mkH ((Below.refl _ _).alloc (Nat.le_refl _) _)
      with_reducible refine (HR4.out _ ?_ ?_ _ HBA.out).mono ?_
      · intro c0 cs e; rw [← HSB.out, ← HDB.out, ← HDE.out, e]; exact text_few c0 cs k L
      · simp only [ByteArray.size_append, sz_mk]; simp; omega
      rintro e w10 ⟨fa, fc, rfl, hp1, hb10⟩
      have HB10 := mkH (F.ups HBA.out hb10)
      have HP1' := mkH (HP1.out.up (F.ups HBI.out hb10))
      have HP2 := mkH (HP2'.out.up (F.ups HBI.out hb10))
      have HP3' := mkH (HP3.out.up (F.ups HBI.out hb10))
      have HP4 := mkH hp1
      clear hp1 hb10 HR4 HB9 HBA HBI HP1 HP2' HP3 hcL
      have HRL : Hid (∀ r ∈ rows, r.length ≤ 1000) := mkH (fun r h => by have := (HMK.out.2.2.2 r h).1; have : l.length ≤ 8 := HMK.out.1.2.1; omega)
      have HUL : Hid (∀ r ∈ upR k rows, r.length = l.length) := mkH (fun r h => (HMK.out.2.2.2 r ((Stb.ss_perm _ rows).mem_iff.1 h)).1)
      have HDL : Hid (∀ r ∈ downR k rows, r.length = l.length) := mkH (fun r h => (HMK.out.2.2.2 r ((Stb.ss_perm _ rows).mem_iff.1 h)).1)
      have HUN := mkH (up_len k rows)
      have HDN := mkH (down_len k rows)
      have HUA := mkH (up_at k rows)
      have HDA := mkH (down_at k rows)
      have HUS := mkH (up_sort k rows)
      have HDS := mkH (down_sort k rows)
      generalize upR k rows = U at *
      generalize downR k rows = D at *
      have HS1 := mkH (F.keepSame_any _ _ rows w10 HP1'.out (HR.out.up HB10.out) (by omega) HRL.out)
      have HS2 := mkH (fun W (hW : Below w10.heap.size w10 W) => F.keepSame_any (.slice fa mm fc) (.slice ua mm uc) (U.take mm) W (HP4.out.up hW) ((HP2.out.head mm (by rw [HUN.out]; exact HT.out.2)).up hW) (by rw [List.length_take]; omega) (fun r h => by have := HUL.out r (List.mem_of_mem_take h); have : l.length ≤ 8 := HMK.out.1.2.1; omega))
      have hucl' : mm ≤ uc := by
        obtain ⟨_, ucl, eU, hucl⟩ := HP2.out.slice
        injection eU with _ _ e3
        rw [HUN.out] at hucl
        omega
      go_wp2_with fail
      with_reducible refine HS1.out.mono ?_
      rintro e w11 ⟨rfl, hb11⟩
      have HB11 := mkH hb11
      clear hb11 HS1
      go_wp2_with fail
      with_reducible refine (HS2.out _ HB11.out).mono ?_
      rintro e w12 ⟨rfl, hb12⟩
      have HB12' := mkH (F.ups HB11.out hb12)
      have HB12 := mkH (F.ups HB10.out HB12'.out)
      have HU := mkH (HP2.out.up HB12'.out)
      have HD := mkH (HP3'.out.up HB12'.out)
      clear hb12 HS2 HB11 HB12' HP1' HP2 HP3' HP4 HB10
      go_wp2_with fail
      have h1r : 1 ≤ rows.length := Nat.pos_of_ne_zero fun e => HMK.out.2.1 (List.length_eq_zero_iff.1 e)
      have HKL := mkH HKL0.out
      go_loopw [21] (fun vi wr => ∃ i : Nat, 1 ≤ i ∧ i ≤ rows.length ∧ vi = .int .i64 i ∧ Hid (Below w12.heap.size w12 wr)) (fun vi _ => rows.length - (intOf vi).toNat)
      case atStart => exact ⟨1, Nat.le_refl _, h1r, rfl, mkH (Below.refl _ _)⟩
      case round =>
        obtain ⟨i, hi1, hi, rfl, HB⟩ := hrel
        by_cases hlt : i < rows.length
        · obtain ⟨j, hj⟩ : ∃ j, i = j + 1 := ⟨i - 1, by omega⟩
          obtain ⟨x, hx⟩ : ∃ x, U[j]? = some x := ⟨_, List.getElem?_eq_getElem (by have := HUN.out; omega)⟩
          obtain ⟨y, hy⟩ : ∃ y, U[i]? = some y := ⟨_, List.getElem?_eq_getElem (by have := HUN.out; omega)⟩
          obtain ⟨x', hx'⟩ : ∃ x, D[j]? = some x := ⟨_, List.getElem?_eq_getElem (by have := HDN.out; omega)⟩
          obtain ⟨y', hy'⟩ : ∃ y, D[i]? = some y := ⟨_, List.getElem?_eq_getElem (by have := HDN.out; omega)⟩
          have hcu := HUA.out j x y hx (by rw [← hj]; exact hy)
          have hcd := HDA.out j x' y' hx' (by rw [← hj]; exact hy')
          have hlx := HUL.out x (List.mem_of_getElem? hx)
          have hly := HUL.out y (List.mem_of_getElem? hy)
          have hlx' := HDL.out x' (List.mem_of_getElem? hx')
          have hly' := HDL.out y' (List.mem_of_getElem? hy')
          obtain ⟨b1, o1, d1, v1, e1, hb1, p1, s1⟩ := HU.out.at hx
          obtain ⟨b2, o2, d2, v2, e2, hb2, p2, s2⟩ := HU.out.at hy
          obtain ⟨b3, o3, d3, v3, e3, hb3, p3, s3⟩ := HD.out.at hx'
          obtain ⟨b4, o4, d4, v4, e4, hb4, p4, s4⟩ := HD.out.at hy'
          injection e1 with e11 e12 e13
          injection e2 with e21 e22 e23
          injection e3 with e31 e32 e33
          injection e4 with e41 e42 e43
          clear e12 e13 e22 e23 e32 e33 e42 e43
          rw [e11] at e21
          rw [e31] at e41
          injection e21 with e21
          injection e21 with e211 e212 _
          injection e41 with e41
          injection e41 with e411 e412 _
          subst e211 e212 e411 e412 e11 e31
          obtain ⟨g1, f1, c1, rfl, hg1, m1, m1', m1''⟩ := sl_atV s1 (k := k) (by rw [hlx]; exact HKL.out)
          obtain ⟨g2, f2, c2, rfl, hg2, m2, m2', m2''⟩ := sl_atV s2 (k := k) (by rw [hly]; exact HKL.out)
          obtain ⟨g3, f3, c3, rfl, hg3, m3, m3', m3''⟩ := sl_atV s3 (k := k) (by rw [hlx']; exact HKL.out)
          obtain ⟨g4, f4, c4, rfl, hg4, m4, m4', m4''⟩ := sl_atV s4 (k := k) (by rw [hly']; exact HKL.out)
          rw [hlx] at p1
          rw [hly] at p2
          rw [hlx'] at p3
          rw [hly'] at p4
          generalize F.atV x k = a1 at *
          generalize F.atV y k = a2 at *
          generalize F.atV x' k = a3 at *
          generalize F.atV y' k = a4 at *
          obtain ⟨a10, a11, a12⟩ := a1
          obtain ⟨a20, a21, a22⟩ := a2
          obtain ⟨a30, a31, a32⟩ := a3
          obtain ⟨a40, a41, a42⟩ := a4
          simp only at m1 m1' m1'' m2 m2' m2'' m3 m3' m3'' m4 m4' m4''
          have up : ∀ {b o : Nat} {v : Value}, w12.cell? ⟨b, o, none⟩ = some v → ∀ (d : Nat) (os : Array Obj), (grow (redrawn wr d) os).cell? ⟨b, o, none⟩ = some v := fun h => cell_regrown (F.cell_up HB.out h)
          replace p1 := up p1; replace p2 := up p2; replace p3 := up p3; replace p4 := up p4
          replace m1 := up m1; replace m1' := up m1'; replace m1'' := up m1''
          replace m2 := up m2; replace m2' := up m2'; replace m2'' := up m2''
          replace m3 := up m3; replace m3' := up m3'; replace m3'' := up m3''
          replace m4 := up m4; replace m4' := up m4'; replace m4'' := up m4''
          obtain ⟨cu, hcu'⟩ : ∃ c, S.cmpW (a10, a11, a12) (a20, a21, a22) = c := ⟨_, rfl⟩
          obtain ⟨cd, hcd'⟩ : ∃ c, S.cmpW (a30, a31, a32) (a40, a41, a42) = c := ⟨_, rfl⟩
          rw [hcu'] at hcu
          rw [hcd'] at hcd
          have HC1 : Hid (∀ d os, Calls Tryz.prog 12 #[.agg #[.int .i64 a10, .int .i64 a11, .string a12], .agg #[.int .i64 a20, .int .i64 a21, .string a22]] (grow (redrawn wr d) os) fun e w'' => e = .returned (.int .i64 cu) ∧ ∃ p : Regrown, w'' = grow (redrawn wr p.d) p.os) := mkH (fun d os => by
            have h := S.compare_any a10 a11 a20 a21 a12 a22 (grow (redrawn wr d) os)
            rw [show S.cmpV a10 a11 a12 a20 a21 a22 = cu from hcu'] at h
            exact Calls.regrown_of h)
          have HC2 : Hid (∀ d os, Calls Tryz.prog 12 #[.agg #[.int .i64 a30, .int .i64 a31, .string a32], .agg #[.int .i64 a40, .int .i64 a41, .string a42]] (grow (redrawn wr d) os) fun e w'' => e = .returned (.int .i64 cd) ∧ ∃ p : Regrown, w'' = grow (redrawn wr p.d) p.os) := mkH (fun d os => by
            have h := S.compare_any a30 a31 a40 a41 a32 a42 (grow (redrawn wr d) os)
            rw [show S.cmpV a30 a31 a32 a40 a41 a42 = cd from hcd'] at h
            exact Calls.regrown_of h)
          have hwj : IntKind.i64.wrap ((i : Int) - 1) = (j : Int) := by rw [IntKind.wrap_i64]; omega
          have hjn : (j : Int) < (rows.length : Int) := by omega
          have hin : (i : Int) < (rows.length : Int) := by omega
          have hkn : (k : Int) < (l.length : Int) := by have := HKL.out; omega
          have hdu : decide ((0 : Int) < cu) = false := decide_eq_false (by omega)
          have hdd : decide (cd < (0 : Int)) = false := decide_eq_false (by omega)
          clear up hcu' hcd' hcu hcd hx hy hx' hy' s1 s2 s3 s4 hb1 hb2 hb3 hb4 hg1 hg2 hg3 hg4 hlx hly hlx' hly' hj hi
          go_wp2_with fail
          refine wp_region_quiet_below (by kernel_rfl) (by kernel_rfl) ?_
          repeat (go_big_quiet_step (first | with_reducible exact HC1.out _ _ | with_reducible exact HC2.out _ _))
          refine wpQuiet_nil ?_
          intro _ hw'
          obtain ⟨⟨dq, osq⟩, hw''⟩ := hw'
          subst hw''
          have HBQ := below_regrown wr dq osq
          go_wp2_with fail
          exact ⟨⟨i + 1, by omega, hlt, by go_num, mkH (F.ups HB.out HBQ)⟩, by simp [intOf]; omega⟩
        · have hie : i = rows.length := by omega
          have hin : ¬ (i : Int) < (rows.length : Int) := by omega
          clear hlt hi hi1
          subst hie
          go_wp2_with fail
          have h60' : rows.length ≤ 60 := HMK.out.2.2.1
          have HSU : Hid (∀ V, Below w12.heap.size w12 V → Calls Tryz.prog 15 #[.slice ua rows.length uc] V fun e V' => ∃ a c, e = .returned (.slice a rows.length c) ∧ F.SlR V' (.slice a rows.length c) (F.sortR rows) ∧ Below V.heap.size V V') := mkH (fun V hV => by
            have h := F.sortedS_any _ U V (HU.out.up hV) (by rw [HUN.out]; omega) (by rw [HUN.out]; omega) (fun r hr => by have := HUL.out r hr; have : l.length ≤ 8 := HMK.out.1.2.1; omega)
            rw [HUN.out, HUS.out] at h
            exact h)
          have HSD : Hid (∀ V, Below w12.heap.size w12 V → Calls Tryz.prog 15 #[.slice da rows.length dc] V fun e V' => ∃ a c, e = .returned (.slice a rows.length c) ∧ F.SlR V' (.slice a rows.length c) (F.sortR rows) ∧ Below V.heap.size V V') := mkH (fun V hV => by
            have h := F.sortedS_any _ D V (HD.out.up hV) (by rw [HDN.out]; omega) (by rw [HDN.out]; omega) (fun r hr => by have := HDL.out r hr; have : l.length ≤ 8 := HMK.out.1.2.1; omega)
            rw [HDN.out, HDS.out] at h
            exact h)
          have HSR : Hid (∀ V, Below w.heap.size w V → Calls Tryz.prog 15 #[.slice ra rows.length rc] V fun e V' => ∃ a c, e = .returned (.slice a rows.length c) ∧ F.SlR V' (.slice a rows.length c) (F.sortR rows) ∧ Below V.heap.size V V') := mkH (fun V hV => F.sortedS_any _ rows V (HR.out.up hV) (by omega) (by omega) HRL.out)
          have HSM := mkH (fun (v1 v2 : Value) V (h1 : F.SlR V v1 (F.sortR rows)) (h2 : F.SlR V v2 (F.sortR rows)) => F.keepSame_any v1 v2 (F.sortR rows) V h1 h2 (by rw [F.sortR_len]; omega) (fun r hr => HRL.out r (F.mem_sortR hr)))
          have HB0 := mkH (F.ups HB12.out HB.out)
          with_reducible refine (HSU.out _ HB.out).mono ?_
          rintro e x1 ⟨y1, z1, rfl, hs1, hb1⟩
          have HX1 := mkH (F.ups HB.out hb1)
          have HY1 := mkH (F.ups HB0.out hb1)
          have HZ1 := mkH hs1
          clear hs1 hb1 HSU HB0
          go_wp2_with fail
          with_reducible refine (HSR.out _ HY1.out).mono ?_
          rintro e x2 ⟨y2, z2, rfl, hs2, hb2⟩
          have HX2 := mkH (F.ups HX1.out hb2)
          have HY2 := mkH (F.ups HY1.out hb2)
          have HZ1' := mkH (HZ1.out.up hb2)
          have HZ2 := mkH hs2
          clear hs2 hb2 HX1 HY1 HZ1
          go_wp2_with fail
          with_reducible refine (HSM.out _ _ _ HZ1'.out HZ2.out).mono ?_
          rintro e x3 ⟨rfl, hb3⟩
          have HX3 := mkH (F.ups HX2.out hb3)
          have HY3 := mkH (F.ups HY2.out hb3)
          clear hb3 HX2 HY2 HZ1' HZ2
          go_wp2_with fail
          with_reducible refine (HSD.out _ HX3.out).mono ?_
          rintro e x4 ⟨y4, z4, rfl, hs4, hb4⟩
          have HY4 := mkH (F.ups HY3.out hb4)
          have HZ4 := mkH hs4
          clear hs4 hb4 HSD HX3 HY3
          go_wp2_with fail
          with_reducible refine (HSR.out _ HY4.out).mono ?_
          rintro e x5 ⟨y5, z5, rfl, hs5, hb5⟩
          have HY5 := mkH (F.ups HY4.out hb5)
          have HZ4' := mkH (HZ4.out.up hb5)
          have HZ5 := mkH hs5
          clear hs5 hb5 HY4 HZ4 HSR
          go_wp2_with fail
          with_reducible refine (HSM.out _ _ _ HZ4'.out HZ5.out).mono ?_
          rintro e x6 ⟨rfl, hb6⟩
          have HY6 := mkH (F.ups HY5.out hb6)
          clear hb6 HY5 HZ4' HZ5 HSM
          go_wp2_with fail
          go_ret
          exact ⟨rfl, HY6.out⟩
end Go.Proofs.YtlnkbhbpkmnkaaaGreatDoor
