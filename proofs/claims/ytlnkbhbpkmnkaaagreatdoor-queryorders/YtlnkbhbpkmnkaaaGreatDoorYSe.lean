/- What slices.symMergeCmpFunc does at rows, said of every call: two rows that stand in order are put together. -/
import Derived.Test.YtlnkbhbpkmnkaaaGreatDoorYSd
namespace Go.Proofs.YtlnkbhbpkmnkaaaGreatDoor.Stb
open Go.Shelf Go.RowKit Go.Proofs Go.Lib Go.Sort
variable {α : Type} [Inhabited α]

theorem mkA {p : Prop} (h : p) : Aside p := h
omit [Inhabited α] in
theorem Ord.irr {lt : α → α → Bool} (h : Ord lt) (x : α) : lt x x = false := by
  cases e : lt x x with
  | false => rfl
  | true => rw [h.asym _ _ e] at e; cases e
/-- What a call comes to. -/
def SymOk (enc : α → Value) (cf : α → α → Int) (gf : Nat) (cb : Array Value) (blk off cap n : Nat) (w0 : World) (k : Nat) : Prop :=
  ∀ (a m b : Nat) (d : Array α) (w : World) (P L R Q : List α), b - a < k → d.size = n → SW enc w0 blk off d w → d.toList = P ++ (L ++ (R ++ Q)) → P.length = a → L.length + a = m → R.length + m = b → a < m → m < b → Up (ltOf cf) L → Up (ltOf cf) R →
    Calls Tryz.prog 116 #[.slice (some ⟨blk, off, none⟩) n cap, .int .i64 a, .int .i64 m, .int .i64 b, .func (.func gf) #[] cb] w fun e w' => e = .returned (.tuple #[]) ∧ ∃ d', SW enc w0 blk off d' w' ∧ d'.toList = P ++ (mg (ltOf cf) L R ++ Q)
/-- The two halves. -/
structure Halves (lt : α → α → Bool) (L R L1 L2 R1 R2 : List α) : Prop where
  l : L = L1 ++ L2
  r : R = R1 ++ R2
  mg : mg lt L R = mg lt L1 R1 ++ mg lt L2 R2
set_option maxHeartbeats 16000000 in
set_option maxRecDepth 1000000 in
theorem sym_step (enc : α → Value) (cf : α → α → Int) (gf : Nat) (cb : Array Value) (blk off cap a m b : Nat) (d0 d : Array α) (w0 w : World) (P L R Q : List α)
    (eg : ∀ args w, (callFunc gf args).run Tryz.prog w = .ok (.enter gf args) w) (hcmp : CmpLays1 Tryz.prog gf cb enc cf blk off d0.size w0) (hR : Row1 enc w0 blk off d0) (hs : d0.size = d.size) (S : SW enc w0 blk off d w) (ho : Ord (ltOf cf))
    (IH : SymOk enc cf gf cb blk off cap d.size w0 (b - a))
    (hd : d.toList = P ++ (L ++ (R ++ Q))) (hP : P.length = a) (hm : L.length + a = m) (hb : R.length + m = b) (ha1 : a + 1 < m) (hb1 : m + 1 < b) (hU : Up (ltOf cf) L) (hV : Up (ltOf cf) R) (hsz : d.size < 1000000) :
    Calls Tryz.prog 116 #[.slice (some ⟨blk, off, none⟩) d.size cap, .int .i64 a, .int .i64 m, .int .i64 b, .func (.func gf) #[] cb] w fun e w' => e = .returned (.tuple #[]) ∧ ∃ d', SW enc w0 blk off d' w' ∧ d'.toList = P ++ (mg (ltOf cf) L R ++ Q) := by
  have mixed : Tryz.prog.follows Departure.mixedOrders = true := by kernel_rfl
  have u22 := run_underlying (P := Tryz.prog) Tryz.underlying35
  have hcl0 := hR.hO.cells
  simp only [Value.cells] at hcl0
  have HC : Aside _ := hcmp
  have HI0 : Aside _ := IH
  have S0 : Aside (SW enc w0 blk off d w) := S
  have HR : Aside (Row1 enc w0 blk off d0) := hR
  have HD : Aside (d.toList = P ++ (L ++ (R ++ Q))) := hd
  have hlen : d.size = P.length + (L.length + (R.length + Q.length)) := by rw [← Array.length_toList, hd]; simp
  have hbd : b ≤ d.size := by omega
  have HP : Aside (P.length = a ∧ L.length + a = m ∧ R.length + m = b) := ⟨hP, hm, hb⟩
  have hgL : ∀ t, t < L.length → d[a + t]! = L[t]! := fun t ht => by
    rw [arr_list, hd, ← hP, app_get, app_left L (R ++ Q) ht]
  have hgR : ∀ t, t < R.length → d[m + t]! = R[t]! := fun t ht => by
    have := app_get (P ++ L) (R ++ Q) t
    rw [arr_list, hd, ← List.append_assoc, show m + t = (P ++ L).length + t by rw [List.length_append]; omega, this, app_left R Q ht]
  obtain ⟨mid, hmid⟩ : ∃ mid, mid = (a + b) / 2 := ⟨_, rfl⟩
  obtain ⟨lo, hlo⟩ : ∃ lo, lo = if mid < m then mid + m - b else a := ⟨_, rfl⟩
  obtain ⟨r0, hr0⟩ : ∃ r0, r0 = if mid < m then mid else m := ⟨_, rfl⟩
  have f1 : a ≤ lo := by rw [hlo]; split <;> omega
  have f2 : lo ≤ r0 := by rw [hlo, hr0]; split <;> omega
  have f3 : r0 ≤ mid := by rw [hr0]; split <;> omega
  have f4 : r0 ≤ m := by rw [hr0]; split <;> omega
  have f5 : mid + m ≤ lo + b := by rw [hlo]; split <;> omega
  have f6 : a < mid ∧ mid < b := by omega
  have HE1 : Aside ((lo - a = 0 ∨ mid - a = lo - a + R.length) ∧ (r0 - a = L.length ∨ r0 - a = mid - a)) := by
    refine ⟨?_, ?_⟩
    · rw [hlo]; split
      · right; omega
      · left; omega
    · rw [hr0]; split
      · right; rfl
      · left; omega
  obtain ⟨pf, hpf⟩ : ∃ pf : Nat → Bool, pf = fun c => if c < lo then true else !ltOf cf R[mid - 1 - c]! L[c - a]! := ⟨_, rfl⟩
  have HPF : Aside (∀ c, lo ≤ c → pf c = !ltOf cf R[mid - 1 - c]! L[c - a]!) := fun c hc => by rw [hpf]; simp only; rw [if_neg (by omega)]
  have HM : Aside (∀ s t, s ≤ t → t < r0 → pf t = true → pf s = true) := fun s t hst ht h => by
    rcases Nat.lt_or_ge s lo with h1 | h1
    · rw [hpf]; simp only; rw [if_pos h1]
    · rw [HPF.out t (by omega)] at h
      rw [HPF.out s h1]
      cases e : ltOf cf R[mid - 1 - s]! L[s - a]! with
      | false => rfl
      | true =>
        have := meet_mono (ltOf cf) ho ho.irr L R hU hV (mid - a) (s - a) (t - a) (by omega) (by omega) (by omega) (by
          rw [getElem!_pos L (s - a) (by omega), getElem!_pos R (mid - 1 - s) (by omega)] at e
          rw [← e]
          congr 2
          omega)
        rw [getElem!_pos L (t - a) (by omega), getElem!_pos R (mid - 1 - t) (by omega)] at h
        have h2 : ltOf cf R[mid - 1 - t] L[t - a] = false := by simpa using h
        exfalso
        have e3 : R[mid - 1 - t]'(by omega) = R[mid - a - 1 - (t - a)]'(by omega) := by congr 1; omega
        rw [e3] at h2
        rw [this] at h2
        cases h2
  clear hpf
  have HG : Aside (∀ c, lo ≤ c → c < r0 → d[c]! = L[c - a]! ∧ d[mid + m - 1 - c]! = R[mid - 1 - c]!) := fun c h1 h2 => by
    have e1 := hgL (c - a) (by omega)
    have e2 := hgR (mid - 1 - c) (by omega)
    rw [show a + (c - a) = c by omega] at e1
    rw [show m + (mid - 1 - c) = mid + m - 1 - c by omega] at e2
    exact ⟨e1, e2⟩
  have HUV : Aside (Up (ltOf cf) L ∧ Up (ltOf cf) R) := ⟨hU, hV⟩
  obtain ⟨q1, hq1⟩ : ∃ q : Nat, q = m - a := ⟨_, rfl⟩
  have rma : IntKind.i64.wrap ((m : Int) - (a : Int)) = (q1 : Int) := by rw [IntKind.wrap_i64]; omega
  have nma : ((q1 : Int) == 1) = false := by simp; omega
  obtain ⟨q2, hq2⟩ : ∃ q : Nat, q = b - m := ⟨_, rfl⟩
  have rbm : IntKind.i64.wrap ((b : Int) - (m : Int)) = (q2 : Int) := by rw [IntKind.wrap_i64]; omega
  have nbm : ((q2 : Int) == 1) = false := by simp; omega
  have r1 : IntKind.i64.wrap ((a : Int) + (b : Int)) = (a : Int) + (b : Int) := by rw [IntKind.wrap_i64]; omega
  have r2 : IntKind.u64.wrap ((a : Int) + (b : Int)) = (a : Int) + (b : Int) := by rw [IntKind.wrap_u64]; omega
  have r3 : ((a : Int) + (b : Int)) / 2 = (mid : Int) := by omega
  have pmid : (0 : Int) ≤ (mid : Int) := by omega
  have bmid : (mid : Int) < (d.size : Int) := by omega
  obtain ⟨nn, hnn⟩ : ∃ nn, nn = mid + m := ⟨_, rfl⟩
  have r4 : IntKind.i64.wrap ((mid : Int) + (m : Int)) = (nn : Int) := by rw [IntKind.wrap_i64]; omega
  obtain ⟨pp, hpp⟩ : ∃ pp, pp = nn - 1 := ⟨_, rfl⟩
  have r5 : IntKind.i64.wrap ((nn : Int) - 1) = (pp : Int) := by rw [IntKind.wrap_i64]; omega
  have r6 : mid < m → IntKind.i64.wrap ((nn : Int) - (b : Int)) = (lo : Int) := fun h => by rw [IntKind.wrap_i64]; rw [if_pos h] at hlo; omega
  have HF : Aside (nn = mid + m ∧ pp = nn - 1 ∧ a ≤ lo ∧ lo ≤ r0 ∧ r0 ≤ mid ∧ r0 ≤ m ∧ mid + m ≤ lo + b ∧ a < mid ∧ mid < b ∧ b ≤ d.size ∧ a + 1 < m ∧ m + 1 < b ∧ (mid < m → lo = mid + m - b ∧ r0 = mid) ∧ (¬ mid < m → lo = a ∧ r0 = m)) :=
    ⟨hnn, hpp, f1, f2, f3, f4, f5, f6.1, f6.2, hbd, ha1, hb1, fun h => by rw [hlo, hr0, if_pos h, if_pos h]; exact ⟨rfl, rfl⟩, fun h => by rw [hlo, hr0, if_neg h, if_neg h]; exact ⟨rfl, rfl⟩⟩
  clear S hd hR hcmp hgL hgR hU hV hlen hP hm hb hmid hq1 hq2 hnn hpp f1 f2 f3 f4 f5 f6 hbd ha1 hb1 hlo hr0 IH
  go_enter Tryz.func116, Tryz.ntmps116
  by_cases hmm : mid < m
  case' pos =>
    have hz0 : (mid : Int) < (m : Int) := by omega
    have r7 := r6 hmm
    have HL0 : Aside (mid = r0) := (HF.out.2.2.2.2.2.2.2.2.2.2.2.2.1 hmm).2.symm
  case' neg =>
    have hz0 : ¬ (mid : Int) < (m : Int) := by omega
    have r7 := r5
    have HL0 : Aside (a = lo ∧ m = r0) := ⟨(HF.out.2.2.2.2.2.2.2.2.2.2.2.2.2 hmm).1.symm, (HF.out.2.2.2.2.2.2.2.2.2.2.2.2.2 hmm).2.symm⟩
  all_goals
    clear r6 hmm
    go_wp2_with fail
    go_loopw [20, 21] (fun vi vj wr => ∃ (i j : Nat), vi = .int .i64 (i : Int) ∧ vj = .int .i64 (j : Int) ∧ lo ≤ i ∧ i ≤ j ∧ j ≤ r0 ∧ Aside (SW enc w0 blk off d wr) ∧ Aside (Cut pf lo r0 i j)) (fun vi vj _ => (intOf vj).toNat - (intOf vi).toNat)
    case atStart =>
      have hcu : Cut pf lo r0 lo r0 := ⟨fun t _ h => by omega, fun t h1 h2 => by omega⟩
      first
        | exact ⟨lo, r0, rfl, by rw [HL0.out], Nat.le_refl _, HF.out.2.2.2.1, Nat.le_refl _, S0, hcu⟩
        | exact ⟨lo, r0, by rw [HL0.out.1], by rw [HL0.out.2], Nat.le_refl _, HF.out.2.2.2.1, Nat.le_refl _, S0, hcu⟩
    case round =>
      clear S0
      obtain ⟨i, j, rfl, rfl, hmi, hij, hjb, S1, HCU⟩ := hrel
      obtain ⟨n1, n2, n3, n4, n5, n6, n7, n8, n9, n10, n11, n12, _, _⟩ := HF.out
      by_cases hlt : i < j
      · have hz : (i : Int) < (j : Int) := by omega
        obtain ⟨h, hh⟩ : ∃ h, h = (i + j) / 2 := ⟨_, rfl⟩
        have hh1 : i ≤ h := by omega
        have hh2 : h < j := by omega
        have s1 : IntKind.i64.wrap ((i : Int) + (j : Int)) = (i : Int) + (j : Int) := by rw [IntKind.wrap_i64]; omega
        have s2 : IntKind.u64.wrap ((i : Int) + (j : Int)) = (i : Int) + (j : Int) := by rw [IntKind.wrap_u64]; omega
        have s3 : ((i : Int) + (j : Int)) / 2 = (h : Int) := by omega
        obtain ⟨k, hk⟩ : ∃ k, k = pp - h := ⟨_, rfl⟩
        have s4 : IntKind.i64.wrap ((pp : Int) - (h : Int)) = (k : Int) := by rw [IntKind.wrap_i64]; omega
        have ph : (0 : Int) ≤ (h : Int) := by omega
        have bh : (h : Int) < (d.size : Int) := by omega
        have pk : (0 : Int) ≤ (k : Int) := by omega
        have bk : (k : Int) < (d.size : Int) := by omega
        obtain ⟨x, hx⟩ : ∃ x, x = d[h]! := ⟨_, rfl⟩
        obtain ⟨y, hy⟩ : ∃ y, y = d[k]! := ⟨_, rfl⟩
        have hg := HG.out h (by omega) (by omega)
        have HLT : Aside (pf h = !decide (cf y x < 0)) := by
          show _ = _
          rw [HPF.out h (by omega), hx, hy, hg.1, show k = mid + m - 1 - h by omega, hg.2]
          rfl
        have l1 := S1.out.cl HR.out (by omega) k (by omega)
        have l2 := S1.out.cl HR.out (by omega) h (by omega)
        rw [← hy] at l1
        rw [← hx] at l2
        have hc := S1.out.cmp HC.out (by omega) y x
        have HHH : Aside (h < r0 ∧ h + 1 ≤ j) := ⟨by omega, by omega⟩
        have s5 : IntKind.i64.wrap ((h : Int) + 1) = (h : Int) + 1 := by rw [IntKind.wrap_i64]; omega
        clear hx hy hg hk hh n1 n2 n3 n4 n5 n6 n7 n8 n9 n10 n11 n12
        go_wp2_with fail
        cases hd : decide (cf y x < 0) with
        | false =>
          have hv : ¬ cf y x < 0 := of_decide_eq_false hd
          go_quiet_grown (first | (go_at_fn gf; refine Calls.grown_of (hc _ _)))
          have S2 : Aside (SW enc w0 blk off d (grow (wr.drewN nq) osq)) := S1.out.grown nq osq
          clear l1 l2 hc S1
          generalize grow (wr.drewN nq) osq = w2 at S2 ⊢
          clear nq osq
          go_wp2
          exact ⟨⟨h + 1, j, by go_num, rfl, by omega, HHH.out.2, hjb, S2, HCU.out.more HM.out HHH.out.1 (by rw [HLT.out, hd]; rfl)⟩, by simp [intOf]; omega⟩
        | true =>
          have hv : cf y x < 0 := of_decide_eq_true hd
          go_quiet_grown (first | (go_at_fn gf; refine Calls.grown_of (hc _ _)))
          have S2 : Aside (SW enc w0 blk off d (grow (wr.drewN nq) osq)) := S1.out.grown nq osq
          clear l1 l2 hc S1
          generalize grow (wr.drewN nq) osq = w2 at S2 ⊢
          clear nq osq
          go_wp2
          exact ⟨⟨i, h, rfl, rfl, hmi, hh1, by omega, S2, HCU.out.less HM.out (by rw [HLT.out, hd]; rfl)⟩, by simp [intOf]; omega⟩
      · have hz : ¬ (i : Int) < (j : Int) := by omega
        obtain rfl : i = j := by omega
        have HH : Aside (∃ L1 L2 R1 R2, Halves (ltOf cf) L R L1 L2 R1 R2 ∧ L1.length + a = i ∧ i + R1.length = mid) := by
          obtain ⟨e1, e2⟩ := HE1.out
          obtain ⟨p1, p2, p3⟩ := HP.out
          refine ⟨L.take (i - a), L.drop (i - a), R.take (mid - i), R.drop (mid - i), ⟨(List.take_append_drop _ _).symm, (List.take_append_drop _ _).symm, ?_⟩, by rw [List.length_take]; omega, by rw [List.length_take]; omega⟩
          have := mg_at (ltOf cf) ho ho.irr L R HUV.out.1 HUV.out.2 (mid - a) (lo - a) (r0 - a) (i - a) (by omega) (by omega) (by omega) (by omega) (by omega) e1 e2 (fun c h1 h2 hc hd => ?_) (fun c h1 h2 hc hd => ?_)
          · rwa [show mid - a - (i - a) = mid - i by omega] at this
          · have h3 := HCU.out.yes (c + a) (by omega) (by omega)
            rw [HPF.out _ (by omega), show c + a - a = c by omega, show mid - 1 - (c + a) = mid - a - 1 - c by omega, getElem!_pos L c hc, getElem!_pos R _ hd] at h3
            simpa using h3
          · have h3 := HCU.out.no (c + a) (by omega) (by omega)
            rw [HPF.out _ (by omega), show c + a - a = c by omega, show mid - 1 - (c + a) = mid - a - 1 - c by omega, getElem!_pos L c hc, getElem!_pos R _ hd] at h3
            simpa using h3
        obtain ⟨L1, L2, R1, R2, hH, hl1, hr1⟩ := HH.out
        obtain ⟨en, hen⟩ : ∃ en, en = nn - i := ⟨_, rfl⟩
        obtain ⟨p1, p2, p3⟩ := HP.out
        have hl2 : i + L2.length = m := by rw [hH.l, List.length_append] at p2; omega
        have hr2 : R2.length + en = b := by rw [hH.r, List.length_append] at p3; omega
        have hen2 : R1.length + m = en := by omega
        have hen3 : mid + L2.length = en := by omega
        have s6 : IntKind.i64.wrap ((nn : Int) - (i : Int)) = (en : Int) := by rw [IntKind.wrap_i64]; omega
        have HLN : Aside (P.length = a ∧ L1.length + a = i ∧ i + R1.length = mid ∧ i + L2.length = m ∧ R2.length + en = b ∧ R1.length + m = en ∧ mid + L2.length = en ∧ a < mid ∧ mid < b) := ⟨p1, hl1, hr1, hl2, hr2, hen2, hen3, n8, n9⟩
        have HMG : Aside (mg (ltOf cf) L R = mg (ltOf cf) L1 R1 ++ mg (ltOf cf) L2 R2) := hH.mg
        have HUU : Aside (Up (ltOf cf) L1 ∧ Up (ltOf cf) R1 ∧ Up (ltOf cf) L2 ∧ Up (ltOf cf) R2) := by
          have hU := HUV.out.1
          have hV := HUV.out.2
          unfold Up at hU hV ⊢
          rw [hH.l] at hU
          rw [hH.r] at hV
          exact ⟨(List.pairwise_append.1 hU).1, (List.pairwise_append.1 hV).1, (List.pairwise_append.1 hU).2.1, (List.pairwise_append.1 hV).2.1⟩
        have HD1 : Aside (d.toList = (P ++ L1) ++ (L2 ++ (R1 ++ (R2 ++ Q)))) := by show _ = _; rw [HD.out, hH.l, hH.r]; simp
        have HSZ : Aside (∀ (d' : Array α) (l : List α), d'.toList = l → l.length = d.size → d'.size = d.size) := fun d' l h1 h2 => by rw [← Array.length_toList, h1, h2]
        have HLL : Aside ((P ++ (L1 ++ (R1 ++ (L2 ++ (R2 ++ Q))))).length = d.size) := by
          show _ = _
          rw [← Array.length_toList, HD1.out]
          simp
          omega
        clear n1 n2 n3 n4 n5 n6 n7 n8 n9 n10 n11 n12 HH hH hl1 hr1 p1 p2 p3 hl2 hr2 hen hen2 hen3 HCU HM HPF HG HE1 HUV HD hmi hjb hij hlt
        -- the middle is turned
        by_cases z1 : (i : Int) < (m : Int)
        all_goals by_cases z2 : (m : Int) < (en : Int)
        all_goals first
          | (have HRO := mkA (rotate_s enc blk off cap i m en (.func (.func gf) #[] cb) d0 d w0 wr (P ++ L1) L2 R1 (R2 ++ Q) HR.out (by omega) S1.out HD1.out (by have := HLN.out; rw [List.length_append]; omega) (by have := HLN.out; omega) (by have := HLN.out; omega) (by omega) (by omega) hsz)
             clear S1
             go_wp2_with fail
             refine HRO.out.mono ?_
             rintro e wr ⟨rfl, d2, hS2, hL2⟩
             have S2 : Aside (SW enc w0 blk off d2 wr) := hS2
             have HL2 : Aside (d2.toList = P ++ (L1 ++ (R1 ++ (L2 ++ (R2 ++ Q))))) := by show _ = _; rw [hL2]; simp
             clear hS2 hL2 HRO)
          | (obtain ⟨d2, S2, HL2⟩ : ∃ d2, Aside (SW enc w0 blk off d2 wr) ∧ Aside (d2.toList = P ++ (L1 ++ (R1 ++ (L2 ++ (R2 ++ Q))))) := ⟨d, S1, by
               have h0 : R1 = [] ∨ L2 = [] := by
                 have := HLN.out
                 rcases Nat.lt_or_ge i m with q | q
                 · exact .inl (List.length_eq_zero_iff.1 (by omega))
                 · exact .inr (List.length_eq_zero_iff.1 (by omega))
               show _ = _
               rcases h0 with h0 | h0 <;> (rw [HD1.out, h0]; simp)⟩
             clear S1)
        -- the first half
        all_goals
          have hs2 : d2.size = d.size := HSZ.out d2 _ HL2.out HLL.out
          by_cases z3 : (a : Int) < (i : Int)
        all_goals first
          | (have z4 : (i : Int) < (mid : Int) := by have := HLN.out; omega
             have HSY := mkA (HI0.out a i mid d2 wr P L1 R1 (L2 ++ (R2 ++ Q)) (by have := HLN.out; omega) hs2 S2.out HL2.out (HLN.out.1) (HLN.out.2.1) (by have := HLN.out; omega) (by omega) (by omega) HUU.out.1 HUU.out.2.1)
             clear S2 HL2 hs2
             go_wp2_with fail
             refine HSY.out.mono ?_
             rintro e wr ⟨rfl, d3, hS3, hL3⟩
             have S3 : Aside (SW enc w0 blk off d3 wr) := hS3
             have HL3 : Aside (d3.toList = P ++ (mg (ltOf cf) L1 R1 ++ (L2 ++ (R2 ++ Q)))) := hL3
             clear hS3 hL3 HSY)
          | (have z4 : ¬ ((a : Int) < (i : Int) ∧ (i : Int) < (mid : Int)) := by have := HLN.out; omega
             obtain ⟨d3, S3, HL3⟩ : ∃ d3, Aside (SW enc w0 blk off d3 wr) ∧ Aside (d3.toList = P ++ (mg (ltOf cf) L1 R1 ++ (L2 ++ (R2 ++ Q)))) := ⟨d2, S2, by
               have h0 : R1 = [] ∨ L1 = [] := by
                 have := HLN.out
                 rcases Nat.lt_or_ge a i with q | q
                 · exact .inl (List.length_eq_zero_iff.1 (by omega))
                 · exact .inr (List.length_eq_zero_iff.1 (by omega))
               show _ = _
               rw [HL2.out]
               rcases h0 with h0 | h0
               · rw [h0, mg_nil]; simp
               · rw [h0, mg_nil']; simp⟩
             clear S2 HL2 z4
             first
               | have z4 : (i : Int) < (mid : Int) := by have := HLN.out; omega
               | have z4 : ¬ (i : Int) < (mid : Int) := by have := HLN.out; omega)
        -- the second half
        all_goals
          have HL4 : Aside ((mg (ltOf cf) L1 R1).length = L1.length + R1.length) := by show _ = _; rw [(mg_perm (ltOf cf) L1 R1).length_eq, List.length_append]
          have hs3 : d3.size = d.size := HSZ.out d3 _ HL3.out (by have := HLL.out; have := HL4.out; simp only [List.length_append] at *; omega)
          by_cases z6 : (en : Int) < (b : Int)
        all_goals first
          | (have z5 : (mid : Int) < (en : Int) := by have := HLN.out; omega
             have HSY := mkA (HI0.out mid en b d3 wr (P ++ mg (ltOf cf) L1 R1) L2 R2 Q (by have := HLN.out; omega) hs3 S3.out (by rw [HL3.out]; simp) (by have := HLN.out; have := HL4.out; rw [List.length_append]; omega) (by have := HLN.out; omega) (by have := HLN.out; omega) (by omega) (by omega) HUU.out.2.2.1 HUU.out.2.2.2)
             clear S3 HL3 hs3
             go_wp2_with fail
             refine HSY.out.mono ?_
             rintro e wr ⟨rfl, d4, hS4, hL4⟩
             have S4 : Aside (SW enc w0 blk off d4 wr) := hS4
             have HF4 : Aside (d4.toList = P ++ (mg (ltOf cf) L R ++ Q)) := by show _ = _; rw [hL4, HMG.out]; simp
             clear hS4 hL4 HSY)
          | (obtain ⟨d4, S4, HF4⟩ : ∃ d4, Aside (SW enc w0 blk off d4 wr) ∧ Aside (d4.toList = P ++ (mg (ltOf cf) L R ++ Q)) := ⟨d3, S3, by
               have h0 : R2 = [] ∨ L2 = [] := by
                 have := HLN.out
                 rcases Nat.lt_or_ge mid en with q | q
                 · exact .inl (List.length_eq_zero_iff.1 (by omega))
                 · exact .inr (List.length_eq_zero_iff.1 (by omega))
               show _ = _
               rw [HL3.out, HMG.out]
               rcases h0 with h0 | h0
               · rw [h0, mg_nil]; simp
               · rw [h0, mg_nil']; simp⟩
             clear S3 HL3
             first
               | have z5 : (mid : Int) < (en : Int) := by have := HLN.out; omega
               | have z5 : ¬ (mid : Int) < (en : Int) := by have := HLN.out; omega)
        all_goals
          go_wp2
          all_goals (go_end0; exact ⟨rfl, d4, S4.out, HF4.out⟩)
/-- Two rows that stand in order are put together. -/
theorem symMerge_s (enc : α → Value) (cf : α → α → Int) (gf : Nat) (cb : Array Value) (blk off cap : Nat) (d0 : Array α) (w0 : World)
    (eg : ∀ args w, (callFunc gf args).run Tryz.prog w = .ok (.enter gf args) w) (hcmp : CmpLays1 Tryz.prog gf cb enc cf blk off d0.size w0) (hR : Row1 enc w0 blk off d0) (ho : Ord (ltOf cf)) (hsz : d0.size < 1000000) : ∀ k, SymOk enc cf gf cb blk off cap d0.size w0 k
  | 0 => fun a m b d w P L R Q h => by omega
  | k + 1 => fun a m b d w P L R Q hk hds S hd hP hL hR' ham hmb hU hV => by
    by_cases h1 : a + 1 = m
    · obtain ⟨x0, rfl⟩ : ∃ x, L = [x] := List.length_eq_one_iff.1 (by omega)
      have := sym_one enc cf gf cb blk off cap a m b d0 d w0 w P x0 R Q eg hcmp hR hds.symm S ho hd hP h1 hR' hmb hV (by omega)
      rwa [hds] at this
    · by_cases h2 : m + 1 = b
      · obtain ⟨y0, rfl⟩ : ∃ x, R = [x] := List.length_eq_one_iff.1 (by omega)
        have := sym_last enc cf gf cb blk off cap a m b d0 d w0 w P L y0 Q eg hcmp hR hds.symm S ho hd hP hL h2 (by omega) hU (by omega)
        rwa [hds] at this
      · have ih := symMerge_s enc cf gf cb blk off cap d0 w0 eg hcmp hR ho hsz k
        have := sym_step enc cf gf cb blk off cap a m b d0 d w0 w P L R Q eg hcmp hR hds.symm S ho (by rw [hds]; exact fun a' m' b' d' w' P' L' R' Q' hlt => ih a' m' b' d' w' P' L' R' Q' (by omega)) hd hP hL hR' (by omega) (by omega) hU hV (by omega)
        rwa [hds] at this
end Go.Proofs.YtlnkbhbpkmnkaaaGreatDoor.Stb
