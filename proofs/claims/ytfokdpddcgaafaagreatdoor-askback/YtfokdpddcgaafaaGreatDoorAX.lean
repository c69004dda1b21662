/- What ask.tokens does, said of every call. -/
import Derived.Test.YtfokdpddcgaafaaGreatDoorAW
import Derived.Deep.AppendLies
namespace Go.Proofs.YtfokdpddcgaafaaGreatDoor
open Go.RowKit Go.Proofs Go.Lib Go.Proofs.YtfokdpddcgaafaaGreatDoor.Ask

def intNat : Value → Nat
  | .int _ n => n.toNat
  | _ => 0
theorem drop_len {q : UInt8 → Bool} (l : List UInt8) : l.dropWhile q = l.drop (l.takeWhile q).length := by
  induction l with
  | nil => rfl
  | cons b l ih => rw [List.dropWhile_cons, List.takeWhile_cons]; split <;> simp [ih]
theorem dropB_eq (l : List UInt8) : dropB l = l.drop (runL blR l) := drop_len l
theorem first_suf {s : List UInt8} {t : Tok} {r : List UInt8} (h : first1 s = some (t, r)) : r <:+ s := by
  cases s with
  | nil => cases h
  | cons b s =>
    have hc : ∀ {x : List UInt8}, x <:+ s → x <:+ b :: s := fun hx => hx.trans (List.suffix_cons b s)
    simp only [first1] at h
    split at h
    · cases h; exact hc (List.dropWhile_suffix _)
    · split at h
      · cases h; exact hc (List.dropWhile_suffix _)
      · split at h
        · cases h; exact hc (List.dropWhile_suffix _)
        · split at h
          · cases h; exact hc ((List.drop_suffix _ _).trans (List.dropWhile_suffix _))
          · unfold markF at h
            split at h <;> first
              | (rename_i heq; rw [heq]; cases h; first
                  | exact List.suffix_cons _ _
                  | exact (List.suffix_cons _ _).trans (List.suffix_cons _ _))
              | cases h
theorem first_rest {s : List UInt8} {t : Tok} {r : List UInt8} (h : first1 s = some (t, r)) : r = s.drop (s.length - r.length) := List.suffix_iff_eq_drop.mp (first_suf h)
def TsPost (l : List UInt8) (w : World) (e : Ending) (w' : World) : Prop :=
  ∃ o, TS 0 l o ∧ Below w.heap.size w w' ∧ ((o = none ∧ Thrown e) ∨ ∃ ts g c, o = some ts ∧ e = .returned (.slice (some ⟨g, 0, none⟩) (ts.length + 1) c) ∧ ts.length + 1 ≤ c ∧ w.heap.size ≤ g ∧ Lies w' g 0 ts ∧ Ok ts)
set_option maxHeartbeats 8000000 in
set_option maxRecDepth 100000 in
theorem tokens_any (s : ByteArray) (w : World) (hs : s.size ≤ 1000000) (hm : MkB w) : Calls Tryz.prog 28 #[.string s] w (TsPost s.data.toList w) := by
  have HM := mkH hm
  have HSZ := mkH (size_eq s)
  have hmf := hmfA
  obtain ⟨iC, ic1, ic2, ic3, ic4⟩ := info_parts infoT
  have HIC := mkH (And.intro ic1 (And.intro ic2 (And.intro ic3 ic4)))
  clear hm ic1 ic2 ic3 ic4
  unfold TsPost
  generalize hsl : s.data.toList = sl at *
  go_enter Tryz.func28, Tryz.ntmps28
  go_wp2_with fail
  go_loopw [3, 4] (fun vl vp wr => ∃ (P : Nat) (acc : List (Tok × Int)) (a : Option Addr) (c : Nat), vl = .slice a acc.length c ∧ vp = .int .i64 (P : Int) ∧ P ≤ s.size ∧ acc.length ≤ 80 ∧ Hid (∀ o, TS acc.length (sl.drop P) o → TS 0 sl (o.map (acc.map Prod.fst ++ ·))) ∧ Hid (wr.ownsRow w.heap.size 41 4 (.slice a acc.length c) acc.length (cellsT acc)) ∧ Hid (Below w.heap.size w wr) ∧ Hid (∀ t ∈ acc, t.1.text.length ≤ 1000000)) (fun _ vp _ => s.size - intNat vp)
  case atStart => exact ⟨0, [], none, 0, rfl, rfl, Nat.zero_le _, Nat.zero_le _, mkH (by intro o h; simpa using h), mkH (World.ownsRow_nil ..), mkH (Below.refl _ _), mkH (by simp)⟩
  case round =>
    obtain ⟨P, acc, a, c, rfl, rfl, hP, hA, HTS, HOW, HBW, HTX⟩ := hrel
    have c1 : (0 : Int) ≤ (P : Int) := by omega
    have c2 : (P : Int) ≤ (s.size : Int) := by omega
    go_wp2_with fail
    have HRN := run_blank (s.extract P s.size) (by unfold maxLen; rw [ext_drop, bA_size, List.length_drop, hsl, ← HSZ.out]; omega) wr
    rw [ext_drop, bA_toList, hsl] at HRN
    rw [ext_drop, hsl]
    refine HRN.mono ?_
    rintro e w1 ⟨rfl, hb1⟩
    have hn := runL_le blR (sl.drop P)
    have HDB := mkH (dropB_eq (sl.drop P))
    rw [List.length_drop, ← HSZ.out] at hn
    rw [List.drop_drop] at HDB
    have HB1 := mkH (Below.ups HBW.out hb1)
    have HO1 := mkH (own_up HOW.out hb1)
    clear HRN hb1 HOW HBW
    generalize hrn : runL blR (sl.drop P) = n at *
    clear hrn
    have hPn : P + n ≤ s.size := by omega
    by_cases hend : P + n = s.size
    · have c3 : ((P : Int) + (n : Int)) = (s.size : Int) := by omega
      have HFIN : Hid (TS 0 sl (some (acc.map Prod.fst))) := by
        show TS _ _ _
        have := HTS.out (some []) (.fin (by rw [HDB.out, List.drop_of_length_le (by rw [← HSZ.out]; omega)]))
        simpa using this
      have HA1 : Hid (Below w1.heap.size w1 (w1.alloc (oTok 0 ⟨#[]⟩ (s.size : Int) 0))) := mkH ((Below.refl _ _).alloc (Nat.le_refl _) _)
      go_wp2_with (first
        | (at_builtin; refine wpList_append_own _ rfl _ _ 56 rfl w.heap.size 41 iC zeroT 4 40 Tryz.underlying56 HIC.out.1 HIC.out.2.1 HIC.out.2.2.1 HIC.out.2.2.2 rfl (by decide) (.slice a acc.length c) acc.length (cellsT acc) rfl (own_up HO1.out HA1.out) ⟨w1.heap.size, 0, none⟩ 1 1 [.int .i64 0, .string ⟨#[]⟩, .int .i64 (s.size : Int), .int .i64 0] rfl rfl (fun j u hj => World.news_of_block (heap_alloc_new _ _) j u hj) (by intro u hu; simp at hu; rcases hu with rfl | rfl | rfl | rfl <;> rfl) (by unfold maxLen; omega) (by omega) (Nat.le_trans HB1.out.size HA1.out.size) ?_
           intro v1 w3 hown3 hg3 _
           have HO3 := mkH hown3
           have HG3 := mkH hg3
           clear hown3 hg3))
      obtain ⟨a', c', rfl⟩ := own_sl HO3.out
      go_ret
      have hb4 := Below.ups HB1.out HA1.out
      refine ⟨_, HFIN.out, hb4.grown HG3.out hb4.size (fun j hj => own_blk HO1.out hj), .inr ?_⟩
      rcases HO3.out.2 with ⟨_, h0⟩ | ⟨g, cap, cur, hv, hbg, hk, hc1, _, _, htk⟩
      · omega
      · cases hv
        have hle : (acc.map Prod.fst).length = acc.length := by simp
        refine ⟨acc.map Prod.fst, g, c', rfl, by rw [hle]; rfl, by rw [hle]; omega, hbg, lies_row hk acc (s.size : Int) 0 ?_, ?_⟩
        · rw [List.drop_zero, cellsT_snoc]
          have e4 : acc.length * 4 + 4 = (acc.length + 1) * 4 := by omega
          rw [e4, htk]; rfl
        · refine ⟨by rw [hle]; omega, fun t ht => ?_⟩
          obtain ⟨x, hx, rfl⟩ := List.mem_map.mp ht
          exact ⟨HTX.out x hx, (ts_codes HFIN.out _ rfl (by omega)).1 _ ht⟩
    · have c3 : ¬ (((P : Int) + (n : Int)) = (s.size : Int)) := by omega
      have c4 : (((P : Int) + (n : Int)) == (s.size : Int)) = false := by simpa using c3
      have HFS := first_any (s.extract (P + n) s.size) w1 (by rw [ext_drop, bA_size, List.length_drop, hsl, ← HSZ.out]; omega) (HM.out.below HB1.out) (by rw [ext_drop, bA_size, List.length_drop, hsl, ← HSZ.out]; omega)
      rw [ext_drop, bA_toList, hsl] at HFS
      unfold FPost at HFS
      have HLN : Hid ((sl.drop (P + n)).length = s.size - (P + n)) := by show _ = _; rw [List.length_drop, ← HSZ.out]
      have HDD : Hid (dropB (sl.drop P) ≠ []) := by
        show _ ≠ _
        rw [HDB.out]
        intro e
        have := congrArg List.length e
        rw [HLN.out] at this
        simp at this
        omega
      rw [← HDB.out] at HFS HLN
      have HXX := mkH HDB.out
      clear HDB
      have HF := mkH HFS
      clear HFS
      cases hf : first1 (dropB (sl.drop P)) with
      | none =>
        rw [hf] at HF
        have HTN : Hid (TS 0 sl none) := HTS.out none (.bad HDD.out hf)
        clear hf
        go_wp2_with fail
        rw [ext_drop, hsl, ← HXX.out]
        refine HF.out.mono ?_
        rintro e w2 ⟨hb2, rfl⟩
        have HB2 := mkH (Below.ups HB1.out hb2)
        clear hb2
        unfold tokV
        go_wp2_with fail
        refine (throw_any _ _ _).mono ?_
        rintro e w3 ⟨⟨ad, rfl⟩, hb3⟩
        exact ⟨rfl, none, HTN.out, Below.ups (HB2.out.alloc HB2.out.size _) hb3, .inl ⟨rfl, ad, rfl⟩⟩
      | some p =>
        obtain ⟨t, r⟩ := p
        rw [hf] at HF
        have hle := (first_le hf).1
        have HRS := mkH (first_rest hf)
        rw [HLN.out] at hle HRS
        have HXL := mkH HLN.out
        have HTL : Hid (t.text.length ≤ 1000000) := by
          show _ ≤ _
          have := text_le hf
          rw [HLN.out] at this
          omega
        by_cases h80 : acc.length = 80
        · have HTN : Hid (TS 0 sl none) := HTS.out none (.many hf h80)
          clear hf
          have c5 : (acc.length : Int) = 80 := by omega
          go_wp2_with fail
          rw [ext_drop, hsl, ← HXX.out]
          refine HF.out.mono ?_
          rintro e w2 ⟨hb2, rfl⟩
          rw [HXL.out]
          have HB2 := mkH (Below.ups HB1.out hb2)
          clear hb2
          unfold tokV
          have c6 : ¬ (((s.size - (P + n) - r.length : Nat) : Int) = 0) := by omega
          have c7 : ((((s.size - (P + n) - r.length : Nat) : Int)) == 0) = false := by simpa using c6
          generalize s.size - (P + n) - r.length = ln at *
          go_wp2_with fail
          refine (throw_any _ _ _).mono ?_
          rintro e w3 ⟨⟨ad, rfl⟩, hb3⟩
          exact ⟨rfl, none, HTN.out, Below.ups (HB2.out.alloc HB2.out.size _) hb3, .inl ⟨rfl, ad, rfl⟩⟩
        · have HTN : Hid (∀ o, TS (acc.length + 1) r o → TS 0 sl ((o.map (t :: ·)).map (acc.map Prod.fst ++ ·))) := fun o h => HTS.out _ (.go hf h80 h)
          clear hf
          have c5 : ¬ ((acc.length : Int) = 80) := by omega
          have c55 : ((acc.length : Int) == 80) = false := by simpa using c5
          go_wp2_with fail
          rw [ext_drop, hsl, ← HXX.out]
          refine HF.out.mono ?_
          rintro e w2 ⟨hb2, rfl⟩
          rw [HXL.out]
          have HB2 := mkH (Below.ups HB1.out hb2)
          have HO2 := mkH (own_up HO1.out hb2)
          clear hb2
          unfold tokV
          have c6 : ¬ (((s.size - (P + n) - r.length : Nat) : Int) = 0) := by omega
          have c7 : ((((s.size - (P + n) - r.length : Nat) : Int)) == 0) = false := by simpa using c6
          have c8 : P + n + (s.size - (P + n) - r.length) ≤ s.size := by omega
          generalize hln : s.size - (P + n) - r.length = ln at *
          have HA2 : Hid (Below w2.heap.size w2 ((w2.alloc (oTok (t.kind : Int) (bA t.text) ((P : Int) + (n : Int)) (t.code : Int))).alloc (oTok (t.kind : Int) (bA t.text) ((P : Int) + (n : Int)) (t.code : Int)))) := mkH (((Below.refl _ _).alloc (Nat.le_refl _) _).alloc (by rw [World.size_alloc]; exact Nat.le_succ _) _)
          go_wp2_with (first
            | (at_builtin; refine wpList_append_own _ rfl _ _ 56 rfl w.heap.size 41 iC zeroT 4 40 Tryz.underlying56 HIC.out.1 HIC.out.2.1 HIC.out.2.2.1 HIC.out.2.2.2 rfl (by decide) (.slice a acc.length c) acc.length (cellsT acc) rfl (own_up HO2.out HA2.out) ⟨w2.heap.size + 1, 0, none⟩ 1 1 (encT (t, (P : Int) + (n : Int))) rfl rfl (fun j u hj => World.news_of_block (by rw [← World.size_alloc w2 (oTok (t.kind : Int) (bA t.text) ((P : Int) + (n : Int)) (t.code : Int))]; exact heap_alloc_new _ _) j u hj) (by intro u hu; simp [encT] at hu; rcases hu with rfl | rfl | rfl | rfl <;> rfl) (by unfold maxLen; omega) (by omega) (Nat.le_trans HB2.out.size HA2.out.size) ?_
               intro v1 w3 hown3 hg3 _
               have HO3 := mkH hown3
               have HG3 := mkH hg3
               clear hown3 hg3))
          obtain ⟨a', c', rfl⟩ := own_sl HO3.out
          have hb4 := Below.ups HB2.out HA2.out
          refine ⟨⟨P + n + ln, acc ++ [(t, (P : Int) + (n : Int))], a', c', by simp, by simp, c8, by simp; omega, mkH ?_, mkH ?_, mkH (hb4.grown HG3.out hb4.size (fun j hj => own_blk HO2.out hj)), mkH ?_⟩, ?_⟩
          · intro o ho
            rw [← List.drop_drop, ← HXX.out, ← HRS.out] at ho
            have := HTN.out o (by simpa using ho)
            simpa [Function.comp_def] using this
          · rw [cellsT_snoc]
            simpa using HO3.out
          · intro x hx
            rcases List.mem_append.mp hx with hx | hx
            · exact HTX.out x hx
            · rw [List.mem_singleton] at hx; subst hx; exact HTL.out
          · simp only [intNat]
            omega
end Go.Proofs.YtfokdpddcgaafaaGreatDoor
