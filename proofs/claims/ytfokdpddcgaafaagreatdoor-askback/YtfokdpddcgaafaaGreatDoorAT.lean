/- What a reader's one does where it is not too deep; and all together. -/
import Derived.Test.YtfokdpddcgaafaaGreatDoorAS
namespace Go.Proofs.YtfokdpddcgaafaaGreatDoor
open Go.RowKit Go.Proofs Go.Lib Go.Proofs.YtfokdpddcgaafaaGreatDoor.Ask

set_option maxHeartbeats 8000000 in
set_option maxRecDepth 100000 in
theorem one_go (B d : Nat) (ts : List Tok) (w : World) (h6 : d ≤ 6) (hr : Rd w B ts) (ho : Ok ts) (hg : GB w) (hB : 10 ≤ B) (ih1 : ∀ n, n < ts.length → RdOk 52 .one B n) (ih2 : ∀ n, n < ts.length → RdOk 15 .cond B n) :
    Calls Tryz.prog 52 #[.pointer (some ⟨B, 0, none⟩), .int .i64 (d : Int)] w (RPost .one d B ts w) := by
  have HT := mkH (token_rd B ts w hr)
  have HB := mkH hr.lt
  have H6 := mkH h6
  have HU : Hid (∀ V o, Below w.heap.size w V → Rd (V.alloc o) B ts ∧ Below w.heap.size w (V.alloc o)) := fun V o hb =>
    have hb' := hb.alloc hb.size o
    ⟨hr.up hb', hb'⟩
  have HO := mkH ho
  have HG := mkH hg
  have HNG := mkH hB
  have I1 := mkH ih1
  have I2 := mkH ih2
  have HK1 : Hid (∀ V, Rd V B ts → Calls Tryz.prog 31 #[.pointer (some ⟨B, 0, none⟩), .int .i64 1, .string ⟨#[110, 111, 116]⟩] V (TkPost B 1 wNot ts V)) := fun V h => takes_any B 1 wNot ts V h ho.len
  have HK2 : Hid (∀ V, Rd V B ts → Calls Tryz.prog 31 #[.pointer (some ⟨B, 0, none⟩), .int .i64 4, .string ⟨#[40]⟩] V (TkPost B 4 [40] ts V)) := fun V h => takes_any B 4 [40] ts V h ho.len
  have HC1 : Hid (∀ x, isT 1 x (hdTok ts) = true → ts = hdTok ts :: ts.drop 1) := fun x h => hd_cons (by decide) h
  have HC4 : Hid (∀ x, isT 4 x (hdTok ts) = true → ts = hdTok ts :: ts.drop 1) := fun x h => hd_cons (by decide) h
  have HD1 := mkH (hdT_eq 1 wNot ts (by decide))
  have HD4 := mkH (hdT_eq 4 [40] ts (by decide))
  have HSd := mkH (List.drop_suffix 1 ts)
  have HLn : Hid (ts = hdTok ts :: ts.drop 1 → (ts.drop 1).length < ts.length) := fun h => by
    have := congrArg List.length h
    rw [List.length_cons] at this
    omega
  clear hr ho hg hB ih1 ih2
  unfold RPost
  unfold TkPost at HK1 HK2
  generalize (hdTok ts).kind = kd at *
  generalize bA (hdTok ts).text = tt at *
  generalize (hdTok ts).code = tc at *
  generalize hdTok ts = th at *
  generalize ts.drop 1 = r1 at *
  have c1 : ¬ ((6 : Int) < (d : Int)) := by omega
  have c2 : (((d + 1 : Nat)) : Int) = (d : Int) + 1 := by omega
  have C2 := mkH c2
  go_enter Tryz.func52, Tryz.ntmps52
  go_wp2_with fail
  refine HT.out.mono ?_
  rintro e w1 ⟨⟨p, rfl⟩, hb1⟩
  unfold tokV
  have HU1 := mkH (fun o => HU.out w1 o hb1)
  clear hb1 HU HT
  go_wp2_with fail
  refine (HK1.out _ (HU1.out _).1).mono ?_
  rintro e w2 ⟨hp2, ⟨q2, rfl, hr2⟩ | ⟨q2, rfl, hr2⟩⟩
  · have HP2 := mkH ((Past.of (Nat.le_of_lt HB.out) (HU1.out _).2).trans hp2)
    have HR2 := mkH hr2
    have E2 := mkH (HC1.out _ q2)
    have Q2 := mkH q2
    clear hp2 hr2 q2 c2
    go_wp2_with fail
    have HI := I1.out r1.length (HLn.out E2.out) (d + 1) r1 w2 (by omega) (Nat.le_refl _) HR2.out (HO.out.suffix HSd.out) (HG.out.past HNG.out HP2.out)
    rw [C2.out] at HI
    refine HI.mono ?_
    rintro e w3 ⟨o, hpr, hp3, ⟨rfl, a, rfl⟩ | ⟨T, r, v, rfl, hs, rfl, hin, hr3⟩⟩
    · exact ⟨rfl, none, by rw [E2.out]; exact .one_not_no H6.out Q2.out hpr, HP2.out.trans hp3, .inl ⟨rfl, a, rfl⟩⟩
    obtain ⟨pv, rfl⟩ := InC_ptr hin
    have HPR : Hid (PR nmL rtL .one d ts (some (.no T, r))) := by show PR _ _ _ _ _ _; rw [E2.out]; exact .one_not H6.out Q2.out hpr
    have HP3 := mkH (HP2.out.trans hp3)
    have HR3 := mkH hr3
    have HIN := mkH hin
    have HS := mkH (hs.trans HSd.out)
    clear hpr hp3 hr3 hin hs
    go_wp2
    go_ret
    have hl3 := HR3.out.lt
    have hba : Below w3.heap.size w3 (w3.alloc (oCnd 11 ⟨#[]⟩ 0 0 ⟨#[]⟩ (.pointer pv) (.pointer none))) := (Below.refl _ _).alloc (Nat.le_refl _) _
    exact ⟨_, HPR.out, HP3.out.up (Nat.le_of_lt hl3) hba, .inr ⟨_, _, _, rfl, HS.out, rfl, InC_node (heap_alloc_new w3 _) (by simp) (HIN.out.up hba) rfl, HR3.out.up hba⟩⟩
  have HP2 := mkH ((Past.of (Nat.le_of_lt HB.out) (HU1.out _).2).trans hp2)
  have HR2 := mkH hr2
  have Q2 := mkH q2
  clear hp2 hr2 q2 c2
  go_wp2_with fail
  refine (HK2.out _ HR2.out).mono ?_
  rintro e w3 ⟨hp3, ⟨q3, rfl, hr3⟩ | ⟨q3, rfl, hr3⟩⟩
  · have HP3 := mkH (HP2.out.trans hp3)
    have HR3 := mkH hr3
    have E3 := mkH (HC4.out _ q3)
    have Q3 := mkH q3
    clear hp3 hr3 q3
    go_wp2_with fail
    have HI := I2.out r1.length (HLn.out E3.out) (d + 1) r1 w3 (by omega) (Nat.le_refl _) HR3.out (HO.out.suffix HSd.out) (HG.out.past HNG.out HP3.out)
    rw [C2.out] at HI
    refine HI.mono ?_
    rintro e w4 ⟨o, hpr, hp4, ⟨rfl, a, rfl⟩ | ⟨T, r, v, rfl, hs, rfl, hin, hr4⟩⟩
    · exact ⟨rfl, none, by rw [E3.out]; exact .one_par_no H6.out Q2.out Q3.out hpr, HP3.out.trans hp4, .inl ⟨rfl, a, rfl⟩⟩
    have HPR := mkH hpr
    have HP4 := mkH (HP3.out.trans hp4)
    have HR4 := mkH hr4
    have HIN := mkH hin
    have HS := mkH (hs.trans HSd.out)
    clear hpr hp4 hr4 hin hs
    go_wp2_with fail
    refine (needs_any B 4 [41] r w4 HR4.out (HO.out.suffix HS.out).len).mono ?_
    rintro e w5 ⟨hp5, ⟨q5, rfl, hr5⟩ | ⟨q5, a, rfl⟩⟩
    rotate_left
    · exact ⟨rfl, none, by rw [E3.out]; exact .one_par_bad H6.out Q2.out Q3.out HPR.out ((hdT_eq 4 [41] r (by decide)).trans q5), HP4.out.trans hp5, .inl ⟨rfl, a, rfl⟩⟩
    have E5 := hd_cons (by decide) q5
    have HPR5 : Hid (PR nmL rtL .one d ts (some (T, r.drop 1))) := by
      show PR _ _ _ _ _ _
      rw [E3.out]
      have h := HPR.out
      rw [E5] at h
      exact .one_par H6.out Q2.out Q3.out h q5
    have HIN5 := mkH (InC_past HR4.out hp5 HIN.out)
    have HP5 := mkH (HP4.out.trans hp5)
    have HR5 := mkH hr5
    clear hp5 hr5 q5 E5
    go_wp2
    go_ret
    exact ⟨_, HPR5.out, HP5.out, .inr ⟨_, _, _, rfl, (List.drop_suffix 1 r).trans HS.out, rfl, HIN5.out, HR5.out⟩⟩
  have HP3 := mkH (HP2.out.trans hp3)
  have HR3 := mkH hr3
  have HPR : Hid (PR nmL rtL .one d ts (leafP nmL rtL ts)) := .one_leaf H6.out (HD1.out.trans Q2.out) (HD4.out.trans q3)
  clear hp3 hr3 q3
  go_wp2_with fail
  refine (leaf_any B ts _ HR3.out HO.out (HG.out.past HNG.out HP3.out) HNG.out).mono ?_
  rintro e w4 ⟨hp4, ⟨q, a, rfl⟩ | ⟨T, r, v, q, hs, rfl, hin, hr4⟩⟩
  · exact ⟨rfl, none, q ▸ HPR.out, HP3.out.trans hp4, .inl ⟨rfl, a, rfl⟩⟩
  have HPR4 := mkH (q ▸ HPR.out)
  have HX := mkH (And.intro (HP3.out.trans hp4) (And.intro hs (And.intro hin hr4)))
  clear q hs hin hr4 hp4
  go_wp2
  go_ret
  exact ⟨_, HPR4.out, HX.out.1, .inr ⟨_, _, _, rfl, HX.out.2.1, rfl, HX.out.2.2.1, HX.out.2.2.2⟩⟩
theorem one_step (B k : Nat) (hB : 10 ≤ B) (ih1 : ∀ n, n < k → RdOk 52 .one B n) (ih2 : ∀ n, n < k → RdOk 15 .cond B n) : RdOk 52 .one B k := by
  intro d ts w hd hl hr ho hg
  by_cases h6 : d ≤ 6
  · exact one_go B d ts w h6 hr ho hg hB (fun n hn => ih1 n (by omega)) (fun n hn => ih2 n (by omega))
  · by_cases hk : (hdTok ts).kind = 0
    · exact one_deepB B d ts w hd (by omega) hk hr ho hg hB
    · exact one_deepA B d ts w hd (by omega) hk hr
end Go.Proofs.YtfokdpddcgaafaaGreatDoor
