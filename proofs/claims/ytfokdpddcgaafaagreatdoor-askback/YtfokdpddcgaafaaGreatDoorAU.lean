/- What a reader's all does, said of every call. -/
import Derived.Test.YtfokdpddcgaafaaGreatDoorAT
namespace Go.Proofs.YtfokdpddcgaafaaGreatDoor
open Go.RowKit Go.Proofs Go.Lib Go.Proofs.YtfokdpddcgaafaaGreatDoor.Ask

/-- How many tokens lie before a reader, and one. -/
def rdLen (w : World) (B : Nat) : Nat := match w.cell? ⟨B, 0, none⟩ with
  | some (.slice _ n _) => n
  | _ => 0
theorem Rd.len {w : World} {B : Nat} {ts : List Tok} (h : Rd w B ts) : rdLen w B = ts.length + 1 := by
  obtain ⟨g, o, c, h1, _⟩ := h.it
  simp [rdLen, h1]
set_option maxHeartbeats 8000000 in
set_option maxRecDepth 100000 in
theorem all_step (B k : Nat) (hB : 10 ≤ B) (ih : RdOk 52 .one B k) : RdOk 30 .all B k := by
  intro d ts w hd hl hr ho hg
  have HI := mkH (ih d ts w hd hl hr ho hg)
  have IH := mkH ih
  have HB := mkH hr.lt
  have HD := mkH hd
  have HL := mkH hl
  have HO := mkH ho
  have HG := mkH hg
  have HNG := mkH hB
  clear hr ho hg hB ih hd hl
  unfold RPost at HI ⊢
  go_enter Tryz.func30, Tryz.ntmps30
  go_wp2_with fail
  refine HI.out.mono ?_
  rintro e w1 ⟨o, hpr, hp1, ⟨rfl, a, rfl⟩ | ⟨T, r, v, rfl, hs, rfl, hin, hr1⟩⟩
  · exact ⟨rfl, none, .all_no hpr, hp1, .inl ⟨rfl, a, rfl⟩⟩
  obtain ⟨pv, rfl⟩ := InC_ptr hin
  have HS : Hid (∃ c r, S.InC w1 (ctOf c) (.pointer pv) ∧ Rd w1 B r ∧ Past B w w1 ∧ r <:+ ts ∧ ∀ o, PR nmL rtL (.allL c) d r o → PR nmL rtL .all d ts o) := mkH ⟨T, r, hin, hr1, hp1, hs, fun o h => .all_go hpr h⟩
  clear hpr hp1 hs hin hr1 HI
  go_wp2_with fail
  go_loopw [5] (fun vc wr => ∃ pv, vc = .pointer pv ∧ Hid (∃ c r, S.InC wr (ctOf c) (.pointer pv) ∧ Rd wr B r ∧ Past B w wr ∧ r <:+ ts ∧ ∀ o, PR nmL rtL (.allL c) d r o → PR nmL rtL .all d ts o)) (fun _ wr => rdLen wr B)
  case atStart => exact ⟨pv, rfl, HS⟩
  case round =>
    obtain ⟨pv2, rfl, HS2⟩ := hrel
    obtain ⟨c, r2, hin2, hr2, hp2, hs2, hc2⟩ := HS2.out
    have HIN2 := mkH hin2
    have HR2 := mkH hr2
    have HP2 := mkH hp2
    have HS3 := mkH hs2
    have HC2 := mkH hc2
    have HZ := mkH hr2.len
    clear hin2 hr2 hp2 hs2 hc2 HS2 HS
    go_wp2_with fail
    refine (takes_any B 1 wAnd r2 _ HR2.out (HO.out.suffix HS3.out).len).mono ?_
    rintro e w3 ⟨hp3, ⟨q3, rfl, hr3⟩ | ⟨q3, rfl, hr3⟩⟩
    · have E3 := mkH (hd_cons (by decide) q3)
      have Q3 := mkH q3
      have HIN3 := mkH (InC_past HR2.out hp3 HIN2.out)
      have HP3 := mkH (HP2.out.trans hp3)
      have HR3 := mkH hr3
      have HS4 := mkH ((List.drop_suffix 1 r2).trans HS3.out)
      have HLn : Hid ((r2.drop 1).length < r2.length) := by
        show _ < _
        have := congrArg List.length E3.out
        rw [List.length_cons] at this
        omega
      clear hp3 hr3 q3
      go_wp2_with fail
      refine (IH.out d (r2.drop 1) w3 HD.out (Nat.le_trans HS4.out.length_le HL.out) HR3.out (HO.out.suffix HS4.out) (HG.out.past HNG.out HP3.out)).mono ?_
      rintro e w4 ⟨o, hpr, hp4, ⟨rfl, a, rfl⟩ | ⟨T, r, v, rfl, hs, rfl, hin, hr4⟩⟩
      · exact ⟨rfl, none, HC2.out _ (by rw [E3.out]; exact .allL_no Q3.out hpr), HP3.out.trans hp4, .inl ⟨rfl, a, rfl⟩⟩
      obtain ⟨pq, rfl⟩ := InC_ptr hin
      have HC4 : Hid (∀ o, PR nmL rtL (.allL (.bi false c T)) d r o → PR nmL rtL .all d ts o) := fun o h => HC2.out _ (by rw [E3.out]; exact .allL_go Q3.out hpr h)
      have HIN4 := mkH hin
      have HIN5 := mkH (InC_past HR3.out hp4 HIN3.out)
      have HP4 := mkH (HP3.out.trans hp4)
      have HR4 := mkH hr4
      have HS5 := mkH (hs.trans HS4.out)
      have HL5 := mkH (Nat.lt_of_le_of_lt hs.length_le HLn.out)
      clear hpr hp4 hin hr4 hs
      go_wp2
      have hl4 := HR4.out.lt
      have hba : Below w4.heap.size w4 (w4.alloc (oCnd 9 ⟨#[]⟩ 0 0 ⟨#[]⟩ (.pointer pv2) (.pointer pq))) := (Below.refl _ _).alloc (Nat.le_refl _) _
      refine ⟨⟨_, rfl, mkH ⟨.bi false c T, r, ?_, HR4.out.up hba, HP4.out.up (Nat.le_of_lt hl4) hba, HS5.out, HC4.out⟩⟩, ?_⟩
      · exact InC_node (heap_alloc_new w4 _) (by simp) (HIN5.out.up hba) (HIN4.out.up hba)
      · have h1 := (HR4.out.up hba).len
        have h2 := HL5.out
        have h3 := HZ.out
        rw [h3]
        refine Nat.lt_of_le_of_lt (Nat.le_of_eq h1) ?_
        omega
    · have HPR : Hid (PR nmL rtL .all d ts (some (c, r2))) := HC2.out _ (.allL_end ((hdT_eq 1 wAnd r2 (by decide)).trans q3))
      have HIN3 := mkH (InC_past HR2.out hp3 HIN2.out)
      have HP3 := mkH (HP2.out.trans hp3)
      have HR3 := mkH hr3
      clear hp3 hr3 q3
      go_wp2
      go_ret
      exact ⟨_, HPR.out, HP3.out, .inr ⟨_, _, _, rfl, HS3.out, rfl, HIN3.out, HR3.out⟩⟩
end Go.Proofs.YtfokdpddcgaafaaGreatDoor
