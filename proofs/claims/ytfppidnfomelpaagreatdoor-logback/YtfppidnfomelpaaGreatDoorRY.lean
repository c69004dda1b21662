/- The law LogBack: its walk. -/
import Derived.Test.YtfppidnfomelpaaGreatDoorRW
import Derived.Test.YtfppidnfomelpaaGreatDoorRO
import Derived.Test.YtfppidnfomelpaaGreatDoorRQ
import Derived.Test.YtfppidnfomelpaaGreatDoorC2
namespace Go.Proofs.YtfppidnfomelpaaGreatDoor
open Go.RowKit Go.Proofs Go.Lib Go.Joins

theorem parse_log (s : ByteArray) (w : World) (hs : s.size ≤ 1000000) (he : ErrB w) (hw : NcB w) (ht : TabB w) : Calls Tryz.prog 7 #[.string s] w (ParsePost s.data.toList s w) :=
  parse_any_log places_ok s w hs he hw ht (read_bounds (by rw [size_list]; exact hs))
theorem pick_any (a : Int) (n : Nat) (hn : 0 < n) (hn2 : n ≤ 1000000) (w : World) :
    Calls Tryz.prog 10 #[.int .i64 a, .int .i64 n] w fun e w' => ∃ r : Nat, r < n ∧ e = .returned (.int .i64 r) ∧ w' = w := by
  have hw : (0 : Int) ≤ IntKind.u64.wrap a ∧ IntKind.u64.wrap a < 18446744073709551616 := by rw [IntKind.wrap_u64]; omega
  have hz : ((n : Int) == 0) = false := by simp; omega
  have hnz : ¬ (n : Int) = 0 := by omega
  go_enter Tryz.func10, Tryz.ntmps10
  go_wp2
  go_ret
  have hm0 : 0 ≤ IntKind.u64.wrap a % (n : Int) := Int.emod_nonneg _ hnz
  have hm1 : IntKind.u64.wrap a % (n : Int) < (n : Int) := Int.emod_lt_of_pos _ (by omega)
  refine ⟨(IntKind.u64.wrap a % (n : Int)).toNat, by omega, ret_int ?_, rfl⟩
  unfold wrap64
  omega
theorem print_len {tx : ByteArray} {rd : Bool} {A : List Actn} (h : printOk (tx, rd, A) = true) (hl : ∀ a ∈ A, LineOk a) (hn : A.length ≤ 12) : 0 < (printB (tx, rd, A)).size ∧ (printB (tx, rd, A)).size ≤ 1000000 := by
  have e : (printB (tx, rd, A)).size = (headB tx rd).size + (linesL A).length := by
    show (printL (tx, rd, A)).toArray.size = _
    rw [List.size_toArray, printL, List.length_append, size_list]
  simp only [printOk, Bool.and_eq_true] at h
  have h1 := headB_size rd (Nat.le_trans (name_size h.1) (by decide))
  have h2 := linesL_len hl
  have h3 : 0 < (headB tx rd).size := by
    unfold headB
    have e9 : (⟨#[10]⟩ : ByteArray).size = 1 := rfl
    rw [bsize_app, e9]
    omega
  omega
theorem print_end {c : Com} : ∃ l, (printB c).data.toList = l ++ [10] := by
  obtain ⟨tx, rd, A⟩ := c
  have e : (printB (tx, rd, A)).data.toList = (headB tx rd).data.toList ++ linesL A := by show (printL _).toArray.toList = _; rfl
  rw [e]
  rcases List.eq_nil_or_concat A with rfl | ⟨B, a, rfl⟩
  · refine ⟨(⟨#[99, 111, 109, 109, 105, 116, 32]⟩ ++ tx ++ ⟨#[32]⟩ ++ eitherB rd readsW blindW : ByteArray).data.toList, ?_⟩
    have : linesL [] = [] := rfl
    rw [this, List.append_nil, headB]
    simp
  · refine ⟨(headB tx rd).data.toList ++ (linesL B ++ (lineB a).data.toList), ?_⟩
    rw [List.concat_eq_append, linesL_snoc]
    simp

set_option maxHeartbeats 2000000 in
set_option maxRecDepth 100000 in
theorem alike_same (tx : ByteArray) (rd : Bool) (A : List Actn) (aa : Option Addr) (an ac : Nat) (ba : Option Addr) (bn bc : Nat) (w : World) (h1 : ActsAt w (.slice aa an ac) A) (h2 : ActsAt w (.slice ba bn bc) A) (hok : printOk (tx, rd, A) = true) (hn : A.length ≤ 600000) (htx : tx.size ≤ maxLen) (hl : ∀ a ∈ A, rightA a = true → LineOk a) (hw : NcB w) (ht : TabB w) :
    Calls Tryz.prog 9 #[.agg #[.string tx, .bool rd, .slice aa an ac], .agg #[.string tx, .bool rd, .slice ba bn bc]] w fun e w' => e = .returned (.bool true) ∧ Below w.heap.size w w' := by
  have e1 := h1.len
  have e2 := h2.len
  subst e1 e2
  have HP : ∀ (va : Option Addr) (vc : Nat), ActsAt w (.slice va A.length vc) A → Hid (∀ W, Below w.heap.size w W → Calls Tryz.prog 8 #[.agg #[.string tx, .bool rd, .slice va A.length vc]] W fun e w' => e = .returned (.tuple #[.string (printB (tx, rd, A)), .nilIface]) ∧ Below W.heap.size W w') := fun va vc hv => mkH (fun W hW => by
    have := print_any tx rd A va A.length vc W (hv.below hW) hn htx hl (hw.below hW) (ht.below hW)
    unfold printE at this
    rw [hok] at this
    exact this)
  have HP1 := HP aa ac h1
  have HP2 := HP ba bc h2
  generalize printB (tx, rd, A) = pb at *
  obtain ⟨y0, y1, y2, y3⟩ := two_alloc w (.cells #[.string tx, .bool rd, .slice aa A.length ac] 24) (.cells #[.string tx, .bool rd, .slice ba A.length bc] 24)
  have HY0 := mkH y0
  have HY1 := mkH y1
  have HY2 := mkH y2
  have HY3 := mkH y3
  clear y0 y1 y2 y3 h1 h2 hok hl hw ht hn htx HP
  generalize A.length = n at *
  go_enter Tryz.func9, Tryz.ntmps9
  go_wp2_with fail
  refine (HP1.out _ HY3.out).mono ?_
  rintro e w3 ⟨rfl, hb3⟩
  have HB3 := mkH (Below.ups HY3.out hb3)
  have HA3 := mkH ((hb3.block _ (blk_lt HY1.out)).trans HY1.out)
  have HC3 := mkH ((hb3.block _ (blk_lt HY2.out)).trans HY2.out)
  clear hb3 HY0 HY1 HY2 HY3 HP1
  obtain ⟨q0, q1, q2, qf⟩ := cells3 HC3.out
  go_wp2_with fail
  refine (HP2.out _ HB3.out).mono ?_
  rintro e w4 ⟨rfl, hb4⟩
  have HB4 := mkH (Below.ups HB3.out hb4)
  obtain ⟨r0, r1, r2, rf⟩ := cells3 ((hb4.block _ (blk_lt HA3.out)).trans HA3.out)
  obtain ⟨s0, s1, s2, sf⟩ := cells3 ((hb4.block _ (blk_lt HC3.out)).trans HC3.out)
  clear hb4 HA3 HC3 HB3 HP2 q0 q1 q2 qf
  go_wp2_with fail
  go_ret
  exact ⟨by simp, HB4.out⟩
end Go.Proofs.YtfppidnfomelpaaGreatDoor

namespace Go.Proofs.YtfppidnfomelpaaGreatDoor
open Go.RowKit Go.Proofs Go.Lib Go.Joins

theorem lines_all {tx : ByteArray} {rd : Bool} {A : List Actn} (h : printOk (tx, rd, A) = true) (hi : ∀ a ∈ A, Ints a) : ∀ a ∈ A, LineOk a := by
  simp only [printOk, Bool.and_eq_true, List.all_eq_true] at h
  exact fun a ha => lineOk_of (h.2 a ha) (hi a ha)
theorem has_end {l : List UInt8} (h : ∃ m, l = m ++ [10]) : Lib.hasSuffix l [10] = true := by
  obtain ⟨m, rfl⟩ := h
  unfold Lib.hasSuffix
  rw [List.isSuffixOf_iff_suffix]
  exact ⟨m, rfl⟩
/-- What is asked behind Print. -/
theorem back_parts {tx : ByteArray} {rd : Bool} {acts : List Actn} {aa : Option Addr} {an ac : Nat} {w : World} {cut : Int} (hpo : printOk (tx, rd, acts) = true) (hsh : tx.size ≤ 60 ∧ acts.length ≤ 12 ∧ acts.all actSh = true) (hA : ActsR w (.slice aa an ac) acts) (hi : ∀ a ∈ acts, Ints a) (htx : tx.size ≤ maxLen) (hE : ∀ W, Below w.heap.size w W → ErrB W ∧ NcB W ∧ TabB W) (hPS : ∀ (x : ByteArray) W, x.size ≤ 1000000 → Below w.heap.size w W → Calls Tryz.prog 7 #[.string x] W (ParsePost x.data.toList x W)) :
    Hid (∀ W, Below w.heap.size w W → Calls Tryz.prog 7 #[.string (printB (tx, rd, acts))] W fun e w' => ∃ ba bn bc, e = .returned (.tuple #[.agg #[.string tx, .bool rd, .slice ba bn bc], .nilIface]) ∧ ActsAt w' (.slice ba bn bc) acts ∧ Below W.heap.size W w') ∧
    Hid (∀ W ba bn bc, Below w.heap.size w W → ActsAt W (.slice ba bn bc) acts → Calls Tryz.prog 9 #[.agg #[.string tx, .bool rd, .slice aa an ac], .agg #[.string tx, .bool rd, .slice ba bn bc]] W fun e w' => e = .returned (.bool true) ∧ Below W.heap.size W w') ∧
    Hid (∀ W, Calls Tryz.prog 10 #[.int .i64 cut, .int .i64 (printB (tx, rd, acts)).size] W fun e w' => ∃ r : Nat, r < (printB (tx, rd, acts)).size ∧ e = .returned (.int .i64 r) ∧ w' = W) ∧
    Hid (∀ (r : Nat) W, r < (printB (tx, rd, acts)).size → Below w.heap.size w W → Calls Tryz.prog 7 #[.string ((printB (tx, rd, acts)).extract 0 r)] W fun e w' => Below W.heap.size W w' ∧ ((∃ v, e = .returned (.tuple #[v, .nilIface]) ∧ Calls Tryz.prog 11 #[.string ((printB (tx, rd, acts)).extract 0 r), .string ⟨#[10]⟩] w' fun e w'' => e = .returned (.bool true) ∧ w'' = w') ∨ ∃ v t x, e = .returned (.tuple #[v, .iface t x]))) := by
  have hlo := lines_all hpo hi
  have hpl := print_len hpo hlo hsh.2.1
  refine ⟨mkH (fun W h => ?_), mkH (fun W ba bn bc h h2 => ?_), mkH (fun W => pick_any cut _ hpl.1 hpl.2 W), mkH (fun r W hr h => ?_)⟩
  · refine (hPS _ W hpl.2 h).mono ?_
    have e : (printB (tx, rd, acts)).data.toList = printL (tx, rd, acts) := rfl
    have hb := readCom_back hpo hlo
    rintro e' w' ⟨hb', ⟨t', r', A', ba, bn, bc, htk, rfl, hA'⟩ | ⟨hno, _⟩⟩
    · have h1 := htk.1
      rw [e, hb] at h1
      cases h1
      exact ⟨ba, bn, bc, rfl, hA', hb'⟩
    · exact absurd ⟨by rw [e]; exact hb, hpo, rfl⟩ (hno (tx, rd, acts))
  · exact alike_same tx rd acts aa an ac ba bn bc W ((hA.below h).short hsh.2.2) h2 hpo (by omega) htx (fun a ha _ => hlo a ha) (hE W h).2.1 (hE W h).2.2
  · have hsz : ((printB (tx, rd, acts)).extract 0 r).size ≤ 1000000 := by
      rw [ByteArray.size_extract]
      omega
    refine (hPS _ W hsz h).mono ?_
    rintro e' w' ⟨hb', ⟨t', r', A', ba, bn, bc, htk, rfl, _⟩ | ⟨_, rfl⟩⟩
    · refine ⟨hb', .inl ⟨_, rfl, ?_⟩⟩
      have := Tryz.strings_HasSuffix ((printB (tx, rd, acts)).extract 0 r) ⟨#[10]⟩ w' (by omega)
      rw [← htk.2.2] at this ⊢
      rw [has_end print_end] at this
      exact this
    · exact ⟨hb', .inr ⟨_, _, _, rfl⟩⟩

set_option maxHeartbeats 2000000 in
set_option maxRecDepth 100000 in
theorem back_law (tx : ByteArray) (rd : Bool) (acts : List Actn) (aa : Option Addr) (an ac : Nat) (s : ByteArray) (cut : Int) (w : World) (hA : ActsR w (.slice aa an ac) acts) (hn : acts.length ≤ maxLen) (htx : tx.size ≤ maxLen) (hi : ∀ a ∈ acts, Ints a) (hs : s.size ≤ maxLen) (he : ErrB w) (hw : NcB w) (ht : TabB w) :
    Calls Tryz.prog 3 #[.agg #[.string tx, .bool rd, .slice aa an ac], .string s, .int .i64 cut] w fun e w' => e = .returned (.bool true) ∧ Below w.heap.size w w' := by
  have HBX : Hid (Below w.heap.size w (w.alloc (.cells #[.string tx, .bool rd, .slice aa an ac] 24))) := mkH ((Below.refl _ _).alloc (Nat.le_refl _) _)
  have HX0 := mkH (heap_alloc_new w (.cells #[.string tx, .bool rd, .slice aa an ac] 24))
  have HE : Hid (∀ W, Below w.heap.size w W → ErrB W ∧ NcB W ∧ TabB W) := mkH (fun W h => ⟨he.below h, hw.below h, ht.below h⟩)
  have HSH := mkH (short_any tx rd acts aa an ac _ (hA.below HBX.out) hn htx)
  have HLG : Hid (∀ W, Below w.heap.size w W → Calls Tryz.prog 6 #[] W fun e w' => e = .returned (.bool true) ∧ Below W.heap.size W w') := mkH (fun W h => logged_any W (HE.out W h).2.1 (HE.out W h).2.2)
  have HPS : Hid (∀ (x : ByteArray) W, x.size ≤ 1000000 → Below w.heap.size w W → Calls Tryz.prog 7 #[.string x] W (ParsePost x.data.toList x W)) := mkH (fun x W hx h => parse_log x W hx (HE.out W h).1 (HE.out W h).2.1 (HE.out W h).2.2)
  clear he hw ht
  cases hsh : shortB (tx, rd, acts) with
  | false =>
    rw [hsh] at HSH
    clear hsh hA hi HE HPS HLG
    go_enter Tryz.func3, Tryz.ntmps3
    go_wp2_with fail
    refine HSH.out.mono ?_
    rintro e w1 ⟨rfl, hb1⟩
    have HB1 := mkH (Below.ups HBX.out hb1)
    clear hb1 HSH HBX HX0
    go_wp2_with fail
    go_ret
    exact ⟨rfl, HB1.out⟩
  | true =>
    rw [hsh] at HSH
    simp only [shortB, Bool.and_eq_true, decide_eq_true_eq] at hsh
    unfold maxLen at hs
    by_cases hsz : s.size ≤ 1200
    · have hszi : ¬ (1200 : Int) < (s.size : Int) := by omega
      have HPC : Hid (∀ W, Below w.heap.size w W → Calls Tryz.prog 8 #[.agg #[.string tx, .bool rd, .slice aa an ac]] W fun e w' => e = .returned (printE (tx, rd, acts)) ∧ Below W.heap.size W w') := mkH (fun W h => print_any tx rd acts aa an ac W ((hA.below h).short hsh.2.2) (by omega) htx (fun a ha hr => lineOk_of hr (hi a ha)) (HE.out W h).2.1 (HE.out W h).2.2)
      have HP0 := mkH (fun W hW => HPS.out s W (by omega) hW)
      have HRB := mkH (read_bounds (l := s.data.toList) (by rw [size_list]; omega))
      have HPD : Hid (∀ W (t' : ByteArray) (r' : Bool) (A' : List Actn) (ba : Option Addr) (bn bc : Nat), Below w.heap.size w W → Takes s.data.toList s (t', r', A') → ActsAt W (.slice ba bn bc) A' → Calls Tryz.prog 8 #[.agg #[.string t', .bool r', .slice ba bn bc]] W fun e w' => e = .returned (.tuple #[.string s, .nilIface]) ∧ Below W.heap.size W w') := mkH (fun W t' r' A' ba bn bc h htk hA' => by
        obtain ⟨q1, q2, q3⟩ := HRB.out t' r' A' htk.1
        have := print_any t' r' A' ba bn bc W hA' q1 q2 (fun a ha => (q3 a ha).2) (HE.out W h).2.1 (HE.out W h).2.2
        unfold printE at this
        rw [htk.2.1, htk.2.2] at this
        exact this)
      have HA := mkH hA
      have HSX := mkH hsh
      have HI := mkH hi
      clear hA hsh hi HRB
      go_enter Tryz.func3, Tryz.ntmps3
      go_wp2_with fail
      refine HSH.out.mono ?_
      rintro e w1 ⟨rfl, hb1⟩
      have HB1 := mkH (Below.ups HBX.out hb1)
      have HX1 := mkH ((hb1.block _ (blk_lt HX0.out)).trans HX0.out)
      clear hb1 HSH HBX HX0
      go_wp2_with fail
      refine (HLG.out _ HB1.out).mono ?_
      rintro e w2 ⟨rfl, hb2⟩
      have HB2 := mkH (Below.ups HB1.out hb2)
      have HX2 := mkH ((hb2.block _ (blk_lt HX1.out)).trans HX1.out)
      clear hb2 HB1 HX1 HLG
      go_wp2_with fail
      refine (HP0.out _ HB2.out).mono ?_
      rintro e w3 ⟨hb3, ⟨t', r', A', ba, bn, bc, htk, rfl, hA'⟩ | ⟨hno, rfl⟩⟩
      · have HB3 := mkH (Below.ups HB2.out hb3)
        have HX3 := mkH ((hb3.block _ (blk_lt HX2.out)).trans HX2.out)
        have HC3 := mkH (HPD.out _ _ _ _ _ _ _ (Below.ups HB3.out ((Below.refl _ _).alloc (Nat.le_refl _) (.cells #[.string t', .bool r', .slice ba bn bc] 24))) htk (hA'.below ((Below.refl _ _).alloc (Nat.le_refl _) (.cells #[.string t', .bool r', .slice ba bn bc] 24))))
        have HX4 := mkH ((Below.heap_alloc w3 (.cells #[.string t', .bool r', .slice ba bn bc] 24) _ (blk_lt HX3.out)).trans HX3.out)
        have HB4 : Hid (Below w.heap.size w (w3.alloc (.cells #[.string t', .bool r', .slice ba bn bc] 24))) := mkH (Below.ups HB3.out ((Below.refl _ _).alloc (Nat.le_refl _) _))
        clear hb3 HB2 HX2 htk hA' HP0 HPD HB3 HX3
        go_wp2_with fail
        refine HC3.out.mono ?_
        rintro e wk ⟨rfl, hbk⟩
        have HBK := mkH (Below.ups HB4.out hbk)
        have HXK := mkH ((hbk.block _ (blk_lt HX4.out)).trans HX4.out)
        obtain ⟨x0, x1, x2, xf⟩ := cells3 HXK.out
        clear hbk HX4 HB4 HC3
        go_wp2_with fail
        clear x0 x1 x2 xf
        cases hpo : printOk (tx, rd, acts) with
        | false =>
          have HPE : Hid (printE (tx, rd, acts) = .tuple #[.string ⟨#[]⟩, .iface 73 (.int .i64 1)]) := mkH (by unfold printE; rw [hpo]; rfl)
          clear hpo
          refine (HPC.out _ HBK.out).mono ?_
          rintro e w5 ⟨rfl, hb5⟩
          rw [HPE.out]
          have HB5 := mkH (Below.ups HBK.out hb5)
          clear hb5 HPC HPE HBK HXK
          go_wp2_with fail
          go_ret
          exact ⟨rfl, HB5.out⟩
        | true =>
          have HPE : Hid (printE (tx, rd, acts) = .tuple #[.string (printB (tx, rd, acts)), .nilIface]) := mkH (by unfold printE; rw [hpo]; rfl)
          obtain ⟨HPP, HAL, HPK, HPX⟩ := back_parts hpo HSX.out HA.out HI.out htx HE.out HPS.out (cut := cut)
          have hpl := print_len hpo (lines_all hpo HI.out) HSX.out.2.1
          generalize printB (tx, rd, acts) = pb at *
          clear hpo HPS HE HI HSX HA
          refine (HPC.out _ HBK.out).mono ?_
          rintro e w5 ⟨rfl, hb5⟩
          rw [HPE.out]
          have HB5 := mkH (Below.ups HBK.out hb5)
          have HX5 := mkH ((hb5.block _ (blk_lt HXK.out)).trans HXK.out)
          clear hb5 HPC HPE HBK HXK
          go_wp2_with fail
          refine (HPP.out _ HB5.out).mono ?_
          rintro e w6 ⟨ca, cn, cc, rfl, hA6, hb6⟩
          have HB6 : Hid (Below w.heap.size w (w6.alloc (.cells #[.string tx, .bool rd, .slice ca cn cc] 24))) := mkH (Below.ups (Below.ups HB5.out hb6) ((Below.refl _ _).alloc (Nat.le_refl _) _))
          have HA6 := mkH (hA6.below ((Below.refl _ _).alloc (Nat.le_refl _) (.cells #[.string tx, .bool rd, .slice ca cn cc] 24)))
          obtain ⟨x0, x1, x2, xf⟩ := cells3 ((Below.heap_alloc w6 (.cells #[.string tx, .bool rd, .slice ca cn cc] 24) _ (blk_lt ((hb6.block _ (blk_lt HX5.out)).trans HX5.out))).trans ((hb6.block _ (blk_lt HX5.out)).trans HX5.out))
          clear hb6 hA6 HB5 HX5 HPP
          go_wp2_with fail
          refine (HAL.out _ _ _ _ HB6.out HA6.out).mono ?_
          rintro e w7 ⟨rfl, hb7⟩
          have HB7 := mkH (Below.ups HB6.out hb7)
          clear hb7 HB6 HA6 HAL x0 x1 x2 xf
          go_wp2_with fail
          refine (HPK.out _).mono ?_
          rintro e w8 ⟨r, hr, rfl, rfl⟩
          have c1 : (0 : Int) ≤ (r : Int) := by omega
          have c2 : (r : Int) ≤ (pb.size : Int) := by omega
          have HP9 := mkH (HPX.out r _ hr HB7.out)
          clear HPK HPX
          go_wp2_with fail
          refine HP9.out.mono ?_
          rintro e w9 ⟨hb9, ⟨v9, rfl, hsf⟩ | ⟨v9, t9, x9, rfl⟩⟩
          · have HB9 := mkH (Below.ups HB7.out hb9)
            clear hb9 HP9
            go_wp2_with (go_at_call 11; refine hsf.mono ?_; rintro e w10 ⟨rfl, rfl⟩)
            go_ret
            exact ⟨rfl, HB9.out⟩
          · have HB9 := mkH (Below.ups HB7.out hb9)
            clear hb9 HP9
            go_wp2_with fail
            go_ret
            exact ⟨rfl, HB9.out⟩
      · have HBK : Hid (Below w.heap.size w (w3.alloc (.cells #[.string ⟨#[]⟩, .bool false, .slice none 0 0] 24))) := mkH (Below.ups (Below.ups HB2.out hb3) ((Below.refl _ _).alloc (Nat.le_refl _) _))
        have HXK := mkH ((Below.heap_alloc w3 (.cells #[.string ⟨#[]⟩, .bool false, .slice none 0 0] 24) _ (blk_lt ((hb3.block _ (blk_lt HX2.out)).trans HX2.out))).trans ((hb3.block _ (blk_lt HX2.out)).trans HX2.out))
        obtain ⟨x0, x1, x2, xf⟩ := cells3 HXK.out
        clear hb3 HB2 HX2 hno HP0 HPD
        go_wp2_with fail
        clear x0 x1 x2 xf
        generalize w3.alloc (.cells #[.string ⟨#[]⟩, .bool false, .slice none 0 0] 24) = wk at *
        cases hpo : printOk (tx, rd, acts) with
        | false =>
          have HPE : Hid (printE (tx, rd, acts) = .tuple #[.string ⟨#[]⟩, .iface 73 (.int .i64 1)]) := mkH (by unfold printE; rw [hpo]; rfl)
          clear hpo
          refine (HPC.out _ HBK.out).mono ?_
          rintro e w5 ⟨rfl, hb5⟩
          rw [HPE.out]
          have HB5 := mkH (Below.ups HBK.out hb5)
          clear hb5 HPC HPE HBK HXK
          go_wp2_with fail
          go_ret
          exact ⟨rfl, HB5.out⟩
        | true =>
          have HPE : Hid (printE (tx, rd, acts) = .tuple #[.string (printB (tx, rd, acts)), .nilIface]) := mkH (by unfold printE; rw [hpo]; rfl)
          obtain ⟨HPP, HAL, HPK, HPX⟩ := back_parts hpo HSX.out HA.out HI.out htx HE.out HPS.out (cut := cut)
          have hpl := print_len hpo (lines_all hpo HI.out) HSX.out.2.1
          generalize printB (tx, rd, acts) = pb at *
          clear hpo HPS HE HI HSX HA
          refine (HPC.out _ HBK.out).mono ?_
          rintro e w5 ⟨rfl, hb5⟩
          rw [HPE.out]
          have HB5 := mkH (Below.ups HBK.out hb5)
          have HX5 := mkH ((hb5.block _ (blk_lt HXK.out)).trans HXK.out)
          clear hb5 HPC HPE HBK HXK
          go_wp2_with fail
          refine (HPP.out _ HB5.out).mono ?_
          rintro e w6 ⟨ca, cn, cc, rfl, hA6, hb6⟩
          have HB6 : Hid (Below w.heap.size w (w6.alloc (.cells #[.string tx, .bool rd, .slice ca cn cc] 24))) := mkH (Below.ups (Below.ups HB5.out hb6) ((Below.refl _ _).alloc (Nat.le_refl _) _))
          have HA6 := mkH (hA6.below ((Below.refl _ _).alloc (Nat.le_refl _) (.cells #[.string tx, .bool rd, .slice ca cn cc] 24)))
          obtain ⟨x0, x1, x2, xf⟩ := cells3 ((Below.heap_alloc w6 (.cells #[.string tx, .bool rd, .slice ca cn cc] 24) _ (blk_lt ((hb6.block _ (blk_lt HX5.out)).trans HX5.out))).trans ((hb6.block _ (blk_lt HX5.out)).trans HX5.out))
          clear hb6 hA6 HB5 HX5 HPP
          go_wp2_with fail
          refine (HAL.out _ _ _ _ HB6.out HA6.out).mono ?_
          rintro e w7 ⟨rfl, hb7⟩
          have HB7 := mkH (Below.ups HB6.out hb7)
          clear hb7 HB6 HA6 HAL x0 x1 x2 xf
          go_wp2_with fail
          refine (HPK.out _).mono ?_
          rintro e w8 ⟨r, hr, rfl, rfl⟩
          have c1 : (0 : Int) ≤ (r : Int) := by omega
          have c2 : (r : Int) ≤ (pb.size : Int) := by omega
          have HP9 := mkH (HPX.out r _ hr HB7.out)
          clear HPK HPX
          go_wp2_with fail
          refine HP9.out.mono ?_
          rintro e w9 ⟨hb9, ⟨v9, rfl, hsf⟩ | ⟨v9, t9, x9, rfl⟩⟩
          · have HB9 := mkH (Below.ups HB7.out hb9)
            clear hb9 HP9
            go_wp2_with (go_at_call 11; refine hsf.mono ?_; rintro e w10 ⟨rfl, rfl⟩)
            go_ret
            exact ⟨rfl, HB9.out⟩
          · have HB9 := mkH (Below.ups HB7.out hb9)
            clear hb9 HP9
            go_wp2_with fail
            go_ret
            exact ⟨rfl, HB9.out⟩
    · have hszi : (1200 : Int) < (s.size : Int) := by omega
      clear hsh hA hi HE HPS HLG
      go_enter Tryz.func3, Tryz.ntmps3
      go_wp2_with fail
      refine HSH.out.mono ?_
      rintro e w1 ⟨rfl, hb1⟩
      have HB1 := mkH (Below.ups HBX.out hb1)
      clear hb1 HSH HBX HX0
      go_wp2_with fail
      go_ret
      exact ⟨rfl, HB1.out⟩
end Go.Proofs.YtfppidnfomelpaaGreatDoor
