/- What encode.inWay and encode.fewest do, said of every call. -/
import Derived.Test.YtmbnomplckhmeaaW8
namespace Go.Proofs.Ytmbnomplckhmeaa
open Go.RowKit Go.Proofs Go.Shelf

theorem whichB_len {l : List V} (h : Few l) : (whichB l).length ≤ 3610 := by
  have e : wst l l.length = l.foldl whichS ([], []) := by unfold wst; rw [List.take_of_length_le (Nat.le_refl _)]
  obtain ⟨h1, h2, h3⟩ := wst_few h l.length (Nat.le_refl _)
  have h4 := orderB_len (wst_Few h (Nat.le_refl l.length)).2
  have h60 := h.1
  have h5 := Lib.uvarint_length64 (x := (wst l l.length).1.length) (by omega)
  unfold whichB
  rw [← e]
  simp only [List.length_append]; omega
theorem wayB_len {l : List V} (h : Few l) (k : Nat) : (wayB k l).length ≤ 4000 := by
  have h60 := h.1
  unfold wayB
  split
  · have := runsB_len l h.2 (by omega) l.length; omega
  · split
    · have := whichB_len h; omega
    · split
      · have := stepsB_len (a := 0) (l := l); omega
      · have := orderB_len h.2; omega

set_option maxHeartbeats 8000000 in
set_option maxRecDepth 100000 in
theorem inWay_any (k : Nat) (v : Value) (l : List V) (w : World) (hs : Sl w v l) (hf : Few l) (hk : k ≤ 3) :
    Calls Try.prog 27 #[.int .i64 k, v] w fun e w' => ∃ v', e = .returned v' ∧ w'.ownsRow w.heap.size 5 1 v' (wayB k l).length (Lib.byteCells (wayB k l)) ∧ Below w.heap.size w w' := by
  have H1 := mkHid (inRuns_any v l w hs hf)
  have H2 := mkHid (inWhich_any v l w hs hf)
  have H3 := mkHid (inSteps_any v l w hs hf)
  have H0 := mkHid (inOrder_any v l w hs hf)
  obtain ⟨a, c, rfl, _, _⟩ := hs
  clear hf
  have hk' : k = 0 ∨ k = 1 ∨ k = 2 ∨ k = 3 := by omega
  rcases hk' with rfl | rfl | rfl | rfl
  · go_enter Try.func27, Try.ntmps27
    go_wp2_with (go_at_call 43; refine H0.out.mono ?_; rintro e w1 ⟨v1, rfl, ho, hw⟩)
    go_ret
    exact ⟨v1, rfl, ho, hw.1⟩
  · go_enter Try.func27, Try.ntmps27
    go_wp2_with (go_at_call 40; refine H1.out.mono ?_; rintro e w1 ⟨v1, rfl, ho, hw⟩)
    go_ret
    exact ⟨v1, rfl, ho, hw.1⟩
  · go_enter Try.func27, Try.ntmps27
    go_wp2_with (go_at_call 41; refine H2.out.mono ?_; rintro e w1 ⟨v1, rfl, ho, hw⟩)
    go_ret
    exact ⟨v1, rfl, ho, hw⟩
  · go_enter Try.func27, Try.ntmps27
    go_wp2_with (go_at_call 42; refine H3.out.mono ?_; rintro e w1 ⟨v1, rfl, ho, hw⟩)
    go_ret
    exact ⟨v1, rfl, ho, hw.1⟩

theorem fewTo_next (kind : Int) (l : List V) (k : Nat) (hk : 1 ≤ k) : fewTo kind l (k + 1) = if k = 3 ∧ kind ≠ 1 then fewTo kind l k else better (fewTo kind l k) (k.toUInt8 :: wayB k l) := by
  obtain ⟨j, rfl⟩ : ∃ j, k = j + 1 := ⟨k - 1, by omega⟩
  rfl
theorem fewTo_len {kind : Int} {l : List V} (h : Few l) : ∀ k, (fewTo kind l k).length ≤ 4001
  | 0 => by simp [fewTo]
  | 1 => by have := wayB_len h 0; simp [fewTo]; omega
  | k + 2 => by
    have h1 := fewTo_len (kind := kind) h (k + 1)
    have h2 := wayB_len h (k + 1)
    rw [fewTo_next kind l (k + 1) (by omega)]
    split
    · exact h1
    · unfold better; split <;> simp <;> omega
theorem cell_byte (k : Nat) (hk : k < 256) (l : List UInt8) : Value.int .u8 (k : Int) :: Lib.byteCells l = Lib.byteCells (k.toUInt8 :: l) := by
  simp [Lib.byteCells, Lib.toUInt8_toNat hk]

/-- The best way so far. -/
def Best (kind : Int) (l : List V) (w wr : World) (k : Nat) (vb : Value) : Prop :=
  (k = 0 ∧ vb = .slice none 0 0) ∨ (0 < k ∧ wr.ownsRow w.heap.size 5 1 vb (fewTo kind l k).length (Lib.byteCells (fewTo kind l k)) ∧ 0 < (fewTo kind l k).length)

theorem nil43 : ∀ (w : World) (a : Option Addr) (n c n' c' : Nat), (binOp .eql 46 (.slice a n c) (.slice none n' c')).run Try.prog w = .ok (.bool a.isNone) w := fun w a n c n' c' => Lib.run_eql_slice_nil w _ _ a n c n' c' Try.underlying46

set_option maxHeartbeats 8000000 in
set_option maxRecDepth 100000 in
theorem fewest_any (kind : Int) (v : Value) (l : List V) (w : World) (hs : Sl w v l) (hf : Few l) (hkd : kind = 1 ∨ kind = 2) :
    Calls Try.prog 18 #[.int .i64 kind, v] w fun e w' => ∃ v', e = .returned v' ∧ w'.ownsRow w.heap.size 5 1 v' (fewB kind l).length (Lib.byteCells (fewB kind l)) ∧ Below w.heap.size w w' := by
  have HS := mkHid hs
  have HF := mkHid hf
  obtain ⟨i5, hi5, hz5, hz15, hz25⟩ := info_parts info5
  have HI5 := mkHid (And.intro hi5 (And.intro hz5 (And.intro hz15 hz25)))
  clear hi5 hz5 hz15 hz25
  obtain ⟨a, c, rfl, _, _⟩ := hs
  clear hf
  have hnil := nil43
  go_enter Try.func18, Try.ntmps18
  go_wp2
  go_loopw [5, 8] (fun vb vi wr => ∃ k : Nat, k ≤ 4 ∧ vi = .int .i64 k ∧ Hid (Best kind l w wr k vb) ∧ Hid (Below w.heap.size w wr)) (fun _ vi _ => 4 - (intOf vi).toNat)
  case atStart => exact ⟨0, Nat.zero_le _, rfl, mkHid (.inl ⟨rfl, rfl⟩), Below.refl _ _⟩
  case round =>
    obtain ⟨k, hk, rfl, hB, hw⟩ := hrel
    have hsz := hw.out.size
    by_cases hlt : k < 4
    · by_cases hskip : k = 3 ∧ kind ≠ 1
      · obtain ⟨rfl, hk1⟩ := hskip
        obtain rfl : kind = 2 := by omega
        have HN : Hid (Best 2 l w wr 4 _) := mkHid (by
          rcases hB.out with ⟨h, _⟩ | ⟨_, h2, h3⟩
          · omega
          · refine .inr ⟨by omega, ?_⟩
            rw [fewTo_next 2 l 3 (by omega), if_pos ⟨rfl, hk1⟩]
            exact ⟨h2, h3⟩)
        go_wp2
        exact ⟨⟨4, by omega, rfl, HN, hw⟩, by simp [intOf]⟩
      · have HC := mkHid (inWay_any k (.slice a l.length c) l (wr.alloc (.cells #[.int .u8 (k : Int)] 5)) (HS.out.up (hw.out.alloc hsz _)) HF.out (by omega))
        have HNX : Hid (1 ≤ k → fewTo kind l (k + 1) = better (fewTo kind l k) (k.toUInt8 :: wayB k l)) := fun h => by rw [fewTo_next kind l k h, if_neg hskip]
        have HWL := mkHid (wayB_len HF.out k)
        have HFL := mkHid (fewTo_len (kind := kind) HF.out k)
        have HRL : Hid ((wr.alloc (.cells #[.int .u8 (k : Int)] 5)).ownsRow wr.heap.size 5 1 (.slice (some ⟨wr.heap.size, 0, none⟩) 1 1) 1 [.int .u8 (k : Int)]) := mkHid (World.ownsRow_lit wr #[.int .u8 (k : Int)] 1 (Nat.le_refl _) (by unfold maxLen; omega) rfl)
        have hk256 : (k : Int) < 256 := by omega
        have hor : (k = 3 → kind = 1) := fun h => Classical.byContradiction fun h2 => hskip ⟨h, h2⟩
        clear hskip
        by_cases h3 : k = 3
        · have b3 : ((k : Int) == 3) = true := by simp; omega
          have bk : (kind == 1) = true := by simp [hor h3]
          clear h3 hor hkd
          go_wp2_with fail
          refine HC.out.mono ?_
          rintro e w2 ⟨v2, rfl, ho2, hb2⟩
          have hs2 := hb2.size
          have hB2 : wr.heap.size ≤ w2.heap.size := by simp at hs2; omega
          have hbw2 : Below wr.heap.size wr w2 := ((Below.refl _ _).alloc (Nat.le_refl _) _).trans (hb2.mono (by simp))
          have HA := mkHid (ownsRow_up HRL.out hb2)
          have HB := mkHid ho2
          go_wp2_with (at_builtin; refine wpList_append_row rfl _ _ 46 rfl wr.heap.size 5 i5 (.int .u8 0) 1 1 Try.underlying46 HI5.out.1 HI5.out.2.1 HI5.out.2.2.1 HI5.out.2.2.2 rfl (by decide) _ _ _ rfl HA.out _ _ _ _ rfl HB.out (byteCells_one _) ?fA1 ?fA2 ?fA3 ?_)
          case fA1 => have := HWL.out; unfold maxLen; omega
          case fA2 => have := HWL.out; omega
          case fA3 => omega
          intro v3 w3 ho3 hg3
          have hbw3 : Below wr.heap.size wr w3 := below_grown_own hbw2 HA.out hg3 hB2
          have HO3 : Hid (w3.ownsRow wr.heap.size 5 1 v3 (k.toUInt8 :: wayB k l).length (Lib.byteCells (k.toUInt8 :: wayB k l))) := mkHid (by rw [← cell_byte k (by omega), List.length_cons, Nat.add_comm]; exact ho3)
          have HBW : Hid (Below w.heap.size w w3) := mkHid (hw.out.trans (hbw3.mono hsz))
          obtain ⟨g, cap, rfl, _, _⟩ := HO3.out.form (by simp)
          clear ho3 hg3
          have hwl : (k.toUInt8 :: wayB k l).length ≤ 4001 := by have := HWL.out; rw [List.length_cons]; omega
          generalize hbn : (k.toUInt8 :: wayB k l) = bn at *
          rcases hB.out with ⟨rfl, rfl⟩ | ⟨hk0, hob, hlb⟩
          · have HNEW : Hid (Best kind l w w3 1 (.slice (some ⟨g, 0, none⟩) bn.length cap)) := mkHid (.inr ⟨by omega, by rw [show fewTo kind l 1 = bn from hbn]; exact ownsRow_base HO3.out hsz, by rw [show fewTo kind l 1 = bn from hbn, ← hbn]; simp⟩)
            go_wp2
            exact ⟨⟨1, by omega, rfl, HNEW, HBW⟩, by simp [intOf]⟩
          · obtain ⟨gb, capb, rfl, _, hgb⟩ := hob.form hlb
            have HOB := mkHid (ownsRow_up hob hbw3)
            have hfl := HFL.out
            have HLB := mkHid hlb
            have HNB := HNX.out hk0
            generalize fewTo kind l k = fo at *
            clear hob hlb
            by_cases hcmp : bn.length < fo.length
            · have HNEW : Hid (Best kind l w w3 (k + 1) (.slice (some ⟨g, 0, none⟩) bn.length cap)) := mkHid (.inr ⟨by omega, by rw [HNB, better, if_pos hcmp]; exact ⟨ownsRow_base HO3.out hsz, by rw [← hbn]; simp⟩⟩)
              clear HNB hbn
              go_wp2
              exact ⟨⟨k + 1, by omega, by go_num, HNEW, HBW⟩, by simp [intOf]; omega⟩
            · have HNEW : Hid (Best kind l w w3 (k + 1) (.slice (some ⟨gb, 0, none⟩) fo.length capb)) := mkHid (.inr ⟨by omega, by rw [HNB, better, if_neg hcmp]; exact ⟨HOB.out, HLB.out⟩⟩)
              clear HNB hbn
              go_wp2
              exact ⟨⟨k + 1, by omega, by go_num, HNEW, HBW⟩, by simp [intOf]; omega⟩
        · have b3 : ((k : Int) == 3) = false := by simp; omega
          clear h3 hor hkd
          go_wp2_with fail
          refine HC.out.mono ?_
          rintro e w2 ⟨v2, rfl, ho2, hb2⟩
          have hs2 := hb2.size
          have hB2 : wr.heap.size ≤ w2.heap.size := by simp at hs2; omega
          have hbw2 : Below wr.heap.size wr w2 := ((Below.refl _ _).alloc (Nat.le_refl _) _).trans (hb2.mono (by simp))
          have HA := mkHid (ownsRow_up HRL.out hb2)
          have HB := mkHid ho2
          go_wp2_with (at_builtin; refine wpList_append_row rfl _ _ 46 rfl wr.heap.size 5 i5 (.int .u8 0) 1 1 Try.underlying46 HI5.out.1 HI5.out.2.1 HI5.out.2.2.1 HI5.out.2.2.2 rfl (by decide) _ _ _ rfl HA.out _ _ _ _ rfl HB.out (byteCells_one _) ?fB1 ?fB2 ?fB3 ?_)
          case fB1 => have := HWL.out; unfold maxLen; omega
          case fB2 => have := HWL.out; omega
          case fB3 => omega
          intro v3 w3 ho3 hg3
          have hbw3 : Below wr.heap.size wr w3 := below_grown_own hbw2 HA.out hg3 hB2
          have HO3 : Hid (w3.ownsRow wr.heap.size 5 1 v3 (k.toUInt8 :: wayB k l).length (Lib.byteCells (k.toUInt8 :: wayB k l))) := mkHid (by rw [← cell_byte k (by omega), List.length_cons, Nat.add_comm]; exact ho3)
          have HBW : Hid (Below w.heap.size w w3) := mkHid (hw.out.trans (hbw3.mono hsz))
          obtain ⟨g, cap, rfl, _, _⟩ := HO3.out.form (by simp)
          clear ho3 hg3
          have hwl : (k.toUInt8 :: wayB k l).length ≤ 4001 := by have := HWL.out; rw [List.length_cons]; omega
          generalize hbn : (k.toUInt8 :: wayB k l) = bn at *
          rcases hB.out with ⟨rfl, rfl⟩ | ⟨hk0, hob, hlb⟩
          · have HNEW : Hid (Best kind l w w3 1 (.slice (some ⟨g, 0, none⟩) bn.length cap)) := mkHid (.inr ⟨by omega, by rw [show fewTo kind l 1 = bn from hbn]; exact ownsRow_base HO3.out hsz, by rw [show fewTo kind l 1 = bn from hbn, ← hbn]; simp⟩)
            go_wp2
            exact ⟨⟨1, by omega, rfl, HNEW, HBW⟩, by simp [intOf]⟩
          · obtain ⟨gb, capb, rfl, _, hgb⟩ := hob.form hlb
            have HOB := mkHid (ownsRow_up hob hbw3)
            have hfl := HFL.out
            have HLB := mkHid hlb
            have HNB := HNX.out hk0
            generalize fewTo kind l k = fo at *
            clear hob hlb
            by_cases hcmp : bn.length < fo.length
            · have HNEW : Hid (Best kind l w w3 (k + 1) (.slice (some ⟨g, 0, none⟩) bn.length cap)) := mkHid (.inr ⟨by omega, by rw [HNB, better, if_pos hcmp]; exact ⟨ownsRow_base HO3.out hsz, by rw [← hbn]; simp⟩⟩)
              clear HNB hbn
              go_wp2
              exact ⟨⟨k + 1, by omega, by go_num, HNEW, HBW⟩, by simp [intOf]; omega⟩
            · have HNEW : Hid (Best kind l w w3 (k + 1) (.slice (some ⟨gb, 0, none⟩) fo.length capb)) := mkHid (.inr ⟨by omega, by rw [HNB, better, if_neg hcmp]; exact ⟨HOB.out, HLB.out⟩⟩)
              clear HNB hbn
              go_wp2
              exact ⟨⟨k + 1, by omega, by go_num, HNEW, HBW⟩, by simp [intOf]; omega⟩
    · obtain rfl : k = 4 := by omega
      have HE : Hid (Best kind l w wr 4 _ ) := hB
      rcases hB.out with ⟨h, _⟩ | ⟨_, h2, h3⟩
      · omega
      · have HO := mkHid h2
        clear h2 h3
        go_wp2
        go_ret
        exact ⟨_, rfl, HO.out, hw.out⟩
end Go.Proofs.Ytmbnomplckhmeaa
