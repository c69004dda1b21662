/- What millpondkeep.AskBack's closure tells; and the law's walk. -/
import Derived.Test.YtfokdpddcgaafaaGreatDoorBE
import Derived.Test.YtfokdpddcgaafaaGreatDoorSC
namespace Go.Proofs.YtfokdpddcgaafaaGreatDoor
open Go.RowKit Go.Proofs Go.Lib Go.Proofs.YtfokdpddcgaafaaGreatDoor.Ask
open Go.Sort (grow)

def ltB (s : ByteArray) : Bool := Op.bytesLess s.toList [98]
set_option maxHeartbeats 2000000 in
theorem get_any (RA RB : Nat) (ka na : Int) (ta : ByteArray) (kb nb : Int) (tb : ByteArray) (s : ByteArray) (w : World) (hA : w.heap[RA]? = some (oVal ka na ta)) (hB : w.heap[RB]? = some (oVal kb nb tb)) :
    Calls Tryz.prog 8 #[.string s, .pointer (some ⟨RA, 0, none⟩), .pointer (some ⟨RB, 0, none⟩)] w fun e w' => e = .returned (.agg #[.int .i64 (if ltB s then ka else kb), .int .i64 (if ltB s then na else nb), .string (if ltB s then ta else tb)]) ∧ Below w.heap.size w w' := by
  have hA' := (Below.heap_alloc w (oVal 0 0 ⟨#[]⟩) _ (blk_lt hA)).trans hA
  have hB' := (Below.heap_alloc w (oVal 0 0 ⟨#[]⟩) _ (blk_lt hB)).trans hB
  have a0 := cellsAt hA' 0
  have a1 := cellsAt hA' 1
  have a2 := cellsAt hA' 2
  have b0 := cellsAt hB' 0
  have b1 := cellsAt hB' 1
  have b2 := cellsAt hB' 2
  unfold oVal at a0 a1 a2 b0 b1 b2
  clear hA' hB'
  simp at a0 a1 a2 b0 b1 b2
  clear hA hB
  have HL : Hid (ltB s = Op.bytesLess s.toList [98]) := rfl
  have h98 : (⟨#[98]⟩ : ByteArray).toList = [98] := by decide +kernel
  cases hb : ltB s with
  | true =>
    have e1 : Op.bytesLess s.toList [98] = true := HL.out.symm.trans hb
    clear HL
    go_enter Tryz.func8, Tryz.ntmps8
    go_wp2
    refine bodyPost_ret (by simp [results, Tryz.results8, go_sem]) rfl ⟨rfl, ?_⟩
    exact (Below.refl _ _).alloc (Nat.le_refl _) _
  | false =>
    have e1 : Op.bytesLess s.toList [98] = false := HL.out.symm.trans hb
    clear HL
    go_enter Tryz.func8, Tryz.ntmps8
    go_wp2
    refine bodyPost_ret (by simp [results, Tryz.results8, go_sem]) rfl ⟨rfl, ?_⟩
    exact (Below.refl _ _).alloc (Nat.le_refl _) _
theorem asks_true : ∀ T : Deep.BT S.Nd, S.Asks (fun _ => True) T
  | .nil => trivial
  | .node _ _ ⟨c, _, _, _, _⟩ l r => by
    simp only [S.Asks]
    split
    · exact asks_true l
    · split
      · exact ⟨asks_true l, asks_true r⟩
      · trivial
theorem told_ok (RA RB : Nat) (ka na : Int) (ta : ByteArray) (kb nb : Int) (tb : ByteArray) (w : World) (hA : w.heap[RA]? = some (oVal ka na ta)) (hB : w.heap[RB]? = some (oVal kb nb tb)) :
    S.ToldOk (fun _ => True) (.func (.func 8) #[] #[.pointer (some ⟨RA, 0, none⟩), .pointer (some ⟨RB, 0, none⟩)]) (fun s => if ltB s then ka else kb) (fun s => if ltB s then na else nb) (fun s => if ltB s then ta else tb) w :=
  fun W s _ hb => S.toldA_any _ _ _ _ _ s W fun W' s' hb' =>
    have hb2 := Below.ups hb hb'
    get_any RA RB ka na ta kb nb tb s' W' ((hb2.block _ (blk_lt hA)).trans hA) ((hb2.block _ (blk_lt hB)).trans hB)
theorem within_read {s : List UInt8} {T : Tr} (h : Reads nmL rtL s (some (some T))) : S.withinT (ctOf T) 24 = true := by
  obtain ⟨_, h2, h3, _⟩ := read_all h
  have := dp_le T
  exact within_ct T 24 (by omega)
/-- What a condition comes to, where two values are told. -/
def evA (ka na : Int) (ta : ByteArray) (kb nb : Int) (tb : ByteArray) (T : Deep.BT S.Nd) : Int := S.evT (fun s => if ltB s then ka else kb) (fun s => if ltB s then na else nb) (fun s => if ltB s then ta else tb) T
theorem Holds_any (RA RB : Nat) (ka na : Int) (ta : ByteArray) (kb nb : Int) (tb : ByteArray) (T : Deep.BT S.Nd) (v : Value) (w : World) (hA : w.heap[RA]? = some (oVal ka na ta)) (hB : w.heap[RB]? = some (oVal kb nb tb)) (h : S.InC w T v) (hd : S.withinT T 24 = true) :
    Calls Tryz.prog 9 #[v, .func (.func 8) #[] #[.pointer (some ⟨RA, 0, none⟩), .pointer (some ⟨RB, 0, none⟩)]] w fun e w' => e = .returned (.int .i64 (evA ka na ta kb nb tb T)) ∧ Below w.heap.size w w' :=
  S.HoldsG_any (fun _ => True) _ _ _ _ T v w h (asks_true T) (told_ok RA RB ka na ta kb nb tb w hA hB) hd
/-- The two values lie in boxes of the call's own. -/
structure Two (w : World) (ka na : Int) (ta : ByteArray) (kb nb : Int) (tb : ByteArray) (W : World) : Prop where
  low : Below w.heap.size w W
  a : W.heap[w.heap.size]? = some (oVal ka na ta)
  b : W.heap[w.heap.size + 1]? = some (oVal kb nb tb)
theorem Two.start (w : World) (ka na : Int) (ta : ByteArray) (kb nb : Int) (tb : ByteArray) : Two w ka na ta kb nb tb ((w.alloc (oVal ka na ta)).alloc (oVal kb nb tb)) where
  low := ((Below.refl _ _).alloc (Nat.le_refl _) _).alloc (by simp) _
  a := (Below.heap_alloc _ _ _ (by simp)).trans (heap_alloc_new w _)
  b := by
    have := heap_alloc_new (w.alloc (oVal ka na ta)) (oVal kb nb tb)
    rw [World.size_alloc] at this
    exact this
theorem Two.up {w : World} {ka na : Int} {ta : ByteArray} {kb nb : Int} {tb : ByteArray} {W V : World} (h : Two w ka na ta kb nb tb W) (hb : Below W.heap.size W V) : Two w ka na ta kb nb tb V where
  low := Below.ups h.low hb
  a := (hb.block _ (blk_lt h.a)).trans h.a
  b := (hb.block _ (blk_lt h.b)).trans h.b
theorem reads_nil : Reads nmL rtL [] (some none) := .blank (.fin rfl)
set_option maxHeartbeats 8000000 in
set_option maxRecDepth 100000 in
theorem back_law (s : ByteArray) (ka na : Int) (ta : ByteArray) (kb nb : Int) (tb : ByteArray) (w : World) (hs : s.size ≤ maxLen) (hta : ta.size ≤ maxLen) (htb : tb.size ≤ maxLen) (hm : MkB w) (hg : GB w) (ht : TabB w) (hw : 10 ≤ w.heap.size) :
    Calls Tryz.prog 3 #[.string s, .agg #[.int .i64 ka, .int .i64 na, .string ta], .agg #[.int .i64 kb, .int .i64 nb, .string tb]] w fun e w' => e = .returned (.bool true) ∧ Below w.heap.size w w' := by
  have HAS : Hid (∀ V, Below w.heap.size w V → Calls Tryz.prog 4 #[] V fun e w' => e = .returned (.bool true) ∧ Below V.heap.size V w') := mkH fun V hb => asked_any V (hm.below hb) (hg.below hb) (ht.below hb) (Nat.le_trans hw hb.size)
  have HCO : Hid (∀ l V, Below w.heap.size w V → l.length ≤ 1000000 → Calls Tryz.prog 6 #[.string (bA l)] V (CPost l V)) := mkH fun l V hb hl => by
    have := Cond_any (bA l) V (by rw [bA_size]; exact hl) (hm.below hb) (hg.below hb) (Nat.le_trans hw hb.size)
    rw [bA_toList] at this
    exact this
  have HPR : Hid (∀ T v V, Below w.heap.size w V → VT nmL rtL I64 T → (wt dcL T).length ≤ 80 → dw T ≤ 6 → S.InC V (ctOf T) v → Calls Tryz.prog 7 #[v] V fun e w' => e = .returned (.string (bA (tx dcL T))) ∧ Below V.heap.size V w') := mkH fun T v V hb h1 h2 h3 h4 => Print_any T v V h4 h1 h2 h3 (hm.below hb) (ht.below hb)
  have HRI := mkH (fun W => right2_any W.heap.size ka na ta kb nb tb (W.alloc (.cells #[.int .i64 ka, .int .i64 na, .string ta, .int .i64 kb, .int .i64 nb, .string tb] 23)) (heap_alloc_new W _) hta htb)
  have HT0 := mkH (Two.start w ka na ta kb nb tb)
  have HSS := mkH hs
  have hmf := hmfA
  clear hm hg ht hw hta htb hs
  unfold BPost at HRI
  obtain ⟨sl, rfl⟩ : ∃ sl, s = bA sl := ⟨s.data.toList, (bA_list s).symm⟩
  have hsz : (bA sl).size = sl.length := bA_size
  go_enter Tryz.func3, Tryz.ntmps3
  go_wp2_with fail
  refine (HAS.out _ HT0.out.low).mono ?_
  rintro e w1 ⟨rfl, hb1⟩
  have HT1 := mkH (HT0.out.up hb1)
  clear hb1 HT0 HAS
  by_cases h6 : (600 : Int) < ((bA sl).size : Int)
  · go_wp2
    go_ret
    exact ⟨rfl, HT1.out.low⟩
  have h6' : ((600 : Int) < ((bA sl).size : Int)) = False := by simpa using h6
  have HLEN : Hid (sl.length ≤ 600) := mkH (by omega)
  have a0 := cellsAt HT1.out.a 0
  have a1 := cellsAt HT1.out.a 1
  have a2 := cellsAt HT1.out.a 2
  have b0 := cellsAt HT1.out.b 0
  have b1 := cellsAt HT1.out.b 1
  have b2 := cellsAt HT1.out.b 2
  simp at a0 a1 a2 b0 b1 b2
  go_wp2_with fail
  refine (HRI.out w1).mono ?_
  rintro e w2 ⟨⟨rb, rfl⟩, hb2⟩
  have HT2 := mkH ((HT1.out.up ((Below.refl _ _).alloc (Nat.le_refl _) _)).up hb2)
  clear hb2 HT1 HRI a0 a1 a2 b0 b1 b2
  cases rb with
  | false =>
    go_wp2
    go_ret
    exact ⟨rfl, HT2.out.low⟩
  | true =>
    go_wp2_with fail
    refine (HCO.out sl w2 HT2.out.low (by have := HLEN.out; omega)).mono ?_
    rintro e w3 ⟨o, hre, hb3, ho⟩
    have HT3 := mkH (HT2.out.up hb3)
    have HRE := mkH hre
    clear hb3 HT2 hre
    match o, ho, HRE with
    | none, ⟨t, x, he⟩, HRE =>
      subst he
      go_wp2
      go_ret
      exact ⟨rfl, HT3.out.low⟩
    | some none, he, HRE =>
      subst he
      go_wp2_with fail
      refine (Print_nil _).mono ?_
      rintro e w4 ⟨rfl, rfl⟩
      go_wp2_with fail
      refine (HCO.out [] _ HT3.out.low (by simp)).mono ?_
      rintro e w5 ⟨o2, hre2, hb5, ho2⟩
      cases reads_one reads_nil hre2
      have ho3 : e = .returned (.tuple #[.pointer none, .nilIface]) := ho2
      subst ho3
      have HT5 := mkH (HT3.out.up hb5)
      clear hb5 hre2 ho2 HT3
      go_wp2_with fail
      refine (Print_nil _).mono ?_
      rintro e w6 ⟨rfl, rfl⟩
      go_wp2_with fail
      have HH : Hid (∀ W, Two w ka na ta kb nb tb W → Calls Tryz.prog 9 #[.pointer none, .func (.func 8) #[] #[.pointer (some ⟨w.heap.size, 0, none⟩), .pointer (some ⟨w.heap.size + 1, 0, none⟩)]] W fun e w' => e = .returned (.int .i64 (evA ka na ta kb nb tb .nil)) ∧ Below W.heap.size W w') := mkH fun W h => Holds_any w.heap.size (w.heap.size + 1) ka na ta kb nb tb .nil (.pointer none) W h.a h.b rfl rfl
      generalize evA ka na ta kb nb tb .nil = ev at *
      refine (HH.out _ HT5.out).mono ?_
      rintro e w7 ⟨rfl, hb7⟩
      have HT7 := mkH (HT5.out.up hb7)
      clear hb7
      go_wp2_with fail
      refine (HH.out _ HT7.out).mono ?_
      rintro e w8 ⟨rfl, hb8⟩
      have HT8 := mkH (HT7.out.up hb8)
      clear hb8
      have HTR := mkH (Tryz.strings_Trim_one (bA sl) 32 (by decide) w8 (by have := HSS.out; unfold maxLen at this; omega))
      rw [bA_toList, blank_trim HRE.out] at HTR
      go_wp2_with fail
      refine HTR.out.mono ?_
      rintro e w9 ⟨rfl, hw9⟩
      have HB9 : Hid (Below w8.heap.size w8 w9) := mkH (by
        rcases hw9 with rfl | rfl
        · exact Below.refl _ _
        · exact ⟨rfl, rfl, rfl, Nat.le_refl _, fun _ _ => rfl⟩)
      clear hw9
      go_wp2
      go_ret
      exact ⟨rfl, Below.ups HT8.out.low HB9.out⟩
    | some (some T), ⟨p, he, hin⟩, HRE =>
      subst he
      obtain ⟨hV, h80, hd6, hrb⟩ := read_all HRE.out
      have HV := mkH (And.intro hV (And.intro h80 hd6))
      have HRB := mkH hrb
      have HIN := mkH hin
      have HWI := mkH (within_read HRE.out)
      have HTL := mkH (tx_len T hV)
      clear hV h80 hd6 hrb hin
      go_wp2_with fail
      refine (HPR.out T _ _ HT3.out.low HV.out.1 HV.out.2.1 HV.out.2.2 HIN.out).mono ?_
      rintro e w4 ⟨rfl, hb4⟩
      have HT4 := mkH (HT3.out.up hb4)
      have HI4 := mkH (HIN.out.up hb4)
      clear hb4 HT3 HIN
      go_wp2_with fail
      refine (HCO.out (tx dcL T) _ HT4.out.low (by have := HTL.out; have := HV.out.2.1; omega)).mono ?_
      rintro e w5 ⟨o2, hre2, hb5, ho2⟩
      cases reads_one HRB.out hre2
      obtain ⟨p2, he2, hin2⟩ := ho2
      subst he2
      have HT5 := mkH (HT4.out.up hb5)
      have HI5 := mkH (HI4.out.up hb5)
      have HJ5 := mkH hin2
      clear hb5 hre2 hin2 HT4 HI4
      go_wp2_with fail
      refine (HPR.out T _ _ HT5.out.low HV.out.1 HV.out.2.1 HV.out.2.2 HJ5.out).mono ?_
      rintro e w6 ⟨rfl, hb6⟩
      have HT6 := mkH (HT5.out.up hb6)
      have HI6 := mkH (HI5.out.up hb6)
      have HJ6 := mkH (HJ5.out.up hb6)
      clear hb6 HT5 HI5 HJ5
      have HH : Hid (∀ q W, Two w ka na ta kb nb tb W → S.InC W (ctOf T) (.pointer q) → Calls Tryz.prog 9 #[.pointer q, .func (.func 8) #[] #[.pointer (some ⟨w.heap.size, 0, none⟩), .pointer (some ⟨w.heap.size + 1, 0, none⟩)]] W fun e w' => e = .returned (.int .i64 (evA ka na ta kb nb tb (ctOf T))) ∧ Below W.heap.size W w') := mkH fun q W h hi => Holds_any w.heap.size (w.heap.size + 1) ka na ta kb nb tb (ctOf T) (.pointer q) W h.a h.b hi HWI.out
      generalize evA ka na ta kb nb tb (ctOf T) = ev at *
      have hpq : ∃ b, p = some ⟨b, 0, none⟩ := by
        obtain ⟨b, _, _, _, _, _, _, e, _⟩ := InC_root HI6.out
        exact ⟨b, by injection e⟩
      obtain ⟨bp, rfl⟩ := hpq
      generalize bA (tx dcL T) = tt at *
      go_wp2_with fail
      refine (HH.out _ _ HT6.out HI6.out).mono ?_
      rintro e w7 ⟨rfl, hb7⟩
      have HT7 := mkH (HT6.out.up hb7)
      have HJ7 := mkH (HJ6.out.up hb7)
      clear hb7
      go_wp2_with fail
      refine (HH.out _ _ HT7.out HJ7.out).mono ?_
      rintro e w8 ⟨rfl, hb8⟩
      have HT8 := mkH (HT7.out.up hb8)
      clear hb8
      go_wp2
      go_ret
      exact ⟨rfl, HT8.out.low⟩
end Go.Proofs.YtfokdpddcgaafaaGreatDoor
