/- What the reader's column does, said of every call. -/
import Derived.Test.YtodemklghajdeaaGreatDoorEWl
namespace Go.Proofs.YtodemklghajdeaaGreatDoor.E
open Go.RowKit Go.Proofs Go.Shelf

theorem runsR_num {k : Int} {n : Nat} : ∀ (f : Nat) (D : List V) (s : St), (s.2 = false → s.1.length < f) → D.length ≤ n → (runsR k n f D s).2.2 = false → (runsR k n f D s).1.length = n
  | 0, D, s, hf, hd, h => by
    rw [runsR] at h
    have := hf h; omega
  | f + 1, D, s, hf, hd, h => by
    by_cases hc : D.length < n ∧ s.2 = false
    · rw [runsR_go hc] at h ⊢
      have hu1 := upToR_le ((n - D.length : Nat) : Int) s
      refine runsR_num f _ _ (fun h2 => ?_) ?_ h
      · have h3 : (upToR ((n - D.length : Nat) : Int) s).2.2 = false := by
          cases h4 : (upToR ((n - D.length : Nat) : Int) s).2.2 with
          | false => rfl
          | true => have := valueR_wrong (kind := k) h4; rw [runSt, this] at h2; cases h2
        have h5 := upToR_less h3
        have h6 := valueR_len k (upToR ((n - D.length : Nat) : Int) s).2
        have h7 := hf hc.2
        show (runSt k n D s).1.length < f
        unfold runSt; omega
      · unfold runL; rw [List.length_append, List.length_replicate]; omega
    · rw [runsR_stop hc] at h ⊢
      simp only at h ⊢
      have : ¬ D.length < n := fun h2 => hc ⟨h2, h⟩
      omega
theorem whichGo_num {d : List V} : ∀ (n : Nat) (A : List V) (s : St), (whichGo d n A s).2.2 = false → (whichGo d n A s).1.length = A.length + n
  | 0, A, s, _ => rfl
  | n + 1, A, s, h => by
    rw [whichGo] at h ⊢
    split at h
    · rename_i h2; simp only at h; rw [h] at h2; cases h2
    · rename_i h2
      rw [if_neg h2, whichGo_num n _ _ h]; simp; omega
theorem stepsR_num : ∀ (n : Nat) (a : Int) (s : St), (stepsR n a s).1.length = n
  | 0, _, _ => rfl
  | n + 1, a, s => by simp [stepsR, stepsR_num n]
theorem knownR_num {k : Int} {way n : Nat} {s : St} (h : (knownR k way n s).2.2 = false) : (knownR k way n s).1.length = n := by
  unfold knownR at h ⊢
  split
  · exact valuesR_num k n s
  · split
    · rename_i h1 h2
      rw [if_neg h1, if_pos h2] at h
      exact runsR_num _ _ _ (fun _ => by omega) (by simp) h
    · split
      · rename_i h1 h2 h3
        rw [if_neg h1, if_neg h2, if_pos h3] at h
        have := whichGo_num n [] _ h
        unfold whichR; rw [this]; simp
      · split
        · exact stepsR_num n 0 s
        · rename_i h1 h2 h3 h4
          rw [if_neg h1, if_neg h2, if_neg h3, if_neg h4] at h; cases h

set_option maxHeartbeats 2000000 in
set_option maxRecDepth 100000 in
theorem knownR_any (b way n : Nat) (k : Int) (s : St) (w : World) (hr : Rd w b k s) (hl : s.1.length ≤ 1000000) (hn : n ≤ 1000) :
    Calls Tryz.prog 130 #[.pointer (some ⟨b, 0, none⟩), .int .i64 way, .int .i64 n] w fun e w' => ∃ v', e = .returned v' ∧ w'.ownsRow w.heap.size 45 3 v' (knownR k way n s).1.length (flatV (knownR k way n s).1) ∧ Rd w' b k (knownR k way n s).2 ∧ w.grownBy w' (some b) := by
  have H0 := mkHid (values_any b n k s w hr hl hn)
  have H1 := mkHid (runs_any b n k s w hr hl hn)
  have H2 := mkHid (which_any b n k s w hr hl hn)
  have H3 := mkHid (steps_any b n k s w hr hl hn)
  obtain ⟨q0, q1, q2, z1, z2⟩ := rd_cells hr
  have HR := mkHid hr
  clear hr
  have hw : way = 0 ∨ way = 1 ∨ way = 2 ∨ way = 3 ∨ 4 ≤ way := by omega
  rcases hw with rfl | rfl | rfl | rfl | h4
  · have HK : Hid (knownR k 0 n s = valuesR k n s) := mkHid rfl
    rw [HK.out]
    go_enter Tryz.func130, Tryz.ntmps130
    go_wp2_with (go_at_call 147; refine H0.out.mono ?_; rintro e w1 ⟨v1, rfl, ho, hR, hg⟩)
    go_ret
    exact ⟨v1, rfl, ho, hR, hg⟩
  · have HK : Hid (knownR k 1 n s = runsR k n (s.1.length + 2) [] s) := mkHid rfl
    rw [HK.out]
    go_enter Tryz.func130, Tryz.ntmps130
    go_wp2_with (go_at_call 148; refine H1.out.mono ?_; rintro e w1 ⟨v1, rfl, ho, hR, hg⟩)
    go_ret
    exact ⟨v1, rfl, ho, hR, hg⟩
  · have HK : Hid (knownR k 2 n s = whichR k n s) := mkHid rfl
    rw [HK.out]
    go_enter Tryz.func130, Tryz.ntmps130
    go_wp2_with (go_at_call 149; refine H2.out.mono ?_; rintro e w1 ⟨v1, rfl, ho, hR, hg⟩)
    go_ret
    exact ⟨v1, rfl, ho, hR, hg⟩
  · have HK : Hid (knownR k 3 n s = stepsR n 0 s) := mkHid rfl
    rw [HK.out]
    go_enter Tryz.func130, Tryz.ntmps130
    go_wp2_with (go_at_call 150; refine H3.out.mono ?_; rintro e w1 ⟨v1, rfl, ho, hR, hg⟩)
    go_ret
    exact ⟨v1, rfl, ho, hR, hg⟩
  · have HK : Hid (knownR k way n s = ([], (s.1, true))) := mkHid (by unfold knownR; rw [if_neg (by omega), if_neg (by omega), if_neg (by omega), if_neg (by omega)])
    rw [HK.out]
    have b0 : ((way : Int) == 0) = false := by simp; omega
    have b1 : ((way : Int) == 1) = false := by simp; omega
    have b2 : ((way : Int) == 2) = false := by simp; omega
    have b3 : ((way : Int) == 3) = false := by simp; omega
    clear h4 H0 H1 H2 H3
    go_enter Tryz.func130, Tryz.ntmps130
    go_wp2_with fail
    refine (refuse_any b k s w HR.out).mono ?_
    rintro e w1 ⟨rfl, hR1, hg1⟩
    go_wp2
    go_ret
    exact ⟨_, rfl, World.ownsRow_nil _ _ _ _, hR1, hg1⟩
end Go.Proofs.YtodemklghajdeaaGreatDoor.E

namespace Go.Proofs.YtodemklghajdeaaGreatDoor.E
open Go.RowKit Go.Proofs Go.Shelf

theorem info3 : (Tryz.prog.info? 3).map (fun i => (i.zero, i.size, i.bytes)) = some (some (.int .i64 0), 1, 8) := by kernel_rfl
theorem bytesR_num {n : Nat} {s : St} (h : (bytesR n s).2.2 = false) : (bytesR n s).1.length = n ∧ s.2 = false := by
  unfold bytesR at h ⊢
  split
  · rename_i h2; rw [if_pos h2] at h; cases h
  · rename_i h2; rw [if_neg h2] at h; exact ⟨by simp; omega, h⟩
theorem made_flat (n : Nat) : (madeCells (#[.int .i64 0, .int .i64 0, .string ⟨#[]⟩] : Array Value) (n * 3)).toList = flatV (List.replicate n (0, 0, str [])) := by
  apply List.ext_getElem?
  intro j
  by_cases hj : j < n * 3
  · have hx : (List.replicate n ((0, 0, str []) : V))[j / 3]? = some (0, 0, str []) := by rw [List.getElem?_replicate, if_pos (by omega)]
    obtain ⟨a0, a1, a2⟩ := flatV_at hx
    have hm : j % 3 = 0 ∨ j % 3 = 1 ∨ j % 3 = 2 := by omega
    have e : (madeCells (#[.int .i64 0, .int .i64 0, .string ⟨#[]⟩] : Array Value) (n * 3)).toList[j]? = some ((#[.int .i64 0, .int .i64 0, .string ⟨#[]⟩] : Array Value)[j % 3]!) := by simp [madeCells, hj]
    rw [e]
    rcases hm with hm | hm | hm
    · rw [show j / 3 * 3 = j by omega] at a0
      rw [a0, hm]; rfl
    · rw [show j / 3 * 3 + 1 = j by omega] at a1
      rw [a1, hm]; rfl
    · rw [show j / 3 * 3 + 2 = j by omega] at a2
      rw [a2, hm]; rfl
  · have e : (madeCells (#[.int .i64 0, .int .i64 0, .string ⟨#[]⟩] : Array Value) (n * 3)).toList[j]? = none := by simp [madeCells, hj]
    rw [e, List.getElem?_eq_none (by rw [flatV_len]; simp; omega)]
theorem placesTo_lt (nb : List UInt8) : ∀ k p, p ∈ placesTo nb k → p < k
  | 0, p, h => by simp [placesTo] at h
  | k + 1, p, h => by
    unfold placesTo at h
    split at h
    · simp at h
      rcases h with h | rfl
      · have := placesTo_lt nb k p h; omega
      · omega
    · have := placesTo_lt nb k p h; omega
theorem placesTo_len (nb : List UInt8) : ∀ k, (placesTo nb k).length ≤ k
  | 0 => by simp [placesTo]
  | k + 1 => by
    have := placesTo_len nb k
    unfold placesTo; split <;> simp <;> omega
theorem putAll_nil (l : List V) (ps : List Nat) : putAll l ps [] = l := by cases ps <;> rfl
theorem putAll_nil' (l : List V) (vs : List V) : putAll l [] vs = l := by cases vs <;> rfl
theorem putAll_next : ∀ (l : List V) (ps : List Nat) (vs : List V) (i p : Nat) (x : V), ps[i]? = some p → vs[i]? = some x → putAll l (ps.take (i + 1)) (vs.take (i + 1)) = (putAll l (ps.take i) (vs.take i)).set p x
  | l, [], vs, i, p, x, h, _ => by simp at h
  | l, q :: ps, [], i, p, x, _, h => by simp at h
  | l, q :: ps, y :: vs, 0, p, x, h1, h2 => by
    simp at h1 h2; subst h1 h2
    simp [putAll]
  | l, q :: ps, y :: vs, i + 1, p, x, h1, h2 => by
    have e := putAll_next (l.set q y) ps vs i p x (by simpa using h1) (by simpa using h2)
    simp only [List.take_succ_cons, putAll]
    exact e
theorem putAll_len : ∀ (l : List V) (ps : List Nat) (vs : List V), (putAll l ps vs).length = l.length
  | l, [], vs => by rw [putAll_nil']
  | l, q :: ps, [] => rfl
  | l, q :: ps, y :: vs => by rw [putAll, putAll_len]; simp
def intCells (l : List Nat) : List Value := l.map fun (x : Nat) => Value.int .i64 (x : Int)
theorem intCells_one (l : List Nat) : ∀ y ∈ intCells l, y.oneCell' = true := by
  intro y hy; simp only [intCells, List.mem_map] at hy; obtain ⟨x, _, rfl⟩ := hy; rfl
theorem and_one (x : Nat) (h : x < 256) : bits .and .u8 (x : Int) 1 = ((x % 2 : Nat) : Int) := by
  have := bits_mask .u8 8 (by decide) wraps_u8 1 (by decide) (x : Int) (by omega) (by omega)
  simpa using this
theorem places_yes {nb : List UInt8} {k : Nat} (h : bitOf nb k = 0) : placesTo nb (k + 1) = placesTo nb k ++ [k] := by rw [placesTo, if_pos h]
theorem places_no {nb : List UInt8} {k : Nat} (h : ¬ bitOf nb k = 0) : placesTo nb (k + 1) = placesTo nb k := by rw [placesTo, if_neg h]
theorem str_at (nb : List UInt8) (q : Nat) (h : q < (str nb).size) : (str nb)[q].toNat = (nb[q]?.getD 0).toNat := by
  have h2 : q < nb.length := by rw [str_size] at h; exact h
  rw [List.getElem?_eq_getElem h2]
  rfl

theorem ownsRow_slice {w : World} {B e z n : Nat} {v : Value} {xs : List Value} (h : w.ownsRow B e z v n xs) : ∃ ao cp, v = .slice ao n cp ∧ n ≤ cp := by
  rcases h.2 with ⟨rfl, rfl⟩ | ⟨g, cap, cur, e1, e2, e3, e4, _⟩
  · exact ⟨none, 0, rfl, Nat.le_refl _⟩
  · exact ⟨_, _, e1, e4⟩

set_option maxHeartbeats 2000000 in
set_option maxRecDepth 100000 in
theorem column_any (b : Nat) (k : Int) (l : List UInt8) (w : World) (hr : Rd w b k (l, false)) (hl : l.length ≤ 1000000) :
    Calls Tryz.prog 109 #[.pointer (some ⟨b, 0, none⟩)] w fun e w' => ∃ v' st', e = .returned v' ∧ Rd w' b k st' ∧ st'.2 = (colR k l).2 ∧ (st'.2 = false → w'.ownsRow w.heap.size 45 3 v' (colR k l).1.length (flatV (colR k l).1)) ∧ w.grownBy w' (some b) := by
  obtain ⟨i32, hi32, hz32, hz132, hz232⟩ := info_parts info32
  have HI32 := mkHid (And.intro hi32 (And.intro hz32 (And.intro hz132 hz232)))
  obtain ⟨i3, hi3, hz3, hz13, hz23⟩ := info_parts info3
  have HI3 := mkHid (And.intro hi3 (And.intro hz3 (And.intro hz13 hz23)))
  clear hi32 hz32 hz132 hz232 hi3 hz3 hz13 hz23
  have hb := hr.lt
  have HC1 : Hid _ := mkHid (upTo_any b k 60 (l, false) w hr hl (by omega) (by omega))
  have hu1 := upToR_le 60 (l, false)
  have hu2 := upToR_len 60 (l, false)
  have HCR : Hid (colR k l = if (colW l).2.2 then ([], true) else if (colK k l).2.2 then ([], true) else (putAll (List.replicate (colN l).1 (0, 0, str [])) (colP l) (colK k l).1, false)) := mkHid rfl
  have HN : Hid (colN l = upToR 60 (l, false)) := mkHid rfl
  have HB : Hid (colB l = bytesR (((colN l).1 + 7) / 8) (colN l).2) := mkHid rfl
  have HW : Hid (colW l = bytesR 1 (colB l).2) := mkHid rfl
  have HP : Hid (colP l = placesTo (colB l).1 (colN l).1) := mkHid rfl
  have HKK : Hid (colK k l = knownR k ((colW l).1[0]?.getD 0).toNat (colP l).length (colW l).2) := mkHid rfl
  rw [← HN.out] at HC1 hu1 hu2
  generalize colN l = R1 at *
  obtain ⟨n, s1⟩ := R1
  simp only at hu1 hu2 HB HP HC1 HCR
  have HC2 := mkHid (fun W hW => bytes_any b ((n + 7) / 8) k s1 W hW (by omega) (by omega))
  have hb2 := bytesR_len ((n + 7) / 8) s1
  have hb3 := @bytesR_num ((n + 7) / 8) s1
  rw [← HB.out] at HC2 hb2 hb3
  generalize colB l = R2 at *
  obtain ⟨nb, s2⟩ := R2
  simp only at hb2 hb3 HW HP HC2
  have HC3 := mkHid (fun W hW => bytes_any b 1 k s2 W hW (by omega) (by omega))
  have hc2 := bytesR_len 1 s2
  have hc3 := @bytesR_num 1 s2
  rw [← HW.out] at HC3 hc2 hc3
  generalize colW l = R3 at *
  obtain ⟨wb, s3⟩ := R3
  simp only at hc2 hc3 HKK HC3 HCR
  have HBM := mkHid (bytesOf_any n (by omega))
  have hn60 : n ≤ 60 := by omega
  clear hr HN HB HW hu1
  go_enter Tryz.func109, Tryz.ntmps109
  go_wp2_with fail
  refine HC1.out.mono ?_
  rintro e w1 ⟨rfl, hR1, hg1⟩
  go_wp2_with fail
  have HR1d : Hid (Rd w1.drew b k s1) := mkHid hR1
  go_region_with
    (first
      | (go_at_call 124; refine (HBM.out _).mono ?_; rintro e w1' ⟨rfl, rfl⟩)
      | (go_at_call 90; refine (HC2.out _ HR1d.out).mono ?_; rintro e w2 ⟨rfl, hR2, hg2⟩))
  go_wp2_with fail
  refine (HC3.out _ hR2).mono ?_
  rintro e w3 ⟨rfl, hR3, hg3⟩
  have HG3 := mkHid (grown_trans hg1 (grown_trans (grown_trans (grown_below ((Below.refl _ _).drew)) hg2) hg3))
  obtain ⟨q0, q1, q2, z1, z2⟩ := rd_cells hR3
  have HR3 := mkHid hR3
  clear hg1 hg2 hg3 hR1 hR2 hR3
  obtain ⟨s3l, s3q⟩ := s3
  simp only at q1 q2 hc2
  cases s3q with
  | true =>
    have HE : Hid (colR k l = ([], true)) := mkHid (by rw [HCR.out]; rfl)
    go_wp2_with fail
    refine (wrong_any b k _ w3 HR3.out).mono ?_
    rintro e w3 ⟨rfl, rfl⟩
    go_wp2
    go_ret
    exact ⟨_, (s3l, true), rfl, HR3.out, by rw [HE.out], (fun h => by cases h), HG3.out⟩
  | false =>
    obtain ⟨hwl, hs2⟩ := hc3 rfl
    obtain ⟨hnl, hs1⟩ := hb3 hs2
    have HQ := mkHid (str_at nb)
    have hns : (str nb).size = (n + 7) / 8 := by rw [str_size, hnl]
    obtain ⟨c0, hwb⟩ : ∃ c0, wb = [c0] := by
      match wb, hwl with
      | [c0], _ => exact ⟨c0, rfl⟩
    subst hwb
    have hns8 : ∀ i, i < n → i / 8 < (str nb).size := fun i hi => by rw [hns]; omega
    have HN8 := mkHid hns8
    have hnsz : (str nb).size ≤ 100 := by omega
    generalize str nb = ns at *
    clear hb3 hc3 hns hns8 HC1 HC2 HC3 HBM hwl hnl
    go_wp2_with fail
    refine (wrong_any b k _ w3 HR3.out).mono ?_
    rintro e w3 ⟨rfl, rfl⟩
    go_wp2_with (refine wpList_make_full _ rfl _ _ 57 rfl w3.heap.size 45 i32 (.agg #[.int .i64 0, .int .i64 0, .string ⟨#[]⟩]) 3 Tryz.underlying57 HI32.out.1 HI32.out.2.1 HI32.out.2.2.1 .i64 .i64 _ _ n rfl rfl rfl rfl ?m1 ?m2 ?m3 ?_)
    case m1 => rw [HI32.out.2.2.2]; omega
    case m2 => unfold maxLen; omega
    case m3 => exact Nat.le_refl _
    intro w4 ho4 hg4
    have HO4 : Hid (w4.ownsRow w3.heap.size 45 3 (.slice (some ⟨w3.heap.size, 0, none⟩) n n) n (flatV (List.replicate n (0, 0, str [])))) := mkHid (by rw [← made_flat]; exact ho4)
    have hg34 : w3.grownBy w4 (some b) := ⟨hg4.os, hg4.tape, hg4.output, hg4.size, fun i hi _ => hg4.block i hi (by simp)⟩
    have HG4 := mkHid (grown_trans HG3.out hg34)
    have HR4 : Hid (Rd w4 b k (s3l, false)) := mkHid ((hg4.block b HR3.out.lt (by simp)).trans HR3.out)
    have hs3 := HG3.out.size
    have hs4 := hg4.size
    have hgl : w3.heap.size < w4.heap.size := (HO4.out.lt _ rfl).2
    clear ho4 hg4 hg34 q0 q1 q2 z1 z2
    go_wp2
    go_loopw [7, 8, 33] (fun vp _ vi wr => ∃ i : Nat, i ≤ n ∧ vi = .int .i64 i ∧ Hid (wr.ownsRow w4.heap.size 3 1 vp (placesTo nb i).length (intCells (placesTo nb i))) ∧ Hid (w4.grownBy wr none)) (fun _ _ vi _ => n - (intOf vi).toNat)
    case atStart => exact ⟨0, Nat.zero_le _, rfl, World.ownsRow_nil _ _ _ _, grown_refl _ _⟩
    case round =>
      obtain ⟨i, hi, rfl, hp, hg⟩ := hrel
      have hsz := hg.out.size
      have HPL := mkHid (placesTo_len nb i)
      by_cases hlt : i < n
      · have hq := HN8.out i hlt
        have hat := HQ.out (i / 8) hq
        have hx256 : ns[i / 8].toNat < 256 := ns[i / 8].toNat_lt
        have HBO : Hid (bitOf nb i = ns[i / 8].toNat / 2 ^ (i % 8) % 2) := mkHid (by unfold bitOf; rw [hat])
        have HPY := mkHid (@places_yes nb i)
        have HPN := mkHid (@places_no nb i)
        generalize hqq : i / 8 = q at *
        have hqi : (i : Int) / 8 = (q : Int) := by omega
        have hqs : (q : Int) < (ns.size : Int) := by omega
        generalize hss : i % 8 = sh at *
        have hsi : (i : Int) % 8 = (sh : Int) := by omega
        have hs8 : sh < 8 := by omega
        clear hqq hss hat
        have hE := and_one (ns[q].toNat / 2 ^ sh) (Nat.lt_of_le_of_lt (Nat.div_le_self _ _) hx256)
        have ed : ((ns[q].toNat / 2 ^ sh : Nat) : Int) = (ns[q].toNat : Int) / 2 ^ sh := by simp
        rw [ed] at hE
        clear ed
        by_cases hbit : ns[q].toNat / 2 ^ sh % 2 = 0
        · rw [hbit] at hE
          have hpl := HPL.out
          have HPX := HPY.out (by rw [HBO.out]; exact hbit)
          have HPX := mkHid HPX
          clear hbit HPY HPN HBO
          go_wp2_with (at_builtin; refine wpList_append_own _ rfl _ _ 193 rfl w4.heap.size 3 i3 (.int .i64 0) 1 8 Tryz.underlying193 HI3.out.1 HI3.out.2.1 HI3.out.2.2.1 HI3.out.2.2.2 rfl (by decide) _ _ _ rfl (hp.out.alloc _) ⟨wr.heap.size, 0, none⟩ 1 1 [.int .i64 (i : Int)] rfl rfl ?c1 ?c2 ?c3 ?c4 ?c5 ?_)
          case c1 => exact fun j u hj => World.news_of_block (heap_alloc_new _ _) j u hj
          case c2 => exact intCells_one [i]
          case c3 => unfold maxLen; omega
          case c4 => omega
          case c5 => simp; omega
          intro v5 w5 ho5 hg5 _
          have hG5 := grown_app (grown_alloc hg.out (.cells #[.int .i64 (i : Int)] 3)) (hp.out.alloc _) (Nat.le_refl _) hg5
          go_wp2
          refine ⟨⟨i + 1, by omega, by go_num, mkHid ?_, mkHid hG5⟩, by simp [intOf]; omega⟩
          rw [HPX.out, List.length_append]
          unfold intCells at ho5 ⊢
          rw [List.map_append]; exact ho5
        · have h1 : ns[q].toNat / 2 ^ sh % 2 = 1 := by omega
          rw [h1] at hE
          have HPX := HPN.out (by rw [HBO.out]; exact hbit)
          have HPX := mkHid HPX
          clear hbit HPY HPN HBO h1
          go_wp2
          exact ⟨⟨i + 1, by omega, by go_num, by rw [HPX.out]; exact hp, hg⟩, by simp [intOf]; omega⟩
      · obtain rfl : i = n := by omega
        have hpl := HPL.out
        have HPT := mkHid (placesTo_lt nb i)
        have HKK2 : Hid (colK k l = knownR k c0.toNat (placesTo nb i).length (s3l, false)) := mkHid (by rw [HKK.out, HP.out]; rfl)
        rw [HP.out] at HCR
        have HRr : Hid (Rd wr b k (s3l, false)) := mkHid ((hg.out.block b HR4.out.lt (by simp)).trans HR4.out)
        have HGr : Hid (w.grownBy wr (some b)) := mkHid (grown_trans HG4.out ⟨hg.out.os, hg.out.tape, hg.out.output, hg.out.size, fun j hj _ => hg.out.block j hj (by simp)⟩)
        have HOl : Hid (wr.ownsRow w3.heap.size 45 3 (.slice (some ⟨w3.heap.size, 0, none⟩) i i) i (flatV (List.replicate i (0, 0, str [])))) := mkHid (HO4.out.kept hg.out (.inr (by simp [Value.ownBlock])))
        have HC5 := mkHid (knownR_any b c0.toNat (placesTo nb i).length k (s3l, false) wr HRr.out (by simp only; omega) (by omega))
        have HNM := mkHid (@knownR_num k c0.toNat (placesTo nb i).length (s3l, false))
        rw [← HKK2.out] at HC5 HNM
        have hws : (str [c0]).size = 1 := str_size [c0]
        have hw0 : ∀ h, (str [c0])[0]'h = c0 := fun _ => rfl
        clear HKK HP HKK2
        generalize colK k l = R5 at *
        obtain ⟨F, ⟨s5l, s5q⟩⟩ := R5
        simp only at HC5 HNM HCR
        generalize hPP : placesTo nb i = P at *
        obtain ⟨ap, cp, rfl, hcp⟩ := ownsRow_slice hp.out
        have hc256 : (c0.toNat : Int) < 256 := by have := c0.toNat_lt; omega
        have HSW : Hid (w4.heap.size ≤ wr.heap.size) := mkHid hsz
        clear hPP hlt
        generalize str [c0] = ws at *
        have hw1 : (0 : Int) < (ws.size : Int) := by rw [hws]; decide
        have hw2 : ws[0].toNat = c0.toNat := by rw [hw0]
        clear hw0
        go_wp2_with fail
        refine HC5.out.mono ?_
        rintro e w6 ⟨vf, rfl, hf6, hR6, hg6⟩
        have hs6 := hg6.size
        have HG6 := mkHid (grown_trans HGr.out hg6)
        have HOl6 := mkHid (ownsRow_rd HOl.out (by omega) hg6)
        have HP6 := mkHid (ownsRow_rd hp.out (by omega) hg6)
        have HF6 := mkHid hf6
        have HR6 := mkHid hR6
        obtain ⟨q0, q1, q2, z1, z2⟩ := rd_cells hR6
        simp only at q2
        clear hf6 hR6 hg6 HC5
        cases s5q with
        | true =>
          have HE : Hid (colR k l = ([], true)) := mkHid (by rw [HCR.out]; rfl)
          go_wp2_with fail
          refine (wrong_any b k _ w6 HR6.out).mono ?_
          rintro e w6 ⟨rfl, rfl⟩
          go_wp2
          go_ret
          exact ⟨_, (s5l, true), rfl, HR6.out, by rw [HE.out], (fun h => by cases h), HG6.out⟩
        | false =>
          have hFl := HNM.out rfl
          have HFL := mkHid hFl
          have HE : Hid (colR k l = (putAll (List.replicate i (0, 0, str [])) P F, false)) := mkHid (by rw [HCR.out]; rfl)
          clear HCR HNM
          obtain ⟨af, cf, rfl, hcf⟩ := ownsRow_slice HF6.out
          have hP60 : P.length ≤ 60 := by omega
          clear hFl
          go_wp2_with fail
          refine (wrong_any b k _ w6 HR6.out).mono ?_
          rintro e w6 ⟨rfl, rfl⟩
          go_wp2
          go_loopw [10, 11, 63] (fun _ _ vi wx => ∃ j : Nat, j ≤ P.length ∧ vi = .int .i64 j ∧ Hid (wx.ownsRow w3.heap.size 45 3 (.slice (some ⟨w3.heap.size, 0, none⟩) i i) i (flatV (putAll (List.replicate i (0, 0, str [])) (P.take j) (F.take j)))) ∧ Hid (wx.ownsRow w4.heap.size 3 1 (.slice ap P.length cp) P.length (intCells P)) ∧ Hid (wx.ownsRow wr.heap.size 45 3 (.slice af F.length cf) F.length (flatV F)) ∧ Hid (Rd wx b k (s5l, false)) ∧ Hid (w.grownBy wx (some b))) (fun _ _ vi _ => P.length - (intOf vi).toNat)
          case atStart => exact ⟨0, Nat.zero_le _, rfl, HOl6, HP6, HF6, HR6, HG6⟩
          case round =>
            obtain ⟨j, hj, rfl, hol, hop, hof, hrx, hgx⟩ := hrel
            by_cases hjl : j < P.length
            · obtain ⟨p, hp2⟩ := getEx hjl
              obtain ⟨⟨kx, nx, tx⟩, hx2⟩ := getEx (l := F) (k := j) (by have := HFL.out; omega)
              have hpi : p < i := HPT.out p (List.mem_of_getElem? hp2)
              obtain ⟨gp, cgp, eap, hgp1, hgp2⟩ := hop.out.form (by omega)
              injection eap with eap _ ecp
              subst eap ecp
              have hFl := HFL.out
              obtain ⟨gf, cgf, eaf, hgf1, hgf2⟩ := hof.out.form (by omega)
              injection eaf with eaf _ ecf
              subst eaf ecf
              have y : wr.cell? ⟨gp, j, none⟩ = some (.int .i64 (p : Int)) := (hop.out.cellAt _ (by omega)).trans (by simp [intCells, hp2])
              obtain ⟨f0, f1, f2⟩ := flatV_at hx2
              have x0 : wr.cell? ⟨gf, j * 3, none⟩ = some (.int .i64 kx) := (hof.out.cellAt _ (by omega)).trans f0
              have x1 : wr.cell? ⟨gf, j * 3 + 1, none⟩ = some (.int .i64 nx) := (hof.out.cellAt _ (by omega)).trans f1
              have x2 : wr.cell? ⟨gf, j * 3 + 2, none⟩ = some (.string tx) := (hof.out.cellAt _ (by omega)).trans f2
              have u0 := hol.out.frozenAt (p * 3)
              have u1 := hol.out.frozenAt (p * 3 + 1)
              have u2 := hol.out.frozenAt (p * 3 + 2)
              have hll := hol.out.1
              obtain ⟨o0, ho0⟩ : ∃ y, wr.cell? ⟨w3.heap.size, p * 3, none⟩ = some y := ⟨_, (hol.out.cellAt _ (by omega)).trans (List.getElem?_eq_getElem (by omega))⟩
              obtain ⟨o1, ho1⟩ : ∃ y, wr.cell? ⟨w3.heap.size, p * 3 + 1, none⟩ = some y := ⟨_, (hol.out.cellAt _ (by omega)).trans (List.getElem?_eq_getElem (by omega))⟩
              obtain ⟨o2, ho2⟩ : ∃ y, wr.cell? ⟨w3.heap.size, p * 3 + 2, none⟩ = some y := ⟨_, (hol.out.cellAt _ (by omega)).trans (List.getElem?_eq_getElem (by omega))⟩
              have HNX := mkHid (putAll_next (List.replicate i (0, 0, str [])) P F j p (kx, nx, tx) hp2 hx2)
              have hpi' : (p : Int) < (i : Int) := by omega
              have hjf : (j : Int) < (F.length : Int) := by omega
              have hsx := hgx.out.size
              clear hp2 hx2 f0 f1 f2 hll hFl
              go_wp2
              have s0 := hol.out.stored (p * 3) (.int .i64 kx)
              have s1 := s0.1.stored (p * 3 + 1) (.int .i64 nx)
              have s2 := s1.1.stored (p * 3 + 2) (.string tx)
              have sg := grown_trans s0.2 (grown_trans s1.2 s2.2)
              refine ⟨⟨j + 1, by omega, by go_num, mkHid (by rw [HNX.out, flatV_set]; exact s2.1), mkHid (ownsRow_rd hop.out (by omega) sg), mkHid (ownsRow_rd hof.out (by have := HSW.out; omega) sg), mkHid (hrx.out.grown sg (by omega)), mkHid (grown_new (grown_new (grown_new hgx.out hs3 _) hs3 _) hs3 _)⟩, by simp [intOf]; omega⟩
            · have ej : j = P.length := by omega
              have e1 : P.take j = P := List.take_of_length_le (by omega)
              have e2 : F.take j = F := List.take_of_length_le (by have := HFL.out; omega)
              rw [e1, e2] at hol
              clear ej e1 e2
              go_wp2
              go_ret
              refine ⟨_, (s5l, false), rfl, hrx.out, by rw [HE.out], fun _ => ?_, hgx.out⟩
              rw [HE.out]
              simp only [putAll_len, List.length_replicate]
              exact ownsRow_base hol.out hs3
end Go.Proofs.YtodemklghajdeaaGreatDoor.E
