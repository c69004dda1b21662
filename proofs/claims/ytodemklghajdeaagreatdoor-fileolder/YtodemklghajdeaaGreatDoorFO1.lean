/- What More, Less and Rename make of columns, in the law's own words; and the closure of millpondkeep.FileOlder. -/
import Derived.Test.YtodemklghajdeaaGreatDoorFW5
import Derived.Laws.CopyOwn
import Derived.Test.YtodemklghajdeaaGreatDoorFW6
import Derived.Deep.RegionLaw
import Derived.Test.YtodemklghajdeaaGreatDoorCW9
import Derived.Test.YtodemklghajdeaaGreatDoorFZA
import Derived.OneCell
namespace Go.Proofs.YtodemklghajdeaaGreatDoor
open Go.RowKit Go.Proofs Go.Shelf Go.Joins

theorem mul64_any (n : Nat) (h1 : 1 ≤ n) (h6 : n ≤ 6) (w : World) : Calls Tryz.prog 139 #[.int .u64 1, .int .u64 n] w fun e w' => e = .returned (.tuple #[.int .u64 0, .int .u64 n]) ∧ w' = w := by
  obtain rfl | rfl | rfl | rfl | rfl | rfl : n = 1 ∨ n = 2 ∨ n = 3 ∨ n = 4 ∨ n = 5 ∨ n = 6 := by omega
  all_goals
    go_enter Tryz.func139, Tryz.ntmps139
    go_wp2
    go_ret2
    exact ⟨rfl, rfl⟩
set_option maxRecDepth 100000 in
theorem mul_any (n : Nat) (h1 : 1 ≤ n) (h6 : n ≤ 6) (w : World) : Calls Tryz.prog 116 #[.int .u64 1, .int .u64 n] w fun e w' => e = .returned (.tuple #[.int .u64 0, .int .u64 n]) ∧ w' = w := by
  have HM : Hid (∀ W, Calls Tryz.prog 139 #[.int .u64 1, .int .u64 n] W fun e w' => e = .returned (.tuple #[.int .u64 0, .int .u64 n]) ∧ w' = W) := fun W => mul64_any n h1 h6 W
  go_enter Tryz.func116, Tryz.ntmps116
  go_wp2_with (first
    | (go_at_call 139; refine (HM.out _).mono ?_; rintro e w1 ⟨rfl, rfl⟩))
  go_ret2
  exact ⟨rfl, rfl⟩

/-- A value's three cells. -/
def enc3 (v : V) : List Value := [.int .i64 v.1, .int .i64 v.2.1, .string v.2.2]
/-- One value, so many times. -/
def rep (v : V) (m : Nat) : List Value := (List.replicate m v).flatMap enc3
theorem rep_len (v : V) (m : Nat) : (rep v m).length = m * 3 := by
  unfold rep
  induction m with
  | zero => rfl
  | succ m ih => rw [List.replicate_succ, List.flatMap_cons, List.length_append, ih]; simp [enc3]; omega
theorem rep_add (v : V) (m c : Nat) : rep v (m + c) = rep v m ++ rep v c := by
  unfold rep
  rw [← List.replicate_append_replicate, List.flatMap_append]
theorem rep_take (v : V) {m c : Nat} (h : c ≤ m) : (rep v m).take (c * 3) = rep v c := by
  obtain ⟨d, rfl⟩ : ∃ d, m = c + d := ⟨m - c, by omega⟩
  rw [rep_add, List.take_append_of_le_length (by rw [rep_len]; exact Nat.le_refl _), List.take_of_length_le (by rw [rep_len]; exact Nat.le_refl _)]
theorem rep_flat (v : V) (m : Nat) : rep v m = E.flatV (List.replicate m v) := rfl
theorem rep_one (v : V) (m : Nat) : ∀ u ∈ rep v m, u.oneCell' = true := by
  intro u hu
  simp only [rep, List.mem_flatMap] at hu
  obtain ⟨x, _, hx⟩ := hu
  simp [enc3] at hx
  rcases hx with rfl | rfl | rfl <;> rfl
/-- What lies in the row behind a copy. -/
def half (v : V) (m L : Nat) : List Value := rep v m ++ List.replicate ((L - m) * 3) (.int .i64 0)

theorem run_copy3 {P : Program} (w : World) (dT sT ty elem : TypeId) (g o dLen dCap : Nat) (a : Addr) (sLen sCap : Nat) (cur : Array Value) (t : TypeId) (cs : List Value) (m : Nat)
    (hu : P.underlying dT = some (.slice elem)) (hs : (P.info? elem).map (·.size) = some 3)
    (hg : w.heap[g]? = some (.cells cur t (0, 0))) (hm : m = Nat.min sLen dLen) (hn : cs.length = m * 3)
    (hsrc : ∀ j v, cs[j]? = some v → w.cell? (a.add j) = some v) (hfit : o + cs.length ≤ cur.size) (h1 : ∀ v ∈ cs, v.oneCell' = true) :
    (Builtin.copy_ #[dT, sT] ty #[.slice (some ⟨g, o, none⟩) dLen dCap, .slice (some a) sLen sCap]).run P w =
      .ok (goInt m) (w.setRow g (cur.toList.take o ++ cs ++ cur.toList.drop (o + cs.length)).toArray) := by
  have hl := run_loadCells_list (P := P) w a cs hsrc
  have hst := run_storeCells_at P g o t cs 0 cur w hg (by simpa using hfit) h1
  rw [hn] at hl
  cases hq : P.info? elem with
  | none => simp [hq] at hs
  | some i =>
    have hi : i.size = 3 := by simpa [hq] using hs
    simp [Builtin.copy_, run_underlying hu, Builtin.lenOf, Builtin.firstCells, sizeOf, typeInfo, hq, hi, ← hm, hl, hst]
end Go.Proofs.YtodemklghajdeaaGreatDoor

namespace Go.Proofs.YtodemklghajdeaaGreatDoor
open Go.RowKit Go.Proofs Go.Shelf Go.Joins

theorem size45 : (Tryz.prog.info? 45).map (·.size) = some 3 := by kernel_rfl
theorem wpList_copy3 {w : World} {ops : Array Oper} {rest : List Oper} {o : Oper} {a : Act} {Q : Exit → Act → World → Prop} (hgd : o.guard = none) (d s : Operand)
    (ho : o.op = .call { callee := .builtin .copy, args := #[d, s], argTypes := #[57, 57] })
    (g off dLen dCap : Nat) (ad : Addr) (sLen sCap : Nat) (hd : a.eval d = .slice (some ⟨g, off, none⟩) dLen dCap) (hs : a.eval s = .slice (some ad) sLen sCap)
    (cur : Array Value) (t : TypeId) (hg : w.heap[g]? = some (.cells cur t (0, 0))) (cs : List Value) (m : Nat) (hm : m = Nat.min sLen dLen) (hn : cs.length = m * 3)
    (hsrc : ∀ j v, cs[j]? = some v → w.cell? (ad.add j) = some v) (hfit : off + cs.length ≤ cur.size) (h1 : ∀ v ∈ cs, v.oneCell' = true)
    (h : ∀ w', w' = w.setRow g (cur.toList.take off ++ cs ++ cur.toList.drop (off + cs.length)).toArray → wpList Tryz.prog ops Q rest (a.put o.dst (goInt m)) w') : wpList Tryz.prog ops Q (o :: rest) a w := by
  refine wpList_plain hgd fun K hK => ?_
  have hrun := run_copy3 (P := Tryz.prog) w 57 57 o.type 45 g off dLen dCap ad sLen sCap cur t cs m Tryz.underlying57 size45 hg hm hn hsrc hfit h1
  unfold Oper.wp
  have h' := h _ rfl
  simp [execOp, ho, resolve, invoke, builtin, hd, hs, hrun, Result.andThen]
  exact hK _ _ (by simpa using h')
/-- The row so far: its first m values are v. -/
def Rw (w0 : World) (g n : Nat) (v : V) (m : Nat) (w : World) : Prop := ∃ cur : Array Value, w.heap[g]? = some (.cells cur 45 (0, 0)) ∧ cur.size = n * 3 ∧ cur.toList.take (m * 3) = rep v m ∧ Below w0.heap.size w0 w
theorem Rw.step {w0 w w' : World} {g n m c off : Nat} {v : V} {cur : Array Value} (hg : w.heap[g]? = some (.cells cur 45 (0, 0))) (hs : cur.size = n * 3) (ht : cur.toList.take (m * 3) = rep v m) (hb : Below w0.heap.size w0 w) (hgb : w0.heap.size ≤ g) (ho : off = m * 3) (hc : m + c ≤ n)
    (e : w' = w.setRow g (cur.toList.take off ++ rep v c ++ cur.toList.drop (off + (rep v c).length)).toArray) : Rw w0 g n v (m + c) w' := by
  subst ho
  subst e
  refine ⟨_, setRow_heap w g _ _ _ _ hg, ?_, ?_, below_setRow hb hgb _⟩
  · simp [rep_len]
    omega
  · rw [ht, rep_add]
    rw [List.take_append_of_le_length (by simp [rep_len]; omega), List.take_of_length_le (by simp [rep_len]; omega)]
theorem Rw.cells {w : World} {g m c : Nat} {v : V} {cur : Array Value} (hg : w.heap[g]? = some (.cells cur 45 (0, 0))) (ht : cur.toList.take (m * 3) = rep v m) (hc : c ≤ m) : ∀ j u, (rep v c)[j]? = some u → w.cell? ((⟨g, 0, none⟩ : Addr).add j) = some u := by
  intro j u hu
  have hj : j < c * 3 := by
    rcases Nat.lt_or_ge j (c * 3) with h | h
    · exact h
    · rw [List.getElem?_eq_none (by rw [rep_len]; exact h)] at hu; cases hu
  rw [← rep_take v hc, ← ht, List.getElem?_take_of_lt hj, List.getElem?_take_of_lt (by omega)] at hu
  rw [Addr.add_lit]
  simp [World.cell?, hg]
  simpa using hu

theorem made_row {w : World} {B g n : Nat} {xs : List Value} (h : w.ownsRow B 45 3 (.slice (some ⟨g, 0, none⟩) n n) n xs) : ∃ cur, w.heap[g]? = some (.cells cur 45 (0, 0)) ∧ cur.size = n * 3 := by
  obtain ⟨_, ⟨h1, _⟩ | ⟨g', cap, cur, h1, _, hh, _, _, hs, _⟩⟩ := h
  · cases h1
  · cases h1
    exact ⟨cur, hh, hs⟩
theorem copy_one {w w' : World} {w0 : World} {g n : Nat} {v : V} {cur : Array Value} (hg : w.heap[g]? = some (.cells cur 45 (0, 0))) (hs : cur.size = n * 3) (hb : Below w0.heap.size w0 w) (hgb : w0.heap.size ≤ g) (h1 : 1 ≤ n)
    (e : w' = w.setRow g (cur.toList.take 0 ++ rep v 1 ++ cur.toList.drop (0 + (rep v 1).length)).toArray) : Rw w0 g n v 1 w' := by
  have := Rw.step (m := 0) (c := 1) (v := v) hg hs (by simp [rep]) hb hgb rfl (by omega) e
  simpa using this
theorem src_one {w : World} {xb : Nat} {v : V} (hx : w.heap[xb]? = some (.cells #[.int .i64 v.1, .int .i64 v.2.1, .string v.2.2] 45 (0, 0))) : ∀ j u, (rep v 1)[j]? = some u → w.cell? ((⟨xb, 0, none⟩ : Addr).add j) = some u := by
  intro j u hu
  rw [Addr.add_lit]
  simp only [World.cell?, hx, Nat.zero_add]
  simpa [rep, enc3] using hu
set_option maxHeartbeats 2000000 in
set_option maxRecDepth 100000 in
theorem repeat_any (xb xc n : Nat) (v : V) (w : World) (h1 : 1 ≤ n) (h6 : n ≤ 6) (hx : w.heap[xb]? = some (.cells #[.int .i64 v.1, .int .i64 v.2.1, .string v.2.2] 45 (0, 0))) :
    Calls Tryz.prog 86 #[.slice (some ⟨xb, 0, none⟩) 1 xc, .int .i64 n] w fun e w' => ∃ v', e = .returned v' ∧ w'.ownsRow w.heap.size 45 3 v' n (rep v n) ∧ Below w.heap.size w w' := by
  obtain ⟨iV, hiV, hzV, hz1V, hz2V⟩ := info_parts E.info32
  have HM : Hid (∀ W, Calls Tryz.prog 116 #[.int .u64 1, .int .u64 n] W fun e w' => e = .returned (.tuple #[.int .u64 0, .int .u64 n]) ∧ w' = W) := fun W => mul_any n h1 h6 W
  have HX := mkH hx
  have hxl : xb < w.heap.size := by
    rcases Nat.lt_or_ge xb w.heap.size with h | h
    · exact h
    · rw [Array.getElem?_eq_none h] at hx; cases hx
  have hnn : ¬ (n : Int) < 0 := by omega
  clear hx
  go_enter Tryz.func86, Tryz.ntmps86
  go_wp2_with (first
    | (go_at_call 116; refine (HM.out _).mono ?_; rintro e w1 ⟨rfl, hw⟩; rw [hw]; clear hw)
    | (refine wpList_make_full _ rfl _ _ 57 rfl w.heap.size 45 iV (.agg #[.int .i64 0, .int .i64 0, .string ⟨#[]⟩]) 3 Tryz.underlying57 hiV hzV hz1V .i64 .i64 _ _ n rfl rfl rfl rfl (by rw [hz2V]; omega) (by unfold maxLen; omega) (Nat.le_refl _) ?_; intro w2 ho2 hg2; obtain ⟨cur2, hc2, hs2⟩ := made_row ho2; have HB2 : Hid (Below w.heap.size w w2) := (Below.refl _ w).grown hg2 (Nat.le_refl _) (fun j hj => by cases hj); have HX2 := mkH ((HB2.out.block xb hxl).trans HX.out); have HC2 := mkH (And.intro hc2 hs2); clear ho2 hg2 hc2 hs2)
    | (refine wpList_copy3 rfl _ _ rfl w.heap.size 0 n n ⟨xb, 0, none⟩ 1 xc rfl rfl cur2 45 HC2.out.1 (rep v 1) 1 (by simp [Nat.min_def]; omega) (by rw [rep_len]) (src_one HX2.out) (by rw [rep_len, HC2.out.2]; omega) (rep_one v 1) ?_; intro w3 hw3; have HR3 := mkH (copy_one HC2.out.1 HC2.out.2 HB2.out (Nat.le_refl _) h1 hw3); clear hw3))
  clear HC2 HX2 HB2
  go_loopw [8] (fun s8 wr => ∃ m : Nat, 1 ≤ m ∧ m ≤ n ∧ s8 = .int .i64 m ∧ Hid (Rw w w.heap.size n v m wr)) (fun s8 _ => n - (intOf s8).toNat)
  case atStart => exact ⟨1, Nat.le_refl _, h1, rfl, HR3⟩
  case round =>
    obtain ⟨m, hm1, hmn, rfl, HRW⟩ := hrel
    by_cases hlt : m < n
    · have hltz : (m : Int) < (n : Int) := by omega
      have hm0 : (0 : Int) ≤ (m : Int) := by omega
      have hne : ¬ n = m := by omega
      obtain ⟨cur, hg, hs, ht, hb⟩ := HRW.out
      obtain ⟨c, hc⟩ : ∃ c, c = Nat.min m (n - m) := ⟨_, rfl⟩
      have hcm : c ≤ m := by rw [hc]; exact Nat.min_le_left _ _
      have hcn : c ≤ n - m := by rw [hc]; exact Nat.min_le_right _ _
      have hc0 : 0 < c := by rw [hc]; simp [Nat.min_def]; split <;> omega
      have HK := mkH (And.intro hg (And.intro hs (And.intro ht hb)))
      have HCC := mkH hc
      clear hg hs ht hb HRW hc
      go_wp2
      have hrun := run_copy3 (P := Tryz.prog) wr.drew 57 57 3 45 w.heap.size (m * 3) (n - m) (n - m) ⟨w.heap.size, 0, none⟩ m n cur 45 (rep v c) c Tryz.underlying57 size45 HK.out.1 HCC.out (rep_len v c) (Rw.cells (w := wr.drew) HK.out.1 HK.out.2.2.1 hcm) (by rw [rep_len, HK.out.2.1]; omega) (rep_one v c)
      obtain ⟨w5, hw5⟩ : ∃ w5, w5 = wr.drew.setRow w.heap.size (cur.toList.take (m * 3) ++ rep v c ++ cur.toList.drop (m * 3 + (rep v c).length)).toArray := ⟨_, rfl⟩
      rw [← hw5] at hrun
      simp only [goInt] at hrun
      have HW5 := mkH hw5
      clear hw5
      go_region
      go_wp2
      go_roundw
      case rel => exact ⟨m + c, by omega, by omega, by simp, Rw.step (w := wr.drew) HK.out.1 HK.out.2.1 HK.out.2.2.1 HK.out.2.2.2.drew (Nat.le_refl _) rfl (by omega) HW5.out⟩
      case measure => simp [intOf]; omega
    · have hml : m = n := by omega
      subst hml
      go_wp2
      go_ret
      obtain ⟨cur, hg, hs, ht, hb⟩ := HRW.out
      exact ⟨_, rfl, ⟨rep_len v m, .inr ⟨w.heap.size, m, cur, rfl, Nat.le_refl _, hg, Nat.le_refl _, by unfold maxLen; omega, hs, ht⟩⟩, hb⟩

set_option maxRecDepth 100000 in
theorem defaults_any (n : Nat) (sv bv : Value) (sa ba : Option Addr) (sn sc bn bc : Nat) (c1 : Int) (c2 : ByteArray) (c3 : Int) (c4 : Bool) (c5 c6 : Int) (c7 : ByteArray) (w : World) (h1 : 1 ≤ n) (h6 : n ≤ 6) (es : sv = .slice sa sn sc) (eb : bv = .slice ba bn bc) :
    Calls Tryz.prog 59 #[.agg #[.int .i64 n, sv, bv], .agg #[.int .i64 c1, .string c2, .int .i64 c3, .bool c4, .int .i64 c5, .int .i64 c6, .string c7]] w fun e w' => ∃ v', e = .returned v' ∧ w'.ownsRow w.heap.size 45 3 v' n (rep (c5, c6, c7) n) ∧ Below w.heap.size w w' := by
  subst es eb
  have HR : Hid (∀ W xb xc, Below w.heap.size w W → W.heap[xb]? = some (.cells #[.int .i64 c5, .int .i64 c6, .string c7] 45 (0, 0)) → Calls Tryz.prog 86 #[.slice (some ⟨xb, 0, none⟩) 1 xc, .int .i64 n] W fun e w' => ∃ v', e = .returned v' ∧ w'.ownsRow w.heap.size 45 3 v' n (rep (c5, c6, c7) n) ∧ Below w.heap.size w w') := by
    intro W xb xc hb hx
    refine (repeat_any xb xc n (c5, c6, c7) W h1 h6 hx).mono ?_
    rintro e w' ⟨v', rfl, ho, hb'⟩
    exact ⟨v', rfl, E.ownsRow_base ho hb.size, ups hb hb'⟩
  obtain ⟨_, _, _, hZ, hB⟩ := three_new w (.cells #[.int .i64 n, .slice sa sn sc, .slice ba bn bc] 88) (.cells #[.int .i64 c1, .string c2, .int .i64 c3, .bool c4, .int .i64 c5, .int .i64 c6, .string c7] 47) (.cells #[.int .i64 c5, .int .i64 c6, .string c7] 45)
  have HR3 := mkH (HR.out _ (w.heap.size + 2) 1 hB hZ)
  clear hZ hB HR
  go_enter Tryz.func59, Tryz.ntmps59
  go_wp2_with (go_at_call 86; refine HR3.out.mono ?_; rintro e w1 ⟨v1, rfl, ho1, hb1⟩)
  go_ret
  exact ⟨_, rfl, ho1, hb1⟩

theorem posI_no {cols : List Col} {id : Int} (h : ¬ pos cols id < cols.length) : posI cols id = -1 := by unfold posI; rw [if_neg h]
set_option maxHeartbeats 2000000 in
set_option maxRecDepth 100000 in
theorem values_no (cv : Value) (ga : Option Addr) (gn gc : Nat) (cols : List Col) (n : Nat) (sa : Option Addr) (sn sc : Nat) (ba : Option Addr) (bn bc : Nat) (c1 : Int) (c2 : ByteArray) (c3 : Int) (c4 : Bool) (c5 c6 : Int) (c7 : ByteArray) (w : World)
    (hc : SlE 7 C.encC w cv cols) (h1 : 1 ≤ cols.length) (h8 : cols.length ≤ 8) (hp : ¬ pos cols c1 < cols.length) (hn1 : 1 ≤ n) (hn6 : n ≤ 6) :
    Calls Tryz.prog 53 #[.agg #[cv, .slice ga gn gc], .agg #[.int .i64 n, .slice sa sn sc, .slice ba bn bc], .agg #[.int .i64 c1, .string c2, .int .i64 c3, .bool c4, .int .i64 c5, .int .i64 c6, .string c7]] w
      fun e w' => ∃ v', e = .returned v' ∧ w'.ownsRow w.heap.size 45 3 v' n (rep (c5, c6, c7) n) ∧ Below w.heap.size w w' := by
  have HF := mkH (fun W hW => find_any cv (.slice ga gn gc) cols c1 c2 c3 c4 c5 c6 c7 W (hc.up hW) h1 h8)
  rw [posI_no hp] at HF
  obtain ⟨g, o, cc, rfl, hcc, hgb, hcell⟩ := hc.cons (by omega)
  obtain ⟨hs3, hX, hY, hZ, hB⟩ := three_new w (.cells #[.slice (some ⟨g, o, none⟩) cols.length cc, .slice ga gn gc] 29) (.cells #[.int .i64 n, .slice sa sn sc, .slice ba bn bc] 88) (.cells #[.int .i64 c1, .string c2, .int .i64 c3, .bool c4, .int .i64 c5, .int .i64 c6, .string c7] 47)
  have HF3 := mkH (HF.out _ hB)
  have HD : Hid (∀ W, Below w.heap.size w W → Calls Tryz.prog 59 #[.agg #[.int .i64 n, .slice sa sn sc, .slice ba bn bc], .agg #[.int .i64 c1, .string c2, .int .i64 c3, .bool c4, .int .i64 c5, .int .i64 c6, .string c7]] W fun e w' => ∃ v', e = .returned v' ∧ w'.ownsRow w.heap.size 45 3 v' n (rep (c5, c6, c7) n) ∧ Below w.heap.size w w') := by
    intro W hW
    refine (defaults_any n _ _ sa ba sn sc bn bc c1 c2 c3 c4 c5 c6 c7 W hn1 hn6 rfl rfl).mono ?_
    rintro e w' ⟨v', rfl, ho, hb'⟩
    exact ⟨v', rfl, E.ownsRow_base ho hW.size, ups hW hb'⟩
  obtain ⟨y0, y1, y2, _, _, _⟩ := row3 hY
  have HU := mkH (And.intro y0 (And.intro y1 (And.intro y2 hZ)))
  have HB := mkH hB
  clear hX hY hZ hB y0 y1 y2 hcell hs3 HF hc
  go_enter Tryz.func53, Tryz.ntmps53
  go_wp2_with fail
  refine HF3.out.mono ?_
  rintro e w1 ⟨rfl, hb1⟩
  have q0 := cell_up hb1 HU.out.1
  have q1 := cell_up hb1 HU.out.2.1
  have q2 := cell_up hb1 HU.out.2.2.1
  have z0 : w1.cell? ⟨w.heap.size + 1 + 1, 0, none⟩ = some (.int .i64 c1) := cell_up hb1 (by simp only [World.cell?, HU.out.2.2.2]; rfl)
  have z1 : w1.cell? ⟨w.heap.size + 1 + 1, 1, none⟩ = some (.string c2) := cell_up hb1 (by simp only [World.cell?, HU.out.2.2.2]; rfl)
  have z2 : w1.cell? ⟨w.heap.size + 1 + 1, 2, none⟩ = some (.int .i64 c3) := cell_up hb1 (by simp only [World.cell?, HU.out.2.2.2]; rfl)
  have z3 : w1.cell? ⟨w.heap.size + 1 + 1, 3, none⟩ = some (.bool c4) := cell_up hb1 (by simp only [World.cell?, HU.out.2.2.2]; rfl)
  have z4 : w1.cell? ⟨w.heap.size + 1 + 1, 4, none⟩ = some (.int .i64 c5) := cell_up hb1 (by simp only [World.cell?, HU.out.2.2.2]; rfl)
  have z5 : w1.cell? ⟨w.heap.size + 1 + 1, 5, none⟩ = some (.int .i64 c6) := cell_up hb1 (by simp only [World.cell?, HU.out.2.2.2]; rfl)
  have z6 : w1.cell? ⟨w.heap.size + 1 + 1, 6, none⟩ = some (.string c7) := cell_up hb1 (by simp only [World.cell?, HU.out.2.2.2]; rfl)
  have HBB := mkH (ups HB.out hb1)
  go_wp2_with (go_at_call 59; refine (HD.out _ HBB.out).mono ?_; rintro e w2 ⟨v2, rfl, ho2, hb2⟩)
  go_ret
  exact ⟨_, rfl, ho2, hb2⟩
end Go.Proofs.YtodemklghajdeaaGreatDoor

namespace Go.Proofs.YtodemklghajdeaaGreatDoor
open Go.RowKit Go.Proofs Go.Shelf Go.Joins

theorem valsOf_out {cols : List Col} {n : Nat} {st : List S.St} {bs : List (List UInt8)} {c : Col} (h : ¬ pos cols c.1 < cols.length) : valsOf cols (n, st, bs) c = List.replicate n (dfl c) := by
  unfold valsOf; rw [if_neg h]
theorem values_gen (cv : Value) (ga : Option Addr) (gn gc : Nat) (cols : List Col) (n : Nat) (sa : Option Addr) (sn sc : Nat) (ba : Option Addr) (bn bc : Nat) (st : List S.St) (bs : List (List UInt8)) (c1 : Int) (c2 : ByteArray) (c3 : Int) (c4 : Bool) (c5 c6 : Int) (c7 : ByteArray) (w : World)
    (hc : SlE 7 C.encC w cv cols) (hbv : SlE 1 encT w (.slice ba bn bc) bs) (h1 : 1 ≤ cols.length) (h8 : cols.length ≤ 8) (hbl : bs.length = cols.length) (hsz : ∀ b ∈ bs, b.length ≤ 1000000) (hn1 : 1 ≤ n) (hn6 : n ≤ 6) :
    Calls Tryz.prog 53 #[.agg #[cv, .slice ga gn gc], .agg #[.int .i64 n, .slice sa sn sc, .slice ba bn bc], .agg #[.int .i64 c1, .string c2, .int .i64 c3, .bool c4, .int .i64 c5, .int .i64 c6, .string c7]] w
      fun e w' => ∃ v', e = .returned v' ∧ w'.ownsRow w.heap.size 45 3 v' (valsOf cols (n, st, bs) (c1, c2, c3, c4, c5, c6, c7)).length (E.flatV (valsOf cols (n, st, bs) (c1, c2, c3, c4, c5, c6, c7))) ∧ Below w.heap.size w w' := by
  by_cases hp : pos cols c1 < cols.length
  · rw [valsOf_in (n := n) (st := st) (c := (c1, c2, c3, c4, c5, c6, c7)) hp]
    exact values_any cv ga gn gc cols n sa sn sc _ bs c1 c2 c3 c4 c5 c6 c7 w hc hbv h1 h8 hbl hp hsz
  · rw [valsOf_out (n := n) (st := st) (bs := bs) (c := (c1, c2, c3, c4, c5, c6, c7)) hp]
    refine (values_no cv ga gn gc cols n sa sn sc ba bn bc c1 c2 c3 c4 c5 c6 c7 w hc h1 h8 hp hn1 hn6).mono ?_
    rintro e w' ⟨v', rfl, ho, hb⟩
    refine ⟨v', rfl, ?_, hb⟩
    rw [List.length_replicate]
    exact ho

set_option maxHeartbeats 8000000 in
set_option maxRecDepth 100000 in
theorem read_gen (k : Nat) (cv gv lv : Value) (cols : List Col) (gs : List Grp) (g : Grp) (now : List Col) (w : World) (hF : FilAt w cv gv (cols, gs)) (hk : gs[k]? = some g) (hn : SlE 7 C.encC w lv now) (hn8 : now.length ≤ 8) (h1 : 1 ≤ cols.length) (h8 : cols.length ≤ 8)
    (hsz : ∀ b ∈ g.2.2, b.length ≤ 1000000) :
    Calls Tryz.prog 23 #[.agg #[cv, gv], .int .i64 k, lv] w (ReadPost (readG cols g now) w) := by
  obtain ⟨n, st, bs⟩ := g
  obtain ⟨hC, hG⟩ := hF
  have HA := mkH (fun W hW => at_any k cv gv cols gs (n, st, bs) W (hC.up hW) (hG.up hW) hk)
  have HC := mkH hC
  have HN := mkH hn
  obtain ⟨ga, gc, rfl, _⟩ := hG.slice
  obtain ⟨la, lc, rfl, _⟩ := hn.slice
  obtain ⟨ca, cc, rfl, _⟩ := hC.slice
  have hb0 : Below w.heap.size w (w.alloc (.cells #[.slice ca cols.length cc, .slice ga gs.length gc] 29)) := (Below.refl _ _).alloc (Nat.le_refl _) _
  have HA1 := mkH (HA.out _ hb0)
  have hX := heap_alloc_new w (.cells #[.slice ca cols.length cc, .slice ga gs.length gc] 29)
  obtain ⟨f0, f1⟩ := row2 hX
  have HF0 : Hid (∀ W, Below (w.alloc (.cells #[.slice ca cols.length cc, .slice ga gs.length gc] 29)).heap.size (w.alloc (.cells #[.slice ca cols.length cc, .slice ga gs.length gc] 29)) W → W.cell? ⟨w.heap.size, 0, none⟩ = some (.slice ca cols.length cc) ∧ W.cell? ⟨w.heap.size, 1, none⟩ = some (.slice ga gs.length gc)) := mkH (fun W hW => ⟨cell_up hW f0, cell_up hW f1⟩)
  have HB0 := mkH hb0
  clear hC hG hn HA hb0 hX f0 f1
  cases hw : wholeG cols (n, st, bs) with
  | false =>
    have HR : Hid (readG cols (n, st, bs) now = none) := mkH (by unfold readG; rw [hw]; rfl)
    simp only [hw] at HA1
    go_enter Tryz.func23, Tryz.ntmps23
    go_wp2_with fail
    refine HA1.out.mono ?_
    rintro e w1 ⟨sv, bv, rfl, hsv, hbv, hb1⟩
    obtain ⟨sa, sc, rfl, _⟩ := hsv.slice
    obtain ⟨ba, bc, rfl, _⟩ := hbv.slice
    clear hsv hbv
    go_wp2
    go_ret2
    rw [HR.out]
    exact ⟨rfl, (ups HB0.out hb1).alloc (ups HB0.out hb1).size _⟩
  | true =>
    simp only [hw] at HA1
    have hwp : st.length = cols.length ∧ bs.length = cols.length ∧ 1 ≤ n ∧ n ≤ 6 := by simpa [wholeG] using hw
    obtain ⟨hst, hbl, hn1, hn6⟩ := hwp
    have HBL := mkH hbl
    have HW := mkH hw
    have HSZ := mkH hsz
    obtain ⟨iS, hiS, hzS, hz1S, hz2S⟩ := info_parts infoSl
    have HIS := mkH (And.intro hiS (And.intro hzS (And.intro hz1S hz2S)))
    obtain ⟨iV, hiV, hzV, hz1V, hz2V⟩ := info_parts E.info32
    have HIV := mkH (And.intro hiV (And.intro hzV (And.intro hz1V hz2V)))
    clear hw hsz hbl hst hiS hzS hz1S hz2S hiV hzV hz1V hz2V hk
    go_enter Tryz.func23, Tryz.ntmps23
    go_wp2_with fail
    refine HA1.out.mono ?_
    rintro e w1 ⟨sv, bv, rfl, hsv, hbv, hb1⟩
    have HBV := mkH (hbv.up hb1)
    obtain ⟨sa, sc, rfl, _⟩ := hsv.slice
    obtain ⟨ba, bc, rfl, _⟩ := hbv.slice
    clear hsv hbv
    have hnn : ¬ (n : Int) < 0 := by omega
    have hs1 := hb1.size
    simp only [World.size_alloc] at hs1
    go_wp2_with (refine wpList_make_full _ rfl _ _ 23 rfl (w1.heap.size + 1) 57 iS (.slice none 0 0) 1 Tryz.underlying23 HIS.out.1 HIS.out.2.1 HIS.out.2.2.1 .i64 .i64 _ _ n rfl rfl rfl rfl ?m1 ?m2 ?m3 ?_)
    case m1 => rw [HIS.out.2.2.2]; omega
    case m2 => unfold maxLen; omega
    case m3 => simp
    intro w3 ho3 hg3
    have hG0 := heap_alloc_new w1 (.cells #[.int .i64 n, .slice sa st.length sc, .slice ba bs.length bc] 88)
    obtain ⟨g0, g1, g2, _, _, _⟩ := row3 hG0
    have hb23 : Below (w1.heap.size + 1) (w1.alloc (.cells #[.int .i64 n, .slice sa st.length sc, .slice ba bs.length bc] 88)) w3 := ⟨hg3.os, hg3.tape, hg3.output, hg3.size, fun k hk => hg3.block k (by simp; omega) (by simp)⟩
    have hb02 : Below w.heap.size w (w1.alloc (.cells #[.int .i64 n, .slice sa st.length sc, .slice ba bs.length bc] 88)) := (ups HB0.out hb1).alloc (ups HB0.out hb1).size _
    have hb12 : Below w1.heap.size w1 (w1.alloc (.cells #[.int .i64 n, .slice sa st.length sc, .slice ba bs.length bc] 88)) := (Below.refl _ _).alloc (Nat.le_refl _) _
    have HKB : Hid (∀ W, Below (w1.heap.size + 1) w3 W → (W.cell? ⟨w.heap.size, 0, none⟩ = some (.slice ca cols.length cc) ∧ W.cell? ⟨w.heap.size, 1, none⟩ = some (.slice ga gs.length gc)) ∧ (W.cell? ⟨w1.heap.size, 0, none⟩ = some (.int .i64 n) ∧ W.cell? ⟨w1.heap.size, 1, none⟩ = some (.slice sa st.length sc) ∧ W.cell? ⟨w1.heap.size, 2, none⟩ = some (.slice ba bs.length bc)) ∧ SlE 7 C.encC W (.slice ca cols.length cc) cols ∧ SlE 7 C.encC W (.slice la now.length lc) now ∧ SlE 1 encT W (.slice ba bs.length bc) bs ∧ Below w.heap.size w W) := mkH (fun W hW => by
      have hbW : Below (w1.alloc (.cells #[.int .i64 n, .slice sa st.length sc, .slice ba bs.length bc] 88)).heap.size (w1.alloc (.cells #[.int .i64 n, .slice sa st.length sc, .slice ba bs.length bc] 88)) W := by
        rw [World.size_alloc]; exact hb23.trans hW
      exact ⟨HF0.out W (ups (ups hb1 hb12) hbW), ⟨cell_up hbW g0, cell_up hbW g1, cell_up hbW g2⟩, HC.out.up (ups hb02 hbW), HN.out.up (ups hb02 hbW), HBV.out.up (ups hb12 hbW), ups hb02 hbW⟩)
    have HO3 : Hid (RI (w1.heap.size + 1) (w1.heap.size + 1) w3 (List.replicate n (.slice none 0 0)) (mixR (valsOf cols (n, st, bs)) now n 0 0)) := mkH (by
      rw [mixR_zero]
      refine RI_made ?_
      rw [← madeSl]
      exact ho3)
    clear ho3 hg3 hG0 g0 g1 g2 hb23 hb02 hb12 HF0 HC HN HBV HB0 HA1 hs1
    generalize hR : w1.heap.size = gb at *
    clear hR hb1
    go_wp2
    go_loopw [30] (fun vi wr => ∃ j : Nat, j ≤ now.length ∧ vi = .int .i64 j ∧ Hid (∀ c ∈ now.take j, (valsOf cols (n, st, bs) c).length = n) ∧ (∃ vs, Hid (RI (gb + 1) (gb + 1) wr vs (mixR (valsOf cols (n, st, bs)) now n j 0))) ∧ Hid (Below (gb + 1) w3 wr)) (fun vi _ => now.length - (intOf vi).toNat)
    case atStart => exact ⟨0, Nat.zero_le _, rfl, mkH (by simp), ⟨_, HO3⟩, mkH (Below.refl _ _)⟩
    case round =>
      obtain ⟨j, hj, rfl, hall, ⟨vs, hRI⟩, hbR⟩ := hrel
      by_cases hlt : j < now.length
      · obtain ⟨⟨c1, c2, c3, c4, c5, c6, c7⟩, hc⟩ : ∃ c, now[j]? = some c := ⟨_, List.getElem?_eq_getElem hlt⟩
        obtain ⟨⟨f0, f1⟩, ⟨g0, g1, g2⟩, hCw, hNw, hBw, hbw⟩ := HKB.out wr hbR.out
        obtain ⟨lb, lo, lc', el, _, hlb, hlcell⟩ := hNw.cons (by omega)
        injection el with el1 _ el2
        subst el1 el2
        obtain ⟨q0, q1, q2, q3, q4, q5, q6⟩ := cells7 hlcell hc
        have hbX : Below wr.heap.size wr (wr.alloc (.cells #[.int .i64 c1, .string c2, .int .i64 c3, .bool c4, .int .i64 c5, .int .i64 c6, .string c7] 47)) := (Below.refl _ _).alloc (Nat.le_refl _) _
        replace f0 := cell_up hbX f0
        replace f1 := cell_up hbX f1
        replace g0 := cell_up hbX g0
        replace g1 := cell_up hbX g1
        replace g2 := cell_up hbX g2
        have HV := mkH (values_gen (.slice ca cols.length cc) ga gs.length gc cols n sa st.length sc ba bs.length bc st bs c1 c2 c3 c4 c5 c6 c7 _ (hCw.up hbX) (hBw.up hbX) h1 h8 HBL.out HSZ.out hn1 hn6)
        have HMEM := mkH (List.mem_of_getElem? hc)
        have HCJ := mkH hc
        have hlti : (j : Int) < (now.length : Int) := by omega
        have HLN : Hid (valsOf cols (n, st, bs) (c1, c2, c3, c4, c5, c6, c7) = valsOf cols (n, st, bs) (c1, c2, c3, c4, c5, c6, c7)) := mkH rfl
        generalize hL : valsOf cols (n, st, bs) (c1, c2, c3, c4, c5, c6, c7) = L at HV
        have HL := mkH hL
        clear hL HLN hCw hNw hBw hlcell hc
        by_cases hlen : L.length = n
        · rw [hlen] at HV
          have HLEN := mkH hlen
          clear hlen
          go_wp2_with fail
          refine HV.out.mono ?_
          rintro e w5 ⟨v5, rfl, ho5, hb5⟩
          obtain ⟨va, vc, rfl, hvc⟩ := E.ownsRow_slice ho5
          have hs5 := hb5.size
          simp only [World.size_alloc] at hs5
          have hgr := (hRI.out.row.lt (gb + 1) rfl).2
          have HAP : Hid (Apt (.slice va n vc) vs) := mkH (fun i u hu q hq hv => by
            obtain ⟨m, hm⟩ : ∃ m, (mixR (valsOf cols (n, st, bs)) now n j 0)[i]? = some m := ⟨_, List.getElem?_eq_getElem (by rw [← hRI.out.len]; exact lt_of_some hu)⟩
            have a1 := ((hRI.out.each i u m hu hm).lt q hq).2
            have a2 := (ho5.lt q hv).1
            simp only [World.size_alloc] at a2
            omega)
          have HRI5 := mkH (hRI.out.kept (ups hbX hb5))
          have HB35 := mkH (hbR.out.trans ((ups hbX hb5).mono (Nat.le_of_lt hgr)))
          have HO5 : Hid (w5.ownsRow (wr.heap.size + 1) 45 3 (.slice va n vc) n (E.flatV L)) := mkH (by simpa only [World.size_alloc] using ho5)
          clear ho5 hb5 hbX f0 f1 g0 g1 g2 q0 q1 q2 q3 q4 q5 q6 hbw
          go_wp2
          go_loopw [46] (fun vi wi => ∃ i : Nat, i ≤ n ∧ vi = .int .i64 i ∧ (∃ us, Hid (RI (gb + 1) (gb + 1) wi us (mixR (valsOf cols (n, st, bs)) now n j i)) ∧ Hid (Apt (.slice va n vc) us)) ∧ Hid (wi.ownsRow (wr.heap.size + 1) 45 3 (.slice va n vc) n (E.flatV L)) ∧ Hid (Below (gb + 1) w3 wi)) (fun vi _ => n - (intOf vi).toNat)
          case atStart => exact ⟨0, Nat.zero_le _, rfl, ⟨vs, HRI5, HAP⟩, HO5, HB35⟩
          case round =>
            obtain ⟨i, hi, rfl, ⟨us, hRI', hAp⟩, hO5, hb5⟩ := hrel
            by_cases hlt2 : i < n
            · have hat' := mixR_at (valsOf cols (n, st, bs)) now (j := j) hlt2
              obtain ⟨l, hl⟩ : ∃ l, (mixR (valsOf cols (n, st, bs)) now n j i)[i]? = some l := ⟨_, hat'⟩
              have HLE : Hid (l = (now.take j).map fun c => (valsOf cols (n, st, bs) c)[i]?.getD zV) := mkH (by rw [hl] at hat'; injection hat')
              have hll : l.length ≤ 8 := by rw [HLE.out]; simp; omega
              obtain ⟨v, hv⟩ : ∃ v, us[i]? = some v := ⟨_, List.getElem?_eq_getElem (by rw [hRI'.out.len, mixR_len]; exact hlt2)⟩
              obtain ⟨s0, s1, s2, s3, a, c, rfl⟩ := hRI'.out.slots hv hl
              have HROW := mkH (hRI'.out.each i _ l hv hl)
              obtain ⟨q, cap, e5, hq1, hq2⟩ := hO5.out.form (by omega)
              injection e5 with e51 _ e52
              subst e51 e52
              obtain ⟨⟨kx, nx, tx⟩, hx⟩ := E.getEx (l := L) (k := i) (by rw [HLEN.out]; exact hlt2)
              obtain ⟨t0, t1, t2⟩ := E.flatV_at hx
              have y0 : wr.cell? ⟨q, i * 3, none⟩ = some (.int .i64 kx) := (hO5.out.cellAt _ (by omega)).trans t0
              have y1 : wr.cell? ⟨q, i * 3 + 1, none⟩ = some (.int .i64 nx) := (hO5.out.cellAt _ (by omega)).trans t1
              have y2 : wr.cell? ⟨q, i * 3 + 2, none⟩ = some (.string tx) := (hO5.out.cellAt _ (by omega)).trans t2
              have HX := mkH hx
              have HV' := mkH hv
              have HL' := mkH hl
              have hin : (i : Int) < (n : Int) := by omega
              have hwr := hb5.out.size
              clear t0 t1 t2 hx hv hl hat'
              have hbb : Below wr.heap.size wr (wr.alloc (.cells #[.int .i64 kx, .int .i64 nx, .string tx] 45)) := (Below.refl _ _).alloc (Nat.le_refl _) _
              have HRIb := mkH (hRI'.out.kept hbb)
              obtain ⟨x0, x1, x2⟩ := E.cell_box (heap_alloc_new wr (.cells #[.int .i64 kx, .int .i64 nx, .string tx] 45))
              have HO5b := mkH (E.ownsRow_up hO5.out hbb)
              have HB5b := mkH (hb5.out.trans (hbb.mono (Nat.le_of_lt s2)))
              have hxb : wr.heap.size < (wr.alloc (.cells #[.int .i64 kx, .int .i64 nx, .string tx] 45)).heap.size := by simp
              have HNE := mkH (hRI'.out.ne HV'.out HL'.out)
              have HLT : Hid (∀ q, (Value.slice a l.length c).ownBlock = some q → q < wr.heap.size) := mkH (fun q hq => (HROW.out.lt q hq).2)
              go_wp2_with fail
              replace s0 := cell_up hbb s0
              replace s1 := (hbb.frozen (p := ⟨gb + 1, i, none⟩) s2).trans s1
              replace s2 : gb + 1 < (wr.alloc (.cells #[.int .i64 kx, .int .i64 nx, .string tx] 45)).heap.size := by simp; omega
              clear hbb y0 y1 y2 HROW hRI' hO5 hb5 hq1
              generalize wr.alloc (.cells #[.int .i64 kx, .int .i64 nx, .string tx] 45) = Wb at *
              generalize wr.heap.size = xb at *
              have HBW : Hid (∀ Y, Below Wb.heap.size Wb (Wb.drew.alloc Y)) := mkH (fun Y => (Below.refl _ _).drew.alloc (Nat.le_refl _) _)
              have HROWb := mkH (HRIb.out.each i _ l HV'.out HL'.out)
              have hn1 : Wb.heap.size ≠ gb + 1 := by omega
              have hn2 : Wb.heap.size ≠ xb := by omega
              go_region_law
                (first
                  | (refine step_append_lies _ (by rfl) (.tmp 56) (.tmp 58) 57 (by rfl) (gb + 1) 45 iV (.agg #[.int .i64 0, .int .i64 0, .string ⟨#[]⟩]) 3 32 Tryz.underlying57 HIV.out.1 HIV.out.2.1 HIV.out.2.2.1 HIV.out.2.2.2 rfl (by decide) (.slice a l.length c) l.length (E.flatV l) (by rfl) (E.ownsRow_up HROWb.out (HBW.out _)) ⟨Wb.heap.size, 0, none⟩ 1 1 [.int .i64 kx, .int .i64 nx, .string tx] (by rfl) rfl (fun j u hj => World.news_of_block (heap_alloc_new _ _) j u hj) (E.flatV_one [(kx, nx, tx)]) (by omega) (by unfold maxLen; omega) (by omega) (by simp; omega) _ rfl ?_
                     intro g cap w6 ho6 hg6 hat6 hlt6
                     have p0 := (hg6.cell_far ⟨gb + 1, i, none⟩ (by simp; omega) HNE.out).trans (cell_up (HBW.out _) s0)
                     have p1 := (hg6.cell_far ⟨xb, 0, none⟩ (by simp; omega) (fun e => Nat.lt_irrefl _ (HLT.out _ e.symm))).trans (cell_up (HBW.out _) x0)
                     have p2 := (hg6.cell_far ⟨xb, 1, none⟩ (by simp; omega) (fun e => Nat.lt_irrefl _ (HLT.out _ e.symm))).trans (cell_up (HBW.out _) x1)
                     have p3 := (hg6.cell_far ⟨xb, 2, none⟩ (by simp; omega) (fun e => Nat.lt_irrefl _ (HLT.out _ e.symm))).trans (cell_up (HBW.out _) x2)
                     have p4 := (hg6.frozen_far ⟨gb + 1, i, none⟩ (by simp; omega) HNE.out).trans (((HBW.out _).frozen (p := ⟨gb + 1, i, none⟩) s2).trans s1))
                  | fail)
              all_goals
                go_wp2
                have hst := (HRIb.out.kept (HBW.out (.cells #[.int .i64 kx, .int .i64 nx, .string tx] 45))).step (x := (kx, nx, tx)) HV'.out HL'.out ho6 hg6 (hat6.imp_right (fun e => Nat.le_of_eq e.symm))
                have hmx := mixR_set (valsOf cols (n, st, bs)) (x := (kx, nx, tx)) hlt2 HCJ.out (by rw [HL.out]; exact HX.out)
                rw [← HLE.out] at hmx
                rw [hmx] at hst
                have hq0 := (HO5b.out.lt q rfl).1
                have ho7 := ((E.ownsRow_up HO5b.out (HBW.out (.cells #[.int .i64 kx, .int .i64 nx, .string tx] 45))).kept hg6 (.inr (fun e => hAp.out i _ HV'.out q e.symm rfl))).kept (E.grown_set w6 (gb + 1) i (.slice (some ⟨g, 0, none⟩) (l.length + 1) cap)) (.inr (fun e => by simp [Value.ownBlock] at e; omega))
                have hb7 := (E.below_grown_own (HB5b.out.trans ((HBW.out (.cells #[.int .i64 kx, .int .i64 nx, .string tx] 45)).mono (Nat.le_of_lt s2))) (E.ownsRow_up HROWb.out (HBW.out _)) hg6 (by simp; omega)).setCell (p := ⟨gb + 1, i, none⟩) (Nat.le_refl _) (.slice (some ⟨g, 0, none⟩) (l.length + 1) cap)
                exact ⟨⟨i + 1, by omega, by go_num, ⟨_, mkH hst, mkH (hAp.out.step (H := Wb.heap.size + 1) HV'.out (hat6.imp_right (fun e => by rw [e]; simp)) (fun q' e => by simp [Value.ownBlock] at e; omega))⟩, mkH ho7, mkH hb7⟩, by simp [intOf]; omega⟩
            · have hin : ¬ (i : Int) < (n : Int) := by omega
              have ei : i = n := by omega
              have HRn : Hid (RI (gb + 1) (gb + 1) wr us (mixR (valsOf cols (n, st, bs)) now n (j + 1) 0)) := mkH (by rw [← mixR_next, ← ei]; rw [ei] at hRI' ⊢; exact hRI'.out)
              have HALL : Hid (∀ c ∈ now.take (j + 1), (valsOf cols (n, st, bs) c).length = n) := mkH (by
                intro c hc
                rw [E.take_next HCJ.out, List.mem_append, List.mem_singleton] at hc
                rcases hc with hc | rfl
                · exact hall.out c hc
                · rw [HL.out]; exact HLEN.out)
              clear ei
              go_wp2
              exact ⟨⟨j + 1, by omega, by go_num, HALL, ⟨us, HRn⟩, hb5⟩, by simp [intOf]; omega⟩
        · have hneq : ((L.length : Int) == (n : Int)) = false := by simp; omega
          have HR : Hid (readG cols (n, st, bs) now = none) := mkH (readG_no HMEM.out (by rw [HL.out]; exact hlen))
          clear hlen
          go_wp2_with fail
          refine HV.out.mono ?_
          rintro e w5 ⟨v5, rfl, ho5, hb5⟩
          obtain ⟨va, vc, rfl, hvc⟩ := E.ownsRow_slice ho5
          have hbf := ups (ups hbw hbX) hb5
          clear ho5
          go_wp2
          go_ret2
          rw [HR.out]
          exact ⟨rfl, hbf⟩
      · have hlti : ¬ (j : Int) < (now.length : Int) := by omega
        have ej : j = now.length := by omega
        have HR : Hid (readG cols (n, st, bs) now = some (rowsBy cols (n, st, bs) now)) := mkH (readG_yes HW.out (fun c hc => by
          rw [ej, List.take_length] at hall
          exact hall.out c hc))
        have HRW : Hid (SlO 0 wr (.slice (some ⟨gb + 1, 0, none⟩) n n) (rowsBy cols (n, st, bs) now)) := mkH (by
          have hm := mixR_all cols (n, st, bs) now
          simp only at hm
          rw [← hm]
          have h3 := hRI.out
          rw [ej] at h3
          have h4 := h3.owned
          rwa [mixR_len] at h4)
        have hbw := (HKB.out wr hbR.out).2.2.2.2.2
        clear ej
        go_wp2
        go_ret2
        rw [HR.out]
        exact ⟨_, rfl, HRW.out, hbw⟩

set_option maxHeartbeats 4000000 in
set_option maxRecDepth 100000 in
theorem all_gen (cv gv lv : Value) (cols : List Col) (gs : List Grp) (now : List Col) (w : World) (hF : FilAt w cv gv (cols, gs)) (hn : SlE 7 C.encC w lv now) (hn8 : now.length ≤ 8) (h1 : 1 ≤ cols.length) (h8 : cols.length ≤ 8)
    (hsz : ∀ g ∈ gs, ∀ b ∈ g.2.2, b.length ≤ 1000000) (hgl : gs.length ≤ 60) :
    Calls Tryz.prog 13 #[.agg #[cv, gv], lv] w (AllPost (allGo cols now [] gs) w) := by
  have HR := mkH (fun W (hW : Below w.heap.size w W) (k : Nat) g (hk : gs[k]? = some g) => read_gen k cv gv lv cols gs g now W (hF.up hW) hk (hn.up hW) hn8 h1 h8 (hsz g (List.mem_of_getElem? hk)))
  obtain ⟨hC, hG⟩ := hF
  obtain ⟨ga, gc, rfl, _⟩ := hG.slice
  obtain ⟨la, lc, rfl, _⟩ := hn.slice
  obtain ⟨ca, cc, rfl, _⟩ := hC.slice
  have hb0 : Below w.heap.size w (w.alloc (.cells #[.slice ca cols.length cc, .slice ga gs.length gc] 29)) := (Below.refl _ _).alloc (Nat.le_refl _) _
  obtain ⟨f0, f1⟩ := row2 (heap_alloc_new w (.cells #[.slice ca cols.length cc, .slice ga gs.length gc] 29))
  have HF0 : Hid (∀ W, Below (w.heap.size + 1) (w.alloc (.cells #[.slice ca cols.length cc, .slice ga gs.length gc] 29)) W → W.cell? ⟨w.heap.size, 0, none⟩ = some (.slice ca cols.length cc) ∧ W.cell? ⟨w.heap.size, 1, none⟩ = some (.slice ga gs.length gc) ∧ Below w.heap.size w W) := mkH (fun W hW => by
    have hW' : Below (w.alloc (.cells #[.slice ca cols.length cc, .slice ga gs.length gc] 29)).heap.size (w.alloc (.cells #[.slice ca cols.length cc, .slice ga gs.length gc] 29)) W := by rw [World.size_alloc]; exact hW
    exact ⟨cell_up hW' f0, cell_up hW' f1, ups hb0 hW'⟩)
  obtain ⟨iS, hiS, hzS, hz1S, hz2S⟩ := info_parts infoSl
  have HIS := mkH (And.intro hiS (And.intro hzS (And.intro hz1S hz2S)))
  clear hC hG hn hsz f0 f1 hiS hzS hz1S hz2S hb0 h1 h8 hn8
  go_enter Tryz.func13, Tryz.ntmps13
  go_wp2
  go_loopw [6, 13] (fun vo vi wr => ∃ (k : Nat) (acc : List (List V)), k ≤ gs.length ∧ vi = .int .i64 k ∧ acc.length ≤ 6 * k ∧ Hid (allGo cols now [] gs = allGo cols now acc (gs.drop k)) ∧ Hid (SlO (w.heap.size + 1) wr vo acc) ∧ Hid (Below (w.heap.size + 1) (w.alloc (.cells #[.slice ca cols.length cc, .slice ga gs.length gc] 29)) wr)) (fun _ vi _ => gs.length - (intOf vi).toNat)
  case atStart => exact ⟨0, [], Nat.zero_le _, rfl, by simp, mkH rfl, mkH (SlO_nil _ _), mkH (Below.refl _ _)⟩
  case round =>
    obtain ⟨k, acc, hk, rfl, hacc, hgo, hso, hbR⟩ := hrel
    obtain ⟨q0, q1, hbw⟩ := HF0.out wr hbR.out
    have hszr := hbR.out.size
    simp only [World.size_alloc] at hszr
    by_cases hlt : k < gs.length
    · obtain ⟨g, hg⟩ : ∃ g, gs[k]? = some g := ⟨_, List.getElem?_eq_getElem hlt⟩
      have HRk := mkH (HR.out wr hbw k g hg)
      have HGO : Hid (allGo cols now [] gs = allGo cols now acc (g :: gs.drop (k + 1))) := mkH (by rw [hgo.out, List.drop_eq_getElem_cons hlt]; rw [List.getElem?_eq_getElem hlt] at hg; injection hg with hg; rw [hg])
      have hkl : (k : Int) < (gs.length : Int) := by omega
      obtain ⟨vs, hv1, hv2, hv3⟩ := hso.out
      obtain ⟨oa, oc, rfl, _⟩ := E.ownsRow_slice hv2
      have HVS := mkH (And.intro hv1 (And.intro hv2 hv3))
      clear hg hgo hv1 hv2 hv3 hso
      cases hr : readG cols g now with
      | none =>
        rw [hr] at HRk
        have HE : Hid (allGo cols now [] gs = none) := mkH (by rw [HGO.out, allGo_none hr])
        clear hr
        go_wp2_with fail
        refine HRk.out.mono ?_
        rintro e w1 ⟨rfl, hb1⟩
        go_wp2
        go_ret2
        rw [HE.out]
        exact ⟨rfl, ups hbw hb1⟩
      | some r =>
        rw [hr] at HRk
        obtain ⟨hrl, hr6⟩ := readG_len hr
        have hrl6 : r.length ≤ 6 := by omega
        have HE : Hid (allGo cols now [] gs = allGo cols now (acc ++ r) (gs.drop (k + 1))) := mkH (by rw [HGO.out, allGo_some hr])
        clear hr hrl hr6
        go_wp2_with fail
        refine HRk.out.mono ?_
        rintro e w1 ⟨v1, rfl, ⟨us, hu1, hu2, hu3⟩, hb1⟩
        obtain ⟨ra, rc, rfl, _⟩ := E.ownsRow_slice hu2
        have HUS := mkH (And.intro hu1 (And.intro hu2 hu3))
        have HV2 := mkH (E.ownsRow_up HVS.out.2.1 hb1)
        have hs1 := hb1.size
        clear hu1 hu2 hu3
        go_wp2_with (at_builtin; refine E.wpList_append_row rfl _ _ 23 rfl (w.heap.size + 1) 57 iS (.slice none 0 0) 1 24 Tryz.underlying23 HIS.out.1 HIS.out.2.1 HIS.out.2.2.1 HIS.out.2.2.2 rfl (by decide) _ _ _ rfl HV2.out _ _ _ _ rfl HUS.out.2.1 (SlO.one HUS.out.1 HUS.out.2.2) ?f1 ?f2 ?f3 ?_)
        case f1 => unfold maxLen; omega
        case f2 => omega
        case f3 => omega
        intro v2 w2 ho2 hg2
        have hso2 := SlO.app HVS.out.1 HUS.out.1 HV2.out (fun j x r hx hr => E.ownsRow_up (HVS.out.2.2 j x r hx hr) hb1) HUS.out.2.2 ho2 hg2
        have hb2 := E.below_grown_own (hbR.out.trans (hb1.mono hszr)) HV2.out hg2 (by omega)
        go_wp2
        exact ⟨⟨k + 1, acc ++ r, by omega, by go_num, by simp; omega, HE, mkH hso2, mkH hb2⟩, by simp [intOf]; omega⟩
    · have ek : k = gs.length := by omega
      subst ek
      have HE : Hid (allGo cols now [] gs = some acc) := mkH (by rw [hgo.out, List.drop_length]; rfl)
      obtain ⟨vs, hv1, hv2, hv3⟩ := hso.out
      obtain ⟨oa, oc, rfl, _⟩ := E.ownsRow_slice hv2
      have HS0 : Hid (SlO 0 wr (.slice oa acc.length oc) acc) := mkH ⟨vs, hv1, E.ownsRow_base hv2 (Nat.zero_le _), hv3⟩
      clear hv1 hv2 hv3 hso
      go_wp2
      go_ret2
      rw [HE.out]
      exact ⟨_, rfl, HS0.out, hbw⟩
end Go.Proofs.YtodemklghajdeaaGreatDoor

namespace Go.Proofs.YtodemklghajdeaaGreatDoor
open Go.RowKit Go.Proofs Go.Shelf Go.Joins

theorem s7c {W : World} {b : Nat} {v0 v1 v2 v3 v4 v5 v6 : Value} (h : W.heap[b]? = some (.cells #[v0, v1, v2, v3, v4, v5, v6] 47)) : W.cell? ⟨b, 0, none⟩ = some v0 := by
  simp [World.cell?, h]

set_option maxHeartbeats 1000000 in
set_option maxRecDepth 100000 in
theorem olderF_any (id : Int) (B K g o n c k : Nat) (w : World) (hB : B < w.heap.size) (hK : K < w.heap.size) (hg : g < w.heap.size) (hcB : w.cell? ⟨B, 0, none⟩ = some (.slice (some ⟨g, o, none⟩) n c)) (hcK : w.cell? ⟨K, 0, none⟩ = some (.int .i64 k)) (hk : k < n) (hid : w.cell? ⟨g, o + k * 7, none⟩ = some (.int .i64 id)) :
    PredBelow Tryz.prog 20 #[.pointer (some ⟨B, 0, none⟩), .pointer (some ⟨K, 0, none⟩)] (fun x : Col => .agg (C.encC x).toArray) (fun c => c.1 == id) w := fun W x hb => by
  have hc : W.cell? ⟨B, 0, none⟩ = some (.slice (some ⟨g, o, none⟩) n c) := (hb.cell (p := ⟨B, 0, none⟩) hB).trans hcB
  have hc2 : W.cell? ⟨K, 0, none⟩ = some (.int .i64 k) := (hb.cell (p := ⟨K, 0, none⟩) hK).trans hcK
  have hc3 : W.cell? ⟨g, o + k * 7, none⟩ = some (.int .i64 id) := (hb.cell (p := ⟨g, o + k * 7, none⟩) hg).trans hid
  have hBW : B < W.heap.size := Nat.lt_of_lt_of_le hB hb.size
  have hKW : K < W.heap.size := Nat.lt_of_lt_of_le hK hb.size
  have hgW : g < W.heap.size := Nat.lt_of_lt_of_le hg hb.size
  have hne : B ≠ W.heap.size := by omega
  have hne2 : K ≠ W.heap.size := by omega
  have hne3 : g ≠ W.heap.size := by omega
  have hkz : (k : Int) < (n : Int) := by omega
  have hk0 : (0 : Int) ≤ (k : Int) := by omega
  obtain ⟨c1, c2, c3, c4, c5, c6, c7⟩ := x
  show Calls Tryz.prog 20 #[.agg #[.int .i64 c1, .string c2, .int .i64 c3, .bool c4, .int .i64 c5, .int .i64 c6, .string c7], .pointer (some ⟨B, 0, none⟩), .pointer (some ⟨K, 0, none⟩)] W _
  clear hk hcB hcK hid
  go_enter Tryz.func20, Tryz.ntmps20
  go_wp2
  have hbA : Below w.heap.size w (W.alloc (.cells #[.int .i64 c1, .string c2, .int .i64 c3, .bool c4, .int .i64 c5, .int .i64 c6, .string c7] 47)) := hb.alloc hb.size _
  have hbW : Below W.heap.size W (W.alloc (.cells #[.int .i64 c1, .string c2, .int .i64 c3, .bool c4, .int .i64 c5, .int .i64 c6, .string c7] 47)) := (Below.refl _ _).alloc (Nat.le_refl _) _
  have d0 := (s7c (heap_alloc_new W (.cells #[.int .i64 c1, .string c2, .int .i64 c3, .bool c4, .int .i64 c5, .int .i64 c6, .string c7] 47)))
  have d1 := (hbW.cell (p := ⟨B, 0, none⟩) hBW).trans hc
  have d2 := (hbW.cell (p := ⟨K, 0, none⟩) hKW).trans hc2
  have d3 := (hbW.cell (p := ⟨g, o + k * 7, none⟩) hgW).trans hc3
  clear hc hc2 hc3 hbW hb
  generalize W.alloc (.cells #[.int .i64 c1, .string c2, .int .i64 c3, .bool c4, .int .i64 c5, .int .i64 c6, .string c7] 47) = wA at *
  go_region
  go_wp2
  go_ret
  exact ⟨rfl, hbA.drew⟩

set_option maxHeartbeats 1000000 in
set_option maxRecDepth 100000 in
theorem olderIdx (B K g o n c k : Nat) (id : Int) (g0 o0 c0 : Nat) (l : List Col) (w : World) (hl : C.SlC w g0 o0 l) (h8 : l.length ≤ 8) (hB : B < w.heap.size) (hK : K < w.heap.size) (hg : g < w.heap.size) (hcB : w.cell? ⟨B, 0, none⟩ = some (.slice (some ⟨g, o, none⟩) n c)) (hcK : w.cell? ⟨K, 0, none⟩ = some (.int .i64 k)) (hk : k < n) (hid : w.cell? ⟨g, o + k * 7, none⟩ = some (.int .i64 id)) :
    Calls Tryz.prog 19 #[.slice (some ⟨g0, o0, none⟩) l.length c0, .func (.func 20) #[] #[.pointer (some ⟨B, 0, none⟩), .pointer (some ⟨K, 0, none⟩)]] w fun e w' => e = .returned (.int .i64 (posI l id)) ∧ Below w.heap.size w w' := by
  have eg : ∀ args w, (callFunc 20 args).run Tryz.prog w = .ok (.enter 20 args) w := enters_of Tryz.func20 (by kernel_rfl) rfl
  have hcon := AnyQ.slices_IndexFunc Tryz.layIdx 7 Tryz.isAgg47 Tryz.sizeOf47 C.encC C.encC_len (fun c => c.1 == id) 20 #[.pointer (some ⟨B, 0, none⟩), .pointer (some ⟨K, 0, none⟩)] eg g0 o0 l.length c0 l w
    (olderF_any id B K g o n c k w hB hK hg hcB hcK hk hid) (Nat.le_refl _) (by omega) hl.1 hl.2
  rw [List.take_length] at hcon
  change Calls Tryz.prog 19 _ _ (fun e w' => e = .returned (.int .i64 (Lib.idxBy (fun (_ : Col) (y : Col) => y.1 == id) l default)) ∧ _) at hcon
  rw [idx_posI] at hcon
  exact hcon

theorem ownCap {w : World} {B e z n c : Nat} {a : Option Addr} {xs : List Value} (h : w.ownsRow B e z (.slice a n c) n xs) : n ≤ c := by
  obtain ⟨ao, cp, e, hc⟩ := E.ownsRow_slice h
  cases e
  exact hc

/-- What a change comes to: other columns, or an error. -/
def Out (w wx : World) (B : Nat) (next : Int) (s9 s10 s11 : Value) : Prop :=
  (∃ (g' o' c' : Nat) (l' : List Col) (next' : Int), s9 = .slice (some ⟨g', o', none⟩) l'.length c' ∧ s10 = .int .i64 next' ∧ s11 = .nilIface ∧ g' ≠ B ∧ C.SlC wx g' o' l' ∧ l'.length ≤ c' ∧ 1 ≤ l'.length ∧ l'.length ≤ 8 ∧ next ≤ next' ∧ next' ≤ next + 1 ∧ Below w.heap.size w wx)
  ∨ (∃ x, s11 = .iface 80 (.int .i64 x) ∧ Below w.heap.size w wx)

theorem more_out (g o c : Nat) (l : List Col) (next x1 : Int) (x2 : ByteArray) (x3 : Int) (x4 : Bool) (x5 x6 : Int) (x7 : ByteArray) (w : World) (h : C.SlC w g o l) (h1 : 1 ≤ l.length) (h8 : l.length ≤ 8) (hn1 : 1 ≤ next) (hn2 : next ≤ 1000000000000000) (h2 : x2.size ≤ 60) (h7 : x7.size ≤ 100) (hN : C.NcB w) (B : Nat) (hB : B < w.heap.size) :
    Calls Tryz.prog 16 #[.slice (some ⟨g, o, none⟩) l.length c, .int .i64 next, .agg #[.int .i64 x1, .string x2, .int .i64 x3, .bool x4, .int .i64 x5, .int .i64 x6, .string x7]] w fun e w' => ∃ s9 s10 s11, e = .returned (.tuple #[s9, s10, s11]) ∧ Hid (Out w w' B next s9 s10 s11) := by
  by_cases hok : C.okMore l (next, x2, x3, x4, x5, x6, x7)
  · obtain ⟨o1, o2, o3, o4⟩ := hok
    refine (C.more_yes g o c l next x1 x2 x3 x4 x5 x6 x7 w h o2 o1 o3 o4 (by omega) hn2 hN).mono ?_
    rintro e w' ⟨g', c', rfl, ho, hb⟩
    have hlt := ho.lt g' rfl
    exact ⟨_, _, _, rfl, .inl ⟨g', 0, c', l ++ [(next, x2, x3, x4, x5, x6, x7)], next + 1, by simp, rfl, rfl, by omega, C.SlC.of_own ho (by simp), by simpa using ownCap ho, by simp, by simp; omega, by omega, by omega, hb⟩⟩
  · refine (C.more_no g o c l next x1 x2 x3 x4 x5 x6 x7 w h h8 (by unfold maxLen; omega) (by unfold maxLen; omega) hok hN).mono ?_
    rintro e w' ⟨x, rfl, hb⟩
    exact ⟨_, _, _, rfl, .inr ⟨x, rfl, hb⟩⟩

theorem less_out (g o c : Nat) (l : List Col) (next : Int) (x8 : ByteArray) (w : World) (h : C.SlC w g o l) (h1 : 1 ≤ l.length) (h8 : l.length ≤ 8) (hc : l.length ≤ c) (B : Nat) (hB : B < w.heap.size) :
    Calls Tryz.prog 17 #[.slice (some ⟨g, o, none⟩) l.length c, .string x8] w fun e w' => ∃ s9 s11, e = .returned (.tuple #[s9, s11]) ∧ Hid (Out w w' B next s9 (.int .i64 next) s11) := by
  rcases C.find_cases l x8 with ⟨hf, _⟩ | ⟨k, hk, hf, _⟩
  · refine (C.less_no g o c l x8 w h (.inl hf) h8).mono ?_
    rintro e w' ⟨⟨x, rfl, _⟩, hb⟩
    exact ⟨_, _, rfl, .inr ⟨x, rfl, hb⟩⟩
  · by_cases h1' : l.length = 1
    · refine (C.less_no g o c l x8 w h (.inr h1') h8).mono ?_
      rintro e w' ⟨⟨x, rfl, _⟩, hb⟩
      exact ⟨_, _, rfl, .inr ⟨x, rfl, hb⟩⟩
    · refine (C.less_yes g o c l x8 k w h hf hk h1' h8 hc).mono ?_
      rintro e w' ⟨g', c', rfl, ho, hb⟩
      have hlt := ho.lt g' rfl
      exact ⟨_, _, rfl, .inl ⟨g', 0, c', _, next, rfl, rfl, rfl, by omega, C.SlC.of_own ho rfl, ownCap ho, by simp; omega, by simp; omega, by omega, by omega, hb⟩⟩

theorem ren_out (g o c : Nat) (l : List Col) (next : Int) (x8 x9 : ByteArray) (w : World) (h : C.SlC w g o l) (h1 : 1 ≤ l.length) (h8 : l.length ≤ 8) (hsz : x9.size ≤ maxLen) (hN : C.NcB w) (B : Nat) (hB : B < w.heap.size) :
    Calls Tryz.prog 18 #[.slice (some ⟨g, o, none⟩) l.length c, .string x8, .string x9] w fun e w' => ∃ s9 s11, e = .returned (.tuple #[s9, s11]) ∧ Hid (Out w w' B next s9 (.int .i64 next) s11) := by
  have hno : (C.findC l x8 = -1 ∨ C.colB x9 = false ∨ 0 ≤ C.findC l x9) → Calls Tryz.prog 18 #[.slice (some ⟨g, o, none⟩) l.length c, .string x8, .string x9] w fun e w' => ∃ s9 s11, e = .returned (.tuple #[s9, s11]) ∧ Hid (Out w w' B next s9 (.int .i64 next) s11) := fun hn => by
    refine (C.rename_no g o c l x8 x9 w h hn hsz h8 hN).mono ?_
    rintro e w' ⟨x, rfl, hb⟩
    exact ⟨_, _, rfl, .inr ⟨x, rfl, hb⟩⟩
  rcases C.find_cases l x8 with ⟨hf, _⟩ | ⟨k, hk, hf, _⟩
  · exact hno (.inl hf)
  · cases hc9 : C.colB x9 with
    | false => exact hno (.inr (.inl hc9))
    | true =>
      rcases C.find_cases l x9 with ⟨hf9, _⟩ | ⟨j, _, hf9, _⟩
      · refine (C.rename_yes g o c l x8 x9 k w h hf hk hc9 hf9 h8 hN).mono ?_
        rintro e w' ⟨g', c', rfl, ho, hb⟩
        have hlt := ho.lt g' rfl
        exact ⟨_, _, rfl, .inl ⟨g', 0, c', l.set k (C.renC l[k]! x9), next, by simp, rfl, rfl, by omega, C.SlC.of_own ho (by simp), by simpa using ownCap ho, by simp; omega, by simp; omega, by omega, by omega, hb⟩⟩
      · exact hno (.inr (.inr (by omega)))

/-- The one column of a change, asked by itself. -/
theorem colsOne (w : World) (X : Obj) (c1 : Int) (c2 : ByteArray) (c3 : Int) (c4 : Bool) (c5 c6 : Int) (c7 : ByteArray) (h2 : c2.size ≤ maxLen) (h7 : c7.size ≤ maxLen) :
    Calls Tryz.prog 6 #[.slice (some ⟨w.heap.size + 1, 0, none⟩) 1 1] ((w.alloc X).alloc (.cells #[.int .i64 c1, .string c2, .int .i64 c3, .bool c4, .int .i64 c5, .int .i64 c6, .string c7] 47)) fun e w' => ∃ b, e = .returned (.bool b) ∧ Hid ((b = true → c2.size ≤ 60 ∧ c7.size ≤ 100) ∧ Below w.heap.size w w' ∧ w'.heap[w.heap.size]? = some X) := by
  have hb2 : Below w.heap.size w ((w.alloc X).alloc (.cells #[.int .i64 c1, .string c2, .int .i64 c3, .bool c4, .int .i64 c5, .int .i64 c6, .string c7] 47)) := S.below_a2 w X _
  have hh : ((w.alloc X).alloc (.cells #[.int .i64 c1, .string c2, .int .i64 c3, .bool c4, .int .i64 c5, .int .i64 c6, .string c7] 47)).heap[w.heap.size + 1]? = some (.cells #[.int .i64 c1, .string c2, .int .i64 c3, .bool c4, .int .i64 c5, .int .i64 c6, .string c7] 47) := by
    have := heap_alloc_new (w.alloc X) (.cells #[.int .i64 c1, .string c2, .int .i64 c3, .bool c4, .int .i64 c5, .int .i64 c6, .string c7] 47)
    rwa [World.size_alloc] at this
  have hX : ((w.alloc X).alloc (.cells #[.int .i64 c1, .string c2, .int .i64 c3, .bool c4, .int .i64 c5, .int .i64 c6, .string c7] 47)).heap[w.heap.size]? = some X := by
    have hb1 : Below (w.alloc X).heap.size (w.alloc X) ((w.alloc X).alloc (.cells #[.int .i64 c1, .string c2, .int .i64 c3, .bool c4, .int .i64 c5, .int .i64 c6, .string c7] 47)) := (Below.refl _ _).alloc (Nat.le_refl _) _
    exact (hb1.block w.heap.size (by simp)).trans (heap_alloc_new w X)
  have hsz : w.heap.size + 1 < ((w.alloc X).alloc (.cells #[.int .i64 c1, .string c2, .int .i64 c3, .bool c4, .int .i64 c5, .int .i64 c6, .string c7] 47)).heap.size := by simp
  generalize (w.alloc X).alloc (.cells #[.int .i64 c1, .string c2, .int .i64 c3, .bool c4, .int .i64 c5, .int .i64 c6, .string c7] 47) = W at *
  have hsl : C.SlC W (w.heap.size + 1) 0 [(c1, c2, c3, c4, c5, c6, c7)] := ⟨hsz, fun j hj i v hv => by
    have hj0 : j = 0 := by simp at hj; exact hj
    subst hj0
    have : (C.encC (c1, c2, c3, c4, c5, c6, c7))[i]? = some v := hv
    simp only [World.cell?, hh, Nat.zero_mul, Nat.zero_add]
    simpa [C.encC] using this⟩
  refine (columns_any (.slice (some ⟨w.heap.size + 1, 0, none⟩) 1 1) [(c1, c2, c3, c4, c5, c6, c7)] W (of_slC (c := 1) hsl (Nat.le_refl _)) (fun c hc => by
    rw [List.mem_singleton] at hc; subst hc; exact ⟨h2, h7⟩)).mono ?_
  rintro e w' ⟨b, rfl, hf, hb⟩
  exact ⟨b, rfl, fun h => (hf h).2 _ (List.mem_singleton.2 rfl), ups hb2 hb, (hb.block w.heap.size (by omega)).trans hX⟩
theorem cell10 {W : World} {b : Nat} {v0 v1 v2 v3 v4 v5 v6 v7 v8 v9 : Value} {T : TypeId} (h : W.heap[b]? = some (.cells #[v0, v1, v2, v3, v4, v5, v6, v7, v8, v9] T)) :
    W.cell? ⟨b, 0, none⟩ = some v0 ∧ W.cell? ⟨b, 1, none⟩ = some v1 ∧ W.cell? ⟨b, 2, none⟩ = some v2 ∧ W.cell? ⟨b, 3, none⟩ = some v3 ∧ W.cell? ⟨b, 4, none⟩ = some v4 ∧ W.cell? ⟨b, 5, none⟩ = some v5 ∧ W.cell? ⟨b, 6, none⟩ = some v6 ∧ W.cell? ⟨b, 7, none⟩ = some v7 ∧ W.cell? ⟨b, 8, none⟩ = some v8 ∧ W.cell? ⟨b, 9, none⟩ = some v9 := by
  simp [World.cell?, h]
theorem box1 {W : World} {b : Nat} {v : Value} {T : TypeId} (h : W.heap[b]? = some (.cells #[v] T)) : W.cell? ⟨b, 0, none⟩ = some v ∧ W.frozen? ⟨b, 0, none⟩ = false := by
  simp [World.cell?, World.frozen?, h]
end Go.Proofs.YtodemklghajdeaaGreatDoor
