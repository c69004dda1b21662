/- What encode.appendValue does, said of every call. -/
import Derived.Test.YtodemklghajdeaaGreatDoorRows
import Derived.Test.YtodemklghajdeaaGreatDoorEM1
import Derived.WalkKit
import Derived.WalkSpells
import Derived.WalkLawsBesides
import Derived.OwnWalk
import Derived.Deep.RegionHeld3
import Derived.Deep.LoopGhost
import Derived.Lib.VarintMem
import Derived.Lib.VarintBits
import Derived.Lib.Zigzag
import Derived.Lib.AppendStr
import Derived.Laws.AppendOwnNone
import Derived.BigQuiet
import Derived.Deep.QuietTactic
import Derived.Lib.QuietBelow
namespace Go.Proofs.YtodemklghajdeaaGreatDoor.E
open Go.RowKit Go.Proofs

theorem mkHid {p : Prop} (h : p) : Hid p := h
theorem ret_int {k : IntKind} {a b : Int} (h : a = b) : Ending.returned (.int k a) = .returned (.int k b) := by rw [h]
theorem ret_bool {a b : Bool} (h : a = b) : Ending.returned (.bool a) = .returned (.bool b) := by rw [h]

theorem info5 : (Tryz.prog.info? 5).map (fun i => (i.zero, i.size, i.bytes)) = some (some (.int .u8 0), 1, 1) := by kernel_rfl

/-- Below B nothing turns, and no block that is no row of bytes. -/
def Wr (B : Nat) (w w' : World) : Prop := Below B w w' ∧ ∀ k, k < w.heap.size → (∀ cur fr, w.heap[k]? ≠ some (.cells cur 5 fr)) → w'.heap[k]? = w.heap[k]?
theorem Wr.refl (B : Nat) (w : World) : Wr B w w := ⟨Below.refl _ _, fun _ _ _ => rfl⟩
theorem Wr.trans {B : Nat} {a b c : World} (h : Wr B a b) (k : Wr B b c) : Wr B a c :=
  ⟨h.1.trans k.1, fun i hi hn => by
    have e := h.2 i hi hn
    exact (k.2 i (Nat.lt_of_lt_of_le hi h.1.size) (fun cur fr => by rw [e]; exact hn cur fr)).trans e⟩
theorem Wr.of_below {B : Nat} {w w' : World} (h : Below w.heap.size w w') (hB : B ≤ w.heap.size) : Wr B w w' := ⟨h.mono hB, fun k hk _ => h.block k hk⟩
theorem Wr.alloc {B : Nat} {a w : World} (h : Wr B a w) (hB : B ≤ w.heap.size) (o : Obj) : Wr B a (w.alloc o) :=
  h.trans (Wr.of_below ((Below.refl _ _).alloc (Nat.le_refl _) _) hB)
theorem Wr.drew {B : Nat} {a w : World} (h : Wr B a w) : Wr B a w.drew := ⟨h.1.drew, h.2⟩
theorem Wr.grown {B n : Nat} {a w w' : World} {v : Value} {xs : List Value} (h : Wr B a w) (ho : w.ownsRow B 5 1 v n xs) (hg : w.grownBy w' v.ownBlock) (hB : B ≤ w.heap.size) : Wr B a w' :=
  h.trans ⟨(Below.refl _ _).grown hg hB (fun k hk => (ho.lt k hk).1), fun k hk hn => hg.block k hk (fun e => by
    rcases ho.2 with ⟨rfl, _⟩ | ⟨g, cap, cur, rfl, _, hh, _⟩
    · cases e
    · cases e; exact hn _ _ hh)⟩

set_option maxHeartbeats 8000000 in
set_option maxRecDepth 100000 in
theorem append_any (B n x : Nat) (hx : x < 18446744073709551616) (sv : Value) (xs : List Value) (w : World) (hown : w.ownsRow B 5 1 sv n xs) (hBw : B ≤ w.heap.size) (hlim : n + 10 ≤ 140737488355328) :
    Calls Tryz.prog 35 #[sv, .int .u64 x] w fun e w' => ∃ v', e = .returned v' ∧ w'.ownsRow B 5 1 v' (n + (Lib.uvarint x).length) (xs ++ Lib.byteCells (Lib.uvarint x)) ∧ Wr B w w' := by
  obtain ⟨i0, hi, hz0, hz1, hz2⟩ := info_parts info5
  have hlen := Lib.uvarint_length64 hx
  go_enter Tryz.func35, Tryz.ntmps35
  go_wp2
  go_loopw [0, 1] (fun vb vx wr => ∃ (y : Nat) (pre : List UInt8), vx = .int .u64 y ∧ y ≤ x ∧ Lib.uvarint x = pre ++ Lib.uvarint y ∧ wr.ownsRow B 5 1 vb (n + pre.length) (xs ++ Lib.byteCells pre) ∧ Wr B w wr)
    (fun _ vx _ => (intOf vx).toNat)
  case atStart => exact ⟨x, [], rfl, Nat.le_refl _, rfl, by simpa [Lib.byteCells] using hown, Wr.refl _ _⟩
  case round =>
    obtain ⟨y, pre, rfl, hy, hsplit, hown1, hnx⟩ := hrel
    have hpl : pre.length + (Lib.uvarint y).length ≤ 10 := by
      have h2 := congrArg List.length hsplit
      rw [List.length_append] at h2
      omega
    have hyp := Lib.uvarint_pos y
    have hsz := hnx.1.size
    have hBr : B ≤ wr.heap.size := by omega
    by_cases h128 : 128 ≤ y
    · have hor : bits .or .u8 ((y : Int) % 256) 128 = ((y % 128 + 128 : Nat) : Int) := by
        rw [Lib.u8_or128_any _ (by omega) (by omega)]
        omega
      go_wp2_with (at_builtin; refine wpList_append_own _ rfl _ _ 82 rfl B 5 i0 (.int .u8 0) 1 1 Tryz.underlying82 hi hz0 hz1 hz2 rfl (by decide) _ _ _ rfl (hown1.alloc _) ⟨wr.heap.size, 0, none⟩ 1 1 [Value.int .u8 ((y % 128 + 128 : Nat) : Int)] rfl rfl ?c1 ?c2 ?c3 ?c4 ?c5 ?_)
      case c1 =>
        intro j u hj
        match j, hj with
        | 0, hj => simp at hj; subst hj; simp [Addr.add]
      case c2 => intro u hu; simp at hu; subst hu; rfl
      case c3 => unfold maxLen; omega
      case c4 => omega
      case c5 => simp; omega
      intro v' w1 hown' hgrow _
      have hnx1 : Wr B w w1 := (hnx.alloc hBr _).grown (hown1.alloc _) hgrow (by simp; omega)
      go_wp2
      go_roundw
      case rel =>
        refine ⟨y / 128, pre ++ [(y % 128 + 128).toUInt8], by go_num, by omega, by rw [hsplit, Lib.uvarint_big h128]; simp, ?_, hnx1⟩
        have ec : ((y % 128 + 128 : Nat) : Int) = (y : Int) % 128 + 128 := by omega
        rw [Lib.byteCells_snoc pre (by omega), List.length_append, List.length_singleton, ← Nat.add_assoc, ec]
        exact hown'
      case measure => simp [intOf]; omega
    · have hsm : Lib.uvarint y = [y.toUInt8] := Lib.uvarint_small (by omega)
      go_wp2_with (at_builtin; refine wpList_append_own _ rfl _ _ 82 rfl B 5 i0 (.int .u8 0) 1 1 Tryz.underlying82 hi hz0 hz1 hz2 rfl (by decide) _ _ _ rfl (hown1.alloc _) ⟨wr.heap.size, 0, none⟩ 1 1 [Value.int .u8 (y : Int)] rfl rfl ?c1 ?c2 ?c3 ?c4 ?c5 ?_)
      case c1 =>
        intro j u hj
        match j, hj with
        | 0, hj => simp at hj; subst hj; simp [Addr.add]
      case c2 => intro u hu; simp at hu; subst hu; rfl
      case c3 => unfold maxLen; omega
      case c4 => omega
      case c5 => simp; omega
      intro v' w1 hown' hgrow _
      have hnx1 : Wr B w w1 := (hnx.alloc hBr _).grown (hown1.alloc _) hgrow (by simp; omega)
      go_wp2
      go_ret
      refine ⟨v', rfl, ?_, hnx1⟩
      rw [hsplit, hsm, Lib.byteCells_snoc pre (by omega), List.length_append, List.length_singleton, ← Nat.add_assoc]
      exact hown'
theorem xor_i64_comm (a b : Int) : bits .xor .i64 a b = bits .xor .i64 b a := by
  show IntKind.i64.wrap ((BitVec.ofInt 64 a ^^^ BitVec.ofInt 64 b).toNat : Int) = IntKind.i64.wrap ((BitVec.ofInt 64 b ^^^ BitVec.ofInt 64 a).toNat : Int)
  rw [BitVec.xor_comm]
theorem xor_u64_comm (a b : Int) : bits .xor .u64 a b = bits .xor .u64 b a := by
  show IntKind.u64.wrap ((BitVec.ofInt 64 a ^^^ BitVec.ofInt 64 b).toNat : Int) = IntKind.u64.wrap ((BitVec.ofInt 64 b ^^^ BitVec.ofInt 64 a).toNat : Int)
  rw [BitVec.xor_comm]
theorem xor_i64_zero (x : Nat) (hx : x < 9223372036854775808) : bits .xor .i64 (x : Int) 0 = x := by
  show IntKind.i64.wrap ((BitVec.ofInt 64 (x : Int) ^^^ BitVec.ofInt 64 0).toNat : Int) = _
  have h2 : (BitVec.ofInt 64 (x : Int)).toNat = x := by
    rw [BitVec.ofInt_natCast, BitVec.toNat_ofNat]; exact Nat.mod_eq_of_lt (by omega)
  have h1 : (BitVec.ofInt 64 0).toNat = 0 := by decide
  rw [BitVec.toNat_xor, h1, h2, Nat.xor_zero, IntKind.wrap_i64]
  omega
theorem xor_u64_zero (x : Nat) (hx : x < 18446744073709551616) : bits .xor .u64 (x : Int) 0 = x := by
  have := bits_xor_u64_nat x 0 (by simpa using hx) (by decide)
  simpa using this

set_option maxHeartbeats 8000000 in
set_option maxRecDepth 100000 in
theorem appendSigned_any (B n : Nat) (x : Int) (h0 : -9223372036854775808 ≤ x) (h1 : x ≤ 9223372036854775807) (sv : Value) (xs : List Value) (w : World) (hown : w.ownsRow B 5 1 sv n xs) (hBw : B ≤ w.heap.size) (hlim : n + 10 ≤ 140737488355328) :
    Calls Tryz.prog 162 #[sv, .int .i64 x] w fun e w' => ∃ v', e = .returned v' ∧ w'.ownsRow B 5 1 v' (n + (Lib.uvarint (Lib.zigzag x)).length) (xs ++ Lib.byteCells (Lib.uvarint (Lib.zigzag x))) ∧ Wr B w w' := by
  have hU := mkHid (append_any B n (Lib.zigzag x) (Lib.zigzag_lt h0 h1) sv xs w hown hBw hlim)
  by_cases hneg : x < 0
  · have E : Hid (bits .xor .u64 (IntKind.u64.wrap (IntKind.u64.wrap x * 2)) (IntKind.u64.wrap (x / 9223372036854775808)) = ((Lib.zigzag x : Nat) : Int)) := by
      have e : x / 9223372036854775808 = -1 := by omega
      rw [e, xor_u64_comm, ← Lib.zigzag_neg h0 hneg]
      rfl
    go_enter Tryz.func162, Tryz.ntmps162
    go_wp2_with fail
    rw [E.out]
    refine hU.out.mono ?_
    rintro e w1 ⟨v', rfl, ho, hb⟩
    go_wp2
    go_ret
    exact ⟨v', rfl, ho, hb⟩
  · have E : Hid (bits .xor .u64 (x * 2) (x / 9223372036854775808) = ((Lib.zigzag x : Nat) : Int)) := by
      have e : x / 9223372036854775808 = 0 := by omega
      have e2 : x * 2 = ((Lib.zigzag x : Nat) : Int) := (Lib.zigzag_nonneg (by omega)).symm
      rw [e, e2]
      exact xor_u64_zero _ (Lib.zigzag_lt h0 h1)
    go_enter Tryz.func162, Tryz.ntmps162
    go_wp2_with fail
    rw [E.out]
    refine hU.out.mono ?_
    rintro e w1 ⟨v', rfl, ho, hb⟩
    go_wp2
    go_ret
    exact ⟨v', rfl, ho, hb⟩
set_option maxHeartbeats 1000000 in
theorem signed_any (x : Nat) (hx : x < 18446744073709551616) (w : World) :
    Calls Tryz.prog 164 #[.int .u64 x] w fun e w' => e = .returned (.int .i64 (Lib.unzigzag x)) ∧ w' = w := by
  have H : Hid (bits .xor .i64 ((x : Int) / 2) (wrap64 (-wrap64 (bits .and .u64 (x : Int) 1))) = Lib.unzigzag x) := by
    rw [Lib.u64_and1 _ (by omega) (by omega)]
    have e2 : ((x : Int) / 2) = ((x / 2 : Nat) : Int) := by omega
    rw [e2]
    unfold Lib.unzigzag
    by_cases h : x % 2 = 0
    · rw [if_pos h, show ((x : Int) % 2) = 0 by omega]
      rw [show wrap64 (-wrap64 0) = 0 by unfold wrap64; omega]
      exact xor_i64_zero (x / 2) (by omega)
    · rw [if_neg h, show ((x : Int) % 2) = 1 by omega, xor_i64_comm]
      rw [show wrap64 (-wrap64 1) = -1 by unfold wrap64; omega]
      exact Lib.i64_not (x / 2) (by omega)
  go_enter Tryz.func164, Tryz.ntmps164
  go_wp2
  go_ret
  exact ⟨ret_int H.out, rfl⟩
end Go.Proofs.YtodemklghajdeaaGreatDoor.E

namespace Go.Proofs.YtodemklghajdeaaGreatDoor.E
open Go.RowKit Go.Proofs

theorem step_append_str {P : Program} {w : World} {ops : Array Oper} {o : Oper} {a : Act} {K : Act → World → Prop} {Q : Exit → Act → World → Prop} {E : Prop} (hgd : o.guard = none) (sl x : Operand) (t u : TypeId)
    (ho : o.op = .call { callee := .builtin .append, args := #[sl, x], argTypes := #[t, u] })
    (base : Nat) (e : TypeId) (i : TypeInfo) (ht : P.underlying t = some (.slice e)) (hu : P.underlying u = some .string) (hi : P.info? e = some i) (hz : i.zero = some (.int .u8 0))
    (hsize : i.size = 1) (hby : i.bytes = 1)
    (v : Value) (n : Nat) (xs : List Value) (hs : a.eval sl = v) (hown : w.ownsRow base e 1 v n xs) (s : ByteArray) (hx : a.eval x = .string s)
    (h63 : n + s.size ≤ maxLen) (hbytes : n + s.size ≤ 140737488355328) (hbase : base ≤ w.heap.size)
    (h : ∀ v' w', w'.ownsRow base e 1 v' (n + s.size) (xs ++ Lib.strCells s) → w.grownBy w' v.ownBlock → K (a.put o.dst v') w') :
    if Region.wanted o (yielded ops a.tmps) = true then Oper.wp P o a w K Q else E := by
  have hw : Region.wanted o (yielded ops a.tmps) = true := by simp [Region.wanted, hgd]
  rw [if_pos hw]
  obtain ⟨v', w', hr, h2, h3, h4⟩ := Lib.run_append_own_string (P := P) w base t u o.type e i ht hu hi hz hsize hby v n xs hown s h63 hbytes hbase
  unfold Oper.wp execOp
  simp only [ho, resolve, invoke, builtin, Sem.run_bind, Sem.run_pure, Result.andThen_ok, List.map_toArray, List.map_cons, List.map_nil, hs, hx, hr]
  exact h v' w' h2 h3

theorem byteCells_app (a b : List UInt8) : Lib.byteCells (a ++ b) = Lib.byteCells a ++ Lib.byteCells b := Lib.byteCells_append a b
theorem strCells_bytes (t : ByteArray) : Lib.strCells t = Lib.byteCells t.data.toList := rfl
theorem cell_of_wr {B : Nat} {w w' : World} (h : Wr B w w') {b : Nat} {cs : Array Value} {T : TypeId} {fr : Nat × Nat} (hb : w.heap[b]? = some (.cells cs T fr)) (hT : T ≠ 5) : w'.heap[b]? = some (.cells cs T fr) := by
  rw [h.2 b (by
    rcases Nat.lt_or_ge b w.heap.size with h' | h'
    · exact h'
    · rw [Array.getElem?_eq_none h'] at hb; cases hb) (fun cur fr' e => by rw [hb] at e; injection e with e; injection e with _ e; exact hT e)]
  exact hb

theorem blk_grown {w w' : World} {v : Value} {B n b : Nat} {xs : List Value} {cs : Array Value} {T : TypeId} {fr : Nat × Nat} (hg : w.grownBy w' v.ownBlock) (hb : w.heap[b]? = some (.cells cs T fr)) (ho : w.ownsRow B 5 1 v n xs) (hT : T ≠ 5 := by decide) : w'.heap[b]? = some (.cells cs T fr) := by
  rw [hg.block b (by
    rcases Nat.lt_or_ge b w.heap.size with h' | h'
    · exact h'
    · rw [Array.getElem?_eq_none h'] at hb; cases hb) (fun e => by
    rcases ho.2 with ⟨rfl, _⟩ | ⟨g, cap, cur, rfl, _, hh, _⟩
    · cases e
    · cases e; rw [hb] at hh; injection hh with hh; injection hh with _ hh; exact hT hh)]
  exact hb

set_option maxHeartbeats 8000000 in
set_option maxRecDepth 100000 in
theorem appendValue_any (B n : Nat) (k x : Int) (t : ByteArray) (h0 : -9223372036854775808 ≤ x) (h1 : x ≤ 9223372036854775807) (ht : t.size ≤ 1000000) (sv : Value) (xs : List Value) (w : World) (hown : w.ownsRow B 5 1 sv n xs) (hBw : B ≤ w.heap.size) (hlim : n ≤ 1000000) :
    Calls Tryz.prog 160 #[sv, .agg #[.int .i64 k, .int .i64 x, .string t]] w fun e w' => ∃ v', e = .returned v' ∧ w'.ownsRow B 5 1 v' (n + (valB (k, x, t)).length) (xs ++ Lib.byteCells (valB (k, x, t))) ∧ Wr B w w' := by
  obtain ⟨i0, hi, hz0, hz1, hz2⟩ := info_parts info5
  have HI := mkHid (And.intro hi (And.intro hz0 (And.intro hz1 hz2)))
  clear hi hz0 hz1 hz2
  have HO := mkHid hown
  clear hown
  by_cases hk : k = 1
  · have HV : Hid (valB (k, x, t) = Lib.uvarint (Lib.zigzag x)) := by unfold valB; rw [if_pos hk]; exact rfl
    have hb : (k == 1) = true := by simpa using hk
    have HC : Hid (∀ o, Calls Tryz.prog 162 #[sv, .int .i64 x] (w.alloc o) fun e w' => ∃ v', e = .returned v' ∧ w'.ownsRow B 5 1 v' (n + (Lib.uvarint (Lib.zigzag x)).length) (xs ++ Lib.byteCells (Lib.uvarint (Lib.zigzag x))) ∧ Wr B w w') := fun o =>
      (appendSigned_any B n x h0 h1 sv xs (w.alloc o) (HO.out.alloc o) (by simp; omega) (by omega)).mono fun e w' ⟨v', he, h2, h3⟩ => ⟨v', he, h2, ((Wr.refl B w).alloc hBw o).trans h3⟩
    clear hk
    rw [HV.out]
    go_enter Tryz.func160, Tryz.ntmps160
    go_wp2_with (go_at_call 162; refine (HC.out _).mono ?_; rintro e w1 ⟨v', rfl, ho, hb⟩)
    go_ret
    exact ⟨v', rfl, ho, hb⟩
  · have HV : Hid (valB (k, x, t) = Lib.uvarint t.size ++ t.data.toList) := by unfold valB; rw [if_neg hk]; exact rfl
    have hb : (k == 1) = false := by simpa using hk
    have HC : Hid (∀ W, W.heap[w.heap.size]? = some (.cells #[.int .i64 k, .int .i64 x, .string t] 45) → Wr B w W → W.ownsRow B 5 1 sv n xs → Calls Tryz.prog 35 #[sv, .int .u64 (IntKind.u64.wrap (t.size : Int))] W fun e w' => ∃ v', e = .returned v' ∧ w'.ownsRow B 5 1 v' (n + (Lib.uvarint t.size).length) (xs ++ Lib.byteCells (Lib.uvarint t.size)) ∧ Wr B w w' ∧ w'.heap[w.heap.size]? = some (.cells #[.int .i64 k, .int .i64 x, .string t] 45)) := fun W hh hw ho => by
      rw [show IntKind.u64.wrap (t.size : Int) = ((t.size : Nat) : Int) by rw [IntKind.wrap_u64]; omega]
      exact (append_any B n t.size (by omega) sv xs W ho (by have := hw.1.size; omega) (by omega)).mono fun e w' ⟨v', he, h2, h3⟩ => ⟨v', he, h2, hw.trans h3, cell_of_wr h3 hh (by decide)⟩
    have HK : Hid (∀ W : World, W.heap[w.heap.size]? = some (.cells #[.int .i64 k, .int .i64 x, .string t] 45) → W.cell? ⟨w.heap.size, 2, none⟩ = some (.string t)) := fun W h => by simp [World.cell?, h]
    have hul : (Lib.uvarint t.size).length ≤ 10 := Lib.uvarint_length64 (by omega)
    clear hk
    rw [HV.out]
    go_enter Tryz.func160, Tryz.ntmps160
    go_wp2_with fail
    go_region_held3 (fun w' => w'.cell? ⟨w.heap.size, 2, none⟩ = some (.string t))
      (first
        | (go_keep; done)
        | exact HK.out _ h2b
        | exact HK.out _ (h2b2))
      (first
        | (go_at_call 35; refine (HC.out _ ?_ ?_ ?_).mono ?_; exact heap_alloc_new _ _; exact ((Wr.refl B w).alloc hBw _).drew; exact HO.out.alloc _; rintro e w1 ⟨v1, rfl, ho1, hw1, h2b⟩)
        | (refine step_append_str (by rfl) (.tmp 17) (.tmp 19) 82 9 (by rfl) B 5 i0 Tryz.underlying82 Tryz.underlying9 HI.out.1 HI.out.2.1 HI.out.2.2.1 HI.out.2.2.2 v1 _ _ (by rfl) ho1 t (by rfl) (by unfold maxLen; omega) (by omega) (by have := hw1.1.size; omega) ?_; intro v2 w2 ho2 hg2; have h2b2 := blk_grown hg2 h2b ho1))
    go_wp2
    go_ret
    rw [List.length_append, ← Nat.add_assoc, byteCells_app, ← List.append_assoc]
    exact ⟨v2, rfl, ho2, hw1.grown ho1 hg2 (by have := hw1.1.size; omega)⟩
end Go.Proofs.YtodemklghajdeaaGreatDoor.E
