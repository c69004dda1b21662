/-
  DERIVED: THE SHELF's CONTRACTS AT THIS DUMP, IN PLAIN WORDS (tools/lay-plain.mjs out of 'TryzShelfG.lean', which tools/lay-shelf.mjs wrote): THE SAME DECLARATIONS UNDER THE SAME NAMES: 'import', 'namespace', 'open', 'def', 'theorem' AND NOTHING ELSE: no command of the shelf's: FOR A HAND-IN. Each laying: the table of numbers ('.._ren') and one theorem, a field a fact of the dump's own or the kernel's comparison; each contract: ONE APPLICATION.
-/
import Derived.Lib.VarintDec
import Derived.Lib.Varint
import Derived.Test.YtlnkbhbpkmnkaaaGreatDoorProg
import Derived.WalkKit
import Derived.WalkSpells
import Derived.WalkLawsBesides
import Derived.OwnWalk
import Derived.Deep.RegionHeld3
import Derived.Deep.LoopGhost
import Derived.Lib.VarintMem
import Derived.Lib.VarintBits
import Derived.Lib.Zigzag
import Derived.Lib.AppendStr
import Derived.Laws.AppendOwnNone
import Derived.BigQuiet
import Derived.Deep.QuietTactic
import Derived.Lib.QuietBelow
import Derived.Shelf.Abstract
import Derived.Laws.StructEq
import Derived.Deep.AppendLies
import Derived.Shelf.Small.Bits
import Derived.Shelf.Strconv.Itoa0
import Derived.Shelf.Strconv.Itoa1
import Derived.Shelf.LaysM
import Derived.Shelf.GgClosure.StringsIndexFunc
import Derived.Shelf.GgClosure.StringsTrimFunc
import Derived.Ground.GgwProg
import Derived.Shelf.GgClosure.StringsIndexFuncTop
import Derived.Ground.SlgnProg
import Derived.Shelf.SlicesE.Index
import Derived.Shelf.SlGeneric
import Derived.Ground.SlgfProg
import Derived.Ground.SlgqProg
import Derived.Shelf.SlicesQ.IndexFunc
import Derived.Shelf.SlicesE.IndexFunc
import Derived.Shelf.SlicesQ.Equal
import Derived.Shelf.SlicesE.Clone
import Derived.Shelf.SlicesE.Equal
namespace Go.Proofs.YtlnkbhbpkmnkaaaGreatDoor.E
open Go.Lib

/-- A value: its kind, its number, its text. -/
abbrev V : Type := Int × Int × ByteArray
def str (l : List UInt8) : ByteArray := ⟨l.toArray⟩
theorem str_self (s : ByteArray) : str s.data.toList = s := by cases s; simp [str]
theorem str_toList (l : List UInt8) : (str l).data.toList = l := by simp [str]
theorem str_size (l : List UInt8) : (str l).size = l.length := by show (str l).data.size = _; simp [str]
theorem str_inj {a b : List UInt8} (h : str a = str b) : a = b := by rw [← str_toList a, h, str_toList]

/-- The number that fits 64 bits with a sign. -/
def wr64 (x : Int) : Int := (x + 9223372036854775808) % 18446744073709551616 - 9223372036854775808

/-- How values are written. -/
def valB (v : V) : List UInt8 := if v.1 = 1 then uvarint (zigzag v.2.1) else uvarint v.2.2.size ++ v.2.2.data.toList
def orderB (l : List V) : List UInt8 := l.flatMap valB
/-- How many at the beginning are v. -/
def same (v : V) : List V → Nat
  | [] => 0
  | x :: l => if x = v then same v l + 1 else 0
theorem same_le (v : V) : ∀ l, same v l ≤ l.length
  | [] => Nat.le_refl _
  | x :: l => by unfold same; split <;> simp; exact same_le v l
def runsB : Nat → List V → List UInt8
  | 0, _ => []
  | _ + 1, [] => []
  | f + 1, v :: l => uvarint (same v l + 1) ++ valB v ++ runsB f (l.drop (same v l))
/-- Where v is first, or how many there are. -/
def place (v : V) : List V → Nat
  | [] => 0
  | x :: l => if x = v then 0 else place v l + 1
def whichS (s : List V × List UInt8) (v : V) : List V × List UInt8 :=
  (if place v s.1 < s.1.length then s.1 else s.1 ++ [v], s.2 ++ uvarint (place v s.1))
def whichB (l : List V) : List UInt8 :=
  uvarint (l.foldl whichS ([], [])).1.length ++ orderB (l.foldl whichS ([], [])).1 ++ (l.foldl whichS ([], [])).2
def stepsB (a : Int) : List V → List UInt8
  | [] => []
  | v :: l => uvarint (zigzag (wr64 (v.2.1 - a))) ++ stepsB v.2.1 l
def wayB (way : Nat) (l : List V) : List UInt8 := if way = 1 then runsB l.length l else if way = 2 then whichB l else if way = 3 then stepsB 0 l else orderB l
def better (a b : List UInt8) : List UInt8 := if b.length < a.length then b else a
def fewTo (kind : Int) (l : List V) : Nat → List UInt8
  | 0 => []
  | 1 => 0 :: wayB 0 l
  | w + 2 => if w + 1 = 3 ∧ kind ≠ 1 then fewTo kind l (w + 1) else better (fewTo kind l (w + 1)) ((w + 1).toUInt8 :: wayB (w + 1) l)
def fewB (kind : Int) (l : List V) : List UInt8 := fewTo kind l 4
def nul (v : V) : Bool := v.1 == 0
/-- The marks of the first k values, of so many bytes. -/
def marksTo (l : List V) (m : Nat) : Nat → List Nat
  | 0 => List.replicate m 0
  | k + 1 => if (l[k]?.map nul) = some true then (marksTo l m k).set (k / 8) (((marksTo l m k)[k / 8]?.getD 0) + 2 ^ (k % 8)) else marksTo l m k
def marksN (l : List V) : List Nat := marksTo l ((l.length + 7) / 8) l.length
def marksB (l : List V) : List UInt8 := (marksN l).map Nat.toUInt8
def known (l : List V) : List V := l.filter fun v => !nul v
def encB (kind : Int) (l : List V) : List UInt8 := uvarint l.length ++ marksB l ++ fewB kind (known l)

/-- How they are read: what is left, and whether something was wrong. -/
abbrev St : Type := List UInt8 × Bool
def rdGo (full : List UInt8) : Nat → List UInt8 → Nat → Nat × List UInt8 × Bool
  | _, [], _ => (0, full, false)
  | i, c :: r, acc =>
    if i = 10 then (0, full, false)
    else if c.toNat < 128 then (acc + c.toNat % 128 * 2 ^ (7 * i) % 18446744073709551616, r, decide (uvarint (acc + c.toNat % 128 * 2 ^ (7 * i) % 18446744073709551616) = full.take (i + 1)))
    else rdGo full (i + 1) r (acc + c.toNat % 128 * 2 ^ (7 * i) % 18446744073709551616)
def rdNum (l : List UInt8) : Nat × List UInt8 × Bool := rdGo l 0 l 0
def numR (s : St) : Nat × St := ((rdNum s.1).1, ((rdNum s.1).2.1, s.2 || !(rdNum s.1).2.2))
def badR (most : Int) (s : St) : Bool := (numR s).2.2 || decide (most < 0) || decide (most < ((numR s).1 : Int))
def upToR (most : Int) (s : St) : Nat × St := if badR most s then (0, ((numR s).2.1, true)) else numR s
def bytesR (n : Nat) (s : St) : List UInt8 × St := if s.1.length < n then ([], (s.1, true)) else (s.1.take n, (s.1.drop n, s.2))
def valueR (kind : Int) (s : St) : V × St :=
  if kind = 1 then ((1, unzigzag (numR s).1, str []), (numR s).2)
  else ((2, 0, str (bytesR (upToR 40 s).1 (upToR 40 s).2).1), (bytesR (upToR 40 s).1 (upToR 40 s).2).2)
def valuesR (kind : Int) : Nat → St → List V × St
  | 0, s => ([], s)
  | n + 1, s => ((valueR kind s).1 :: (valuesR kind n (valueR kind s).2).1, (valuesR kind n (valueR kind s).2).2)
def runSt (kind : Int) (n : Nat) (l : List V) (s : St) : St := (valueR kind (upToR (n - l.length : Nat) s).2).2
def runL (kind : Int) (n : Nat) (l : List V) (s : St) : List V := l ++ List.replicate (upToR (n - l.length : Nat) s).1 (valueR kind (upToR (n - l.length : Nat) s).2).1
def runsR (kind : Int) (n : Nat) : Nat → List V → St → List V × St
  | 0, l, s => (l, s)
  | f + 1, l, s => if l.length < n ∧ s.2 = false then runsR kind n f (runL kind n l s) (runSt kind n l s) else (l, s)
def whichGo (d : List V) : Nat → List V → St → List V × St
  | 0, a, s => (a, s)
  | n + 1, a, s =>
    if (upToR ((d.length : Int) - 1) s).2.2 then ([], (upToR ((d.length : Int) - 1) s).2)
    else whichGo d n (a ++ [d[(upToR ((d.length : Int) - 1) s).1]?.getD (0, 0, str [])]) (upToR ((d.length : Int) - 1) s).2
def whichR (kind : Int) (n : Nat) (s : St) : List V × St :=
  whichGo (valuesR kind (upToR n s).1 (upToR n s).2).1 n [] (valuesR kind (upToR n s).1 (upToR n s).2).2
def stepsR : Nat → Int → St → List V × St
  | 0, _, s => ([], s)
  | n + 1, a, s => ((1, wr64 (a + unzigzag (numR s).1), str []) :: (stepsR n (wr64 (a + unzigzag (numR s).1)) (numR s).2).1, (stepsR n (wr64 (a + unzigzag (numR s).1)) (numR s).2).2)
def knownR (kind : Int) (way : Nat) (n : Nat) (s : St) : List V × St :=
  if way = 0 then valuesR kind n s else if way = 1 then runsR kind n (s.1.length + 2) [] s else if way = 2 then whichR kind n s
  else if way = 3 then stepsR n 0 s else ([], (s.1, true))
def bitOf (b : List UInt8) (i : Nat) : Nat := (b[i / 8]?.getD 0).toNat / 2 ^ (i % 8) % 2
def placesTo (b : List UInt8) : Nat → List Nat
  | 0 => []
  | k + 1 => if bitOf b k = 0 then placesTo b k ++ [k] else placesTo b k
def putAll (l : List V) : List Nat → List V → List V
  | p :: ps, v :: vs => putAll (l.set p v) ps vs
  | _, _ => l
def colN (s : List UInt8) : Nat × St := upToR 60 (s, false)
def colB (s : List UInt8) : List UInt8 × St := bytesR (((colN s).1 + 7) / 8) (colN s).2
def colW (s : List UInt8) : List UInt8 × St := bytesR 1 (colB s).2
def colP (s : List UInt8) : List Nat := placesTo (colB s).1 (colN s).1
def colK (kind : Int) (s : List UInt8) : List V × St := knownR kind ((colW s).1[0]?.getD 0).toNat (colP s).length (colW s).2
def colR (kind : Int) (s : List UInt8) : List V × Bool :=
  if (colW s).2.2 then ([], true) else if (colK kind s).2.2 then ([], true)
  else (putAll (List.replicate (colN s).1 (0, 0, str [])) (colP s) (colK kind s).1, false)
end Go.Proofs.YtlnkbhbpkmnkaaaGreatDoor.E
namespace Go.Proofs.YtlnkbhbpkmnkaaaGreatDoor.E
open Go.RowKit Go.Proofs

theorem mkHid {p : Prop} (h : p) : Hid p := h
theorem ret_int {k : IntKind} {a b : Int} (h : a = b) : Ending.returned (.int k a) = .returned (.int k b) := by rw [h]
theorem ret_bool {a b : Bool} (h : a = b) : Ending.returned (.bool a) = .returned (.bool b) := by rw [h]

theorem info5 : (Tryz.prog.info? 5).map (fun i => (i.zero, i.size, i.bytes)) = some (some (.int .u8 0), 1, 1) := by kernel_rfl

/-- Below B nothing turns, and no block that is no row of bytes. -/
def Wr (B : Nat) (w w' : World) : Prop := Below B w w' ∧ ∀ k, k < w.heap.size → (∀ cur fr, w.heap[k]? ≠ some (.cells cur 5 fr)) → w'.heap[k]? = w.heap[k]?
theorem Wr.refl (B : Nat) (w : World) : Wr B w w := ⟨Below.refl _ _, fun _ _ _ => rfl⟩
theorem Wr.trans {B : Nat} {a b c : World} (h : Wr B a b) (k : Wr B b c) : Wr B a c :=
  ⟨h.1.trans k.1, fun i hi hn => by
    have e := h.2 i hi hn
    exact (k.2 i (Nat.lt_of_lt_of_le hi h.1.size) (fun cur fr => by rw [e]; exact hn cur fr)).trans e⟩
theorem Wr.of_below {B : Nat} {w w' : World} (h : Below w.heap.size w w') (hB : B ≤ w.heap.size) : Wr B w w' := ⟨h.mono hB, fun k hk _ => h.block k hk⟩
theorem Wr.alloc {B : Nat} {a w : World} (h : Wr B a w) (hB : B ≤ w.heap.size) (o : Obj) : Wr B a (w.alloc o) :=
  h.trans (Wr.of_below ((Below.refl _ _).alloc (Nat.le_refl _) _) hB)
theorem Wr.drew {B : Nat} {a w : World} (h : Wr B a w) : Wr B a w.drew := ⟨h.1.drew, h.2⟩
theorem Wr.grown {B n : Nat} {a w w' : World} {v : Value} {xs : List Value} (h : Wr B a w) (ho : w.ownsRow B 5 1 v n xs) (hg : w.grownBy w' v.ownBlock) (hB : B ≤ w.heap.size) : Wr B a w' :=
  h.trans ⟨(Below.refl _ _).grown hg hB (fun k hk => (ho.lt k hk).1), fun k hk hn => hg.block k hk (fun e => by
    rcases ho.2 with ⟨rfl, _⟩ | ⟨g, cap, cur, rfl, _, hh, _⟩
    · cases e
    · cases e; exact hn _ _ hh)⟩

set_option maxHeartbeats 8000000 in
set_option maxRecDepth 100000 in
theorem append_any (B n x : Nat) (hx : x < 18446744073709551616) (sv : Value) (xs : List Value) (w : World) (hown : w.ownsRow B 5 1 sv n xs) (hBw : B ≤ w.heap.size) (hlim : n + 10 ≤ 140737488355328) :
    Calls Tryz.prog 125 #[sv, .int .u64 x] w fun e w' => ∃ v', e = .returned v' ∧ w'.ownsRow B 5 1 v' (n + (Lib.uvarint x).length) (xs ++ Lib.byteCells (Lib.uvarint x)) ∧ Wr B w w' := by
  obtain ⟨i0, hi, hz0, hz1, hz2⟩ := info_parts info5
  have hlen := Lib.uvarint_length64 hx
  go_enter Tryz.func125, Tryz.ntmps125
  go_wp2
  go_loopw [0, 1] (fun vb vx wr => ∃ (y : Nat) (pre : List UInt8), vx = .int .u64 y ∧ y ≤ x ∧ Lib.uvarint x = pre ++ Lib.uvarint y ∧ wr.ownsRow B 5 1 vb (n + pre.length) (xs ++ Lib.byteCells pre) ∧ Wr B w wr)
    (fun _ vx _ => (intOf vx).toNat)
  case atStart => exact ⟨x, [], rfl, Nat.le_refl _, rfl, by simpa [Lib.byteCells] using hown, Wr.refl _ _⟩
  case round =>
    obtain ⟨y, pre, rfl, hy, hsplit, hown1, hnx⟩ := hrel
    have hpl : pre.length + (Lib.uvarint y).length ≤ 10 := by
      have h2 := congrArg List.length hsplit
      rw [List.length_append] at h2
      omega
    have hyp := Lib.uvarint_pos y
    have hsz := hnx.1.size
    have hBr : B ≤ wr.heap.size := by omega
    by_cases h128 : 128 ≤ y
    · have hor : bits .or .u8 ((y : Int) % 256) 128 = ((y % 128 + 128 : Nat) : Int) := by
        rw [Lib.u8_or128_any _ (by omega) (by omega)]
        omega
      go_wp2_with (at_builtin; refine wpList_append_own _ rfl _ _ 41 rfl B 5 i0 (.int .u8 0) 1 1 Tryz.underlying41 hi hz0 hz1 hz2 rfl (by decide) _ _ _ rfl (hown1.alloc _) ⟨wr.heap.size, 0, none⟩ 1 1 [Value.int .u8 ((y % 128 + 128 : Nat) : Int)] rfl rfl ?c1 ?c2 ?c3 ?c4 ?c5 ?_)
      case c1 =>
        intro j u hj
        match j, hj with
        | 0, hj => simp at hj; subst hj; simp [Addr.add]
      case c2 => intro u hu; simp at hu; subst hu; rfl
      case c3 => unfold maxLen; omega
      case c4 => omega
      case c5 => simp; omega
      intro v' w1 hown' hgrow _
      have hnx1 : Wr B w w1 := (hnx.alloc hBr _).grown (hown1.alloc _) hgrow (by simp; omega)
      go_wp2
      go_roundw
      case rel =>
        refine ⟨y / 128, pre ++ [(y % 128 + 128).toUInt8], by go_num, by omega, by rw [hsplit, Lib.uvarint_big h128]; simp, ?_, hnx1⟩
        have ec : ((y % 128 + 128 : Nat) : Int) = (y : Int) % 128 + 128 := by omega
        rw [Lib.byteCells_snoc pre (by omega), List.length_append, List.length_singleton, ← Nat.add_assoc, ec]
        exact hown'
      case measure => simp [intOf]; omega
    · have hsm : Lib.uvarint y = [y.toUInt8] := Lib.uvarint_small (by omega)
      go_wp2_with (at_builtin; refine wpList_append_own _ rfl _ _ 41 rfl B 5 i0 (.int .u8 0) 1 1 Tryz.underlying41 hi hz0 hz1 hz2 rfl (by decide) _ _ _ rfl (hown1.alloc _) ⟨wr.heap.size, 0, none⟩ 1 1 [Value.int .u8 (y : Int)] rfl rfl ?c1 ?c2 ?c3 ?c4 ?c5 ?_)
      case c1 =>
        intro j u hj
        match j, hj with
        | 0, hj => simp at hj; subst hj; simp [Addr.add]
      case c2 => intro u hu; simp at hu; subst hu; rfl
      case c3 => unfold maxLen; omega
      case c4 => omega
      case c5 => simp; omega
      intro v' w1 hown' hgrow _
      have hnx1 : Wr B w w1 := (hnx.alloc hBr _).grown (hown1.alloc _) hgrow (by simp; omega)
      go_wp2
      go_ret
      refine ⟨v', rfl, ?_, hnx1⟩
      rw [hsplit, hsm, Lib.byteCells_snoc pre (by omega), List.length_append, List.length_singleton, ← Nat.add_assoc]
      exact hown'
theorem xor_i64_comm (a b : Int) : bits .xor .i64 a b = bits .xor .i64 b a := by
  show IntKind.i64.wrap ((BitVec.ofInt 64 a ^^^ BitVec.ofInt 64 b).toNat : Int) = IntKind.i64.wrap ((BitVec.ofInt 64 b ^^^ BitVec.ofInt 64 a).toNat : Int)
  rw [BitVec.xor_comm]
theorem xor_u64_comm (a b : Int) : bits .xor .u64 a b = bits .xor .u64 b a := by
  show IntKind.u64.wrap ((BitVec.ofInt 64 a ^^^ BitVec.ofInt 64 b).toNat : Int) = IntKind.u64.wrap ((BitVec.ofInt 64 b ^^^ BitVec.ofInt 64 a).toNat : Int)
  rw [BitVec.xor_comm]
theorem xor_i64_zero (x : Nat) (hx : x < 9223372036854775808) : bits .xor .i64 (x : Int) 0 = x := by
  show IntKind.i64.wrap ((BitVec.ofInt 64 (x : Int) ^^^ BitVec.ofInt 64 0).toNat : Int) = _
  have h2 : (BitVec.ofInt 64 (x : Int)).toNat = x := by
    rw [BitVec.ofInt_natCast, BitVec.toNat_ofNat]; exact Nat.mod_eq_of_lt (by omega)
  have h1 : (BitVec.ofInt 64 0).toNat = 0 := by decide
  rw [BitVec.toNat_xor, h1, h2, Nat.xor_zero, IntKind.wrap_i64]
  omega
theorem xor_u64_zero (x : Nat) (hx : x < 18446744073709551616) : bits .xor .u64 (x : Int) 0 = x := by
  have := bits_xor_u64_nat x 0 (by simpa using hx) (by decide)
  simpa using this

set_option maxHeartbeats 8000000 in
set_option maxRecDepth 100000 in
theorem appendSigned_any (B n : Nat) (x : Int) (h0 : -9223372036854775808 ≤ x) (h1 : x ≤ 9223372036854775807) (sv : Value) (xs : List Value) (w : World) (hown : w.ownsRow B 5 1 sv n xs) (hBw : B ≤ w.heap.size) (hlim : n + 10 ≤ 140737488355328) :
    Calls Tryz.prog 193 #[sv, .int .i64 x] w fun e w' => ∃ v', e = .returned v' ∧ w'.ownsRow B 5 1 v' (n + (Lib.uvarint (Lib.zigzag x)).length) (xs ++ Lib.byteCells (Lib.uvarint (Lib.zigzag x))) ∧ Wr B w w' := by
  have hU := mkHid (append_any B n (Lib.zigzag x) (Lib.zigzag_lt h0 h1) sv xs w hown hBw hlim)
  by_cases hneg : x < 0
  · have E : Hid (bits .xor .u64 (IntKind.u64.wrap (IntKind.u64.wrap x * 2)) (IntKind.u64.wrap (x / 9223372036854775808)) = ((Lib.zigzag x : Nat) : Int)) := by
      have e : x / 9223372036854775808 = -1 := by omega
      rw [e, xor_u64_comm, ← Lib.zigzag_neg h0 hneg]
      rfl
    go_enter Tryz.func193, Tryz.ntmps193
    go_wp2_with fail
    rw [E.out]
    refine hU.out.mono ?_
    rintro e w1 ⟨v', rfl, ho, hb⟩
    go_wp2
    go_ret
    exact ⟨v', rfl, ho, hb⟩
  · have E : Hid (bits .xor .u64 (x * 2) (x / 9223372036854775808) = ((Lib.zigzag x : Nat) : Int)) := by
      have e : x / 9223372036854775808 = 0 := by omega
      have e2 : x * 2 = ((Lib.zigzag x : Nat) : Int) := (Lib.zigzag_nonneg (by omega)).symm
      rw [e, e2]
      exact xor_u64_zero _ (Lib.zigzag_lt h0 h1)
    go_enter Tryz.func193, Tryz.ntmps193
    go_wp2_with fail
    rw [E.out]
    refine hU.out.mono ?_
    rintro e w1 ⟨v', rfl, ho, hb⟩
    go_wp2
    go_ret
    exact ⟨v', rfl, ho, hb⟩
end Go.Proofs.YtlnkbhbpkmnkaaaGreatDoor.E
namespace Go.Proofs.YtlnkbhbpkmnkaaaGreatDoor.E
open Go.RowKit Go.Proofs

theorem step_append_str {P : Program} {w : World} {ops : Array Oper} {o : Oper} {a : Act} {K : Act → World → Prop} {Q : Exit → Act → World → Prop} {E : Prop} (hgd : o.guard = none) (sl x : Operand) (t u : TypeId)
    (ho : o.op = .call { callee := .builtin .append, args := #[sl, x], argTypes := #[t, u] })
    (base : Nat) (e : TypeId) (i : TypeInfo) (ht : P.underlying t = some (.slice e)) (hu : P.underlying u = some .string) (hi : P.info? e = some i) (hz : i.zero = some (.int .u8 0))
    (hsize : i.size = 1) (hby : i.bytes = 1)
    (v : Value) (n : Nat) (xs : List Value) (hs : a.eval sl = v) (hown : w.ownsRow base e 1 v n xs) (s : ByteArray) (hx : a.eval x = .string s)
    (h63 : n + s.size ≤ maxLen) (hbytes : n + s.size ≤ 140737488355328) (hbase : base ≤ w.heap.size)
    (h : ∀ v' w', w'.ownsRow base e 1 v' (n + s.size) (xs ++ Lib.strCells s) → w.grownBy w' v.ownBlock → K (a.put o.dst v') w') :
    if Region.wanted o (yielded ops a.tmps) = true then Oper.wp P o a w K Q else E := by
  have hw : Region.wanted o (yielded ops a.tmps) = true := by simp [Region.wanted, hgd]
  rw [if_pos hw]
  obtain ⟨v', w', hr, h2, h3, h4⟩ := Lib.run_append_own_string (P := P) w base t u o.type e i ht hu hi hz hsize hby v n xs hown s h63 hbytes hbase
  unfold Oper.wp execOp
  simp only [ho, resolve, invoke, builtin, Sem.run_bind, Sem.run_pure, Result.andThen_ok, List.map_toArray, List.map_cons, List.map_nil, hs, hx, hr]
  exact h v' w' h2 h3

theorem byteCells_app (a b : List UInt8) : Lib.byteCells (a ++ b) = Lib.byteCells a ++ Lib.byteCells b := Lib.byteCells_append a b
theorem strCells_bytes (t : ByteArray) : Lib.strCells t = Lib.byteCells t.data.toList := rfl
theorem cell_of_wr {B : Nat} {w w' : World} (h : Wr B w w') {b : Nat} {cs : Array Value} {T : TypeId} {fr : Nat × Nat} (hb : w.heap[b]? = some (.cells cs T fr)) (hT : T ≠ 5) : w'.heap[b]? = some (.cells cs T fr) := by
  rw [h.2 b (by
    rcases Nat.lt_or_ge b w.heap.size with h' | h'
    · exact h'
    · rw [Array.getElem?_eq_none h'] at hb; cases hb) (fun cur fr' e => by rw [hb] at e; injection e with e; injection e with _ e; exact hT e)]
  exact hb

theorem blk_grown {w w' : World} {v : Value} {B n b : Nat} {xs : List Value} {cs : Array Value} {T : TypeId} {fr : Nat × Nat} (hg : w.grownBy w' v.ownBlock) (hb : w.heap[b]? = some (.cells cs T fr)) (ho : w.ownsRow B 5 1 v n xs) (hT : T ≠ 5 := by decide) : w'.heap[b]? = some (.cells cs T fr) := by
  rw [hg.block b (by
    rcases Nat.lt_or_ge b w.heap.size with h' | h'
    · exact h'
    · rw [Array.getElem?_eq_none h'] at hb; cases hb) (fun e => by
    rcases ho.2 with ⟨rfl, _⟩ | ⟨g, cap, cur, rfl, _, hh, _⟩
    · cases e
    · cases e; rw [hb] at hh; injection hh with hh; injection hh with _ hh; exact hT hh)]
  exact hb

set_option maxHeartbeats 8000000 in
set_option maxRecDepth 100000 in
theorem appendValue_any (B n : Nat) (k x : Int) (t : ByteArray) (h0 : -9223372036854775808 ≤ x) (h1 : x ≤ 9223372036854775807) (ht : t.size ≤ 1000000) (sv : Value) (xs : List Value) (w : World) (hown : w.ownsRow B 5 1 sv n xs) (hBw : B ≤ w.heap.size) (hlim : n ≤ 1000000) :
    Calls Tryz.prog 191 #[sv, .agg #[.int .i64 k, .int .i64 x, .string t]] w fun e w' => ∃ v', e = .returned v' ∧ w'.ownsRow B 5 1 v' (n + (valB (k, x, t)).length) (xs ++ Lib.byteCells (valB (k, x, t))) ∧ Wr B w w' := by
  obtain ⟨i0, hi, hz0, hz1, hz2⟩ := info_parts info5
  have HI := mkHid (And.intro hi (And.intro hz0 (And.intro hz1 hz2)))
  clear hi hz0 hz1 hz2
  have HO := mkHid hown
  clear hown
  by_cases hk : k = 1
  · have HV : Hid (valB (k, x, t) = Lib.uvarint (Lib.zigzag x)) := by unfold valB; rw [if_pos hk]; exact rfl
    have hb : (k == 1) = true := by simpa using hk
    have HC : Hid (∀ o, Calls Tryz.prog 193 #[sv, .int .i64 x] (w.alloc o) fun e w' => ∃ v', e = .returned v' ∧ w'.ownsRow B 5 1 v' (n + (Lib.uvarint (Lib.zigzag x)).length) (xs ++ Lib.byteCells (Lib.uvarint (Lib.zigzag x))) ∧ Wr B w w') := fun o =>
      (appendSigned_any B n x h0 h1 sv xs (w.alloc o) (HO.out.alloc o) (by simp; omega) (by omega)).mono fun e w' ⟨v', he, h2, h3⟩ => ⟨v', he, h2, ((Wr.refl B w).alloc hBw o).trans h3⟩
    clear hk
    rw [HV.out]
    go_enter Tryz.func191, Tryz.ntmps191
    go_wp2_with (go_at_call 193; refine (HC.out _).mono ?_; rintro e w1 ⟨v', rfl, ho, hb⟩)
    go_ret
    exact ⟨v', rfl, ho, hb⟩
  · have HV : Hid (valB (k, x, t) = Lib.uvarint t.size ++ t.data.toList) := by unfold valB; rw [if_neg hk]; exact rfl
    have hb : (k == 1) = false := by simpa using hk
    have HC : Hid (∀ W, W.heap[w.heap.size]? = some (.cells #[.int .i64 k, .int .i64 x, .string t] 29) → Wr B w W → W.ownsRow B 5 1 sv n xs → Calls Tryz.prog 125 #[sv, .int .u64 (IntKind.u64.wrap (t.size : Int))] W fun e w' => ∃ v', e = .returned v' ∧ w'.ownsRow B 5 1 v' (n + (Lib.uvarint t.size).length) (xs ++ Lib.byteCells (Lib.uvarint t.size)) ∧ Wr B w w' ∧ w'.heap[w.heap.size]? = some (.cells #[.int .i64 k, .int .i64 x, .string t] 29)) := fun W hh hw ho => by
      rw [show IntKind.u64.wrap (t.size : Int) = ((t.size : Nat) : Int) by rw [IntKind.wrap_u64]; omega]
      exact (append_any B n t.size (by omega) sv xs W ho (by have := hw.1.size; omega) (by omega)).mono fun e w' ⟨v', he, h2, h3⟩ => ⟨v', he, h2, hw.trans h3, cell_of_wr h3 hh (by decide)⟩
    have HK : Hid (∀ W : World, W.heap[w.heap.size]? = some (.cells #[.int .i64 k, .int .i64 x, .string t] 29) → W.cell? ⟨w.heap.size, 2, none⟩ = some (.string t)) := fun W h => by simp [World.cell?, h]
    have hul : (Lib.uvarint t.size).length ≤ 10 := Lib.uvarint_length64 (by omega)
    clear hk
    rw [HV.out]
    go_enter Tryz.func191, Tryz.ntmps191
    go_wp2_with fail
    go_region_held3 (fun w' => w'.cell? ⟨w.heap.size, 2, none⟩ = some (.string t))
      (first
        | (go_keep; done)
        | exact HK.out _ h2b
        | exact HK.out _ (h2b2))
      (first
        | (go_at_call 125; refine (HC.out _ ?_ ?_ ?_).mono ?_; exact heap_alloc_new _ _; exact ((Wr.refl B w).alloc hBw _).drew; exact HO.out.alloc _; rintro e w1 ⟨v1, rfl, ho1, hw1, h2b⟩)
        | (refine step_append_str (by rfl) (.tmp 17) (.tmp 19) 41 9 (by rfl) B 5 i0 Tryz.underlying41 Tryz.underlying9 HI.out.1 HI.out.2.1 HI.out.2.2.1 HI.out.2.2.2 v1 _ _ (by rfl) ho1 t (by rfl) (by unfold maxLen; omega) (by omega) (by have := hw1.1.size; omega) ?_; intro v2 w2 ho2 hg2; have h2b2 := blk_grown hg2 h2b ho1))
    go_wp2
    go_ret
    rw [List.length_append, ← Nat.add_assoc, byteCells_app, ← List.append_assoc]
    exact ⟨v2, rfl, ho2, hw1.grown ho1 hg2 (by have := hw1.1.size; omega)⟩
end Go.Proofs.YtlnkbhbpkmnkaaaGreatDoor.E
namespace Go.Proofs.YtlnkbhbpkmnkaaaGreatDoor.E
open Go.RowKit Go.Proofs

/-- The slice v holds the values l. -/
def Sl (w : World) (v : Value) (l : List V) : Prop :=
  ∃ a c, v = .slice a l.length c ∧ l.length ≤ c ∧ (l ≠ [] → ∃ b off, a = some ⟨b, off, none⟩ ∧ b < w.heap.size ∧
    ∀ j x, l[j]? = some x → w.cell? ⟨b, off + j * 3, none⟩ = some (.int .i64 x.1) ∧ w.cell? ⟨b, off + j * 3 + 1, none⟩ = some (.int .i64 x.2.1) ∧ w.cell? ⟨b, off + j * 3 + 2, none⟩ = some (.string x.2.2))
theorem Sl.up {w W : World} {v : Value} {l : List V} (h : Sl w v l) (hb : Below w.heap.size w W) : Sl W v l := by
  obtain ⟨a, c, e, hcp, hl⟩ := h
  refine ⟨a, c, e, hcp, fun hne => ?_⟩
  obtain ⟨b, off, ea, hlt, hc⟩ := hl hne
  refine ⟨b, off, ea, Nat.lt_of_lt_of_le hlt hb.size, fun j x hj => ?_⟩
  obtain ⟨h0, h1, h2⟩ := hc j x hj
  exact ⟨(hb.cell (p := ⟨b, off + j * 3, none⟩) hlt).trans h0, (hb.cell (p := ⟨b, off + j * 3 + 1, none⟩) hlt).trans h1, (hb.cell (p := ⟨b, off + j * 3 + 2, none⟩) hlt).trans h2⟩
/-- No more than sixty values, each within its bounds. -/
def Few (l : List V) : Prop := l.length ≤ 60 ∧ ∀ x ∈ l, -9223372036854775808 ≤ x.2.1 ∧ x.2.1 ≤ 9223372036854775807 ∧ x.2.2.size ≤ 40
theorem Few.get {l : List V} (h : Few l) {j : Nat} {x : V} (hj : l[j]? = some x) : -9223372036854775808 ≤ x.2.1 ∧ x.2.1 ≤ 9223372036854775807 ∧ x.2.2.size ≤ 40 := h.2 x (List.mem_of_getElem? hj)
theorem valB_len {x : V} (h : -9223372036854775808 ≤ x.2.1 ∧ x.2.1 ≤ 9223372036854775807 ∧ x.2.2.size ≤ 40) : (valB x).length ≤ 50 := by
  unfold valB
  split
  · have := Lib.uvarint_length64 (Lib.zigzag_lt h.1 h.2.1); omega
  · have := Lib.uvarint_length64 (x := x.2.2.size) (by omega)
    have e : x.2.2.data.toList.length = x.2.2.size := by rw [Array.length_toList]; rfl
    rw [List.length_append, e]; omega
theorem take_next {α : Type} {l : List α} {k : Nat} {x : α} (h : l[k]? = some x) : l.take (k + 1) = l.take k ++ [x] := by
  have hk : k < l.length := by
    rcases Nat.lt_or_ge k l.length with h' | h'
    · exact h'
    · rw [List.getElem?_eq_none h'] at h; cases h
  rw [List.take_succ_eq_append_getElem hk]
  rw [List.getElem?_eq_getElem hk] at h
  injection h with h
  rw [h]
theorem orderB_next {l : List V} {k : Nat} {x : V} (h : l[k]? = some x) : orderB (l.take (k + 1)) = orderB (l.take k) ++ valB x := by
  rw [take_next h]; simp [orderB]
theorem orderB_len {l : List V} (h : ∀ x ∈ l, -9223372036854775808 ≤ x.2.1 ∧ x.2.1 ≤ 9223372036854775807 ∧ x.2.2.size ≤ 40) : (orderB l).length ≤ l.length * 50 := by
  induction l with
  | nil => simp [orderB]
  | cons v l ih =>
    have h1 := valB_len (h v (by simp))
    have h2 := ih (fun x hx => h x (by simp [hx]))
    have e : orderB (v :: l) = valB v ++ orderB l := rfl
    rw [e, List.length_append, List.length_cons]; omega
theorem Few.take {l : List V} (h : Few l) (k : Nat) : Few (l.take k) := ⟨by have := h.1; simp; omega, fun x hx => h.2 x (List.mem_of_mem_take hx)⟩
theorem getEx {α : Type} {l : List α} {k : Nat} (h : k < l.length) : ∃ x, l[k]? = some x := ⟨_, List.getElem?_eq_getElem h⟩

set_option maxHeartbeats 8000000 in
set_option maxRecDepth 100000 in
theorem inOrder_any (v : Value) (l : List V) (w : World) (hs : Sl w v l) (hf : Few l) :
    Calls Tryz.prog 180 #[v] w fun e w' => ∃ v', e = .returned v' ∧ w'.ownsRow w.heap.size 5 1 v' (orderB l).length (Lib.byteCells (orderB l)) ∧ Wr w.heap.size w w' := by
  obtain ⟨a, c, rfl, _, hl⟩ := hs
  have HL := mkHid hl
  have HF := mkHid hf
  have h60 := hf.1
  clear hl hf
  go_enter Tryz.func180, Tryz.ntmps180
  go_wp2
  go_loopw [3, 8] (fun vb vi wr => ∃ k : Nat, k ≤ l.length ∧ vi = .int .i64 k ∧ Hid (wr.ownsRow w.heap.size 5 1 vb (orderB (l.take k)).length (Lib.byteCells (orderB (l.take k)))) ∧ Hid (Wr w.heap.size w wr)) (fun _ vi _ => l.length - (intOf vi).toNat)
  case atStart => exact ⟨0, Nat.zero_le _, rfl, World.ownsRow_nil _ _ _ _, Wr.refl _ _⟩
  case round =>
    obtain ⟨k, hk, rfl, ho, hw⟩ := hrel
    by_cases hlt : k < l.length
    · obtain ⟨b, off, rfl, hb, hc⟩ := HL.out (by intro e; rw [e] at hlt; simp at hlt)
      obtain ⟨⟨kx, nx, tx⟩, hx⟩ := getEx hlt
      obtain ⟨g0, g1, g2⟩ := hc k _ hx
      have c0 : wr.cell? ⟨b, off + k * 3, none⟩ = some (.int .i64 kx) := (hw.out.1.cell (p := ⟨b, off + k * 3, none⟩) hb).trans g0
      have c1 : wr.cell? ⟨b, off + k * 3 + 1, none⟩ = some (.int .i64 nx) := (hw.out.1.cell (p := ⟨b, off + k * 3 + 1, none⟩) hb).trans g1
      have c2 : wr.cell? ⟨b, off + k * 3 + 2, none⟩ = some (.string tx) := (hw.out.1.cell (p := ⟨b, off + k * 3 + 2, none⟩) hb).trans g2
      have hr := HF.out.get hx
      have hsz := hw.out.1.size
      have HN := mkHid (orderB_next hx)
      have HC : Hid (∀ o, Calls Tryz.prog 191 #[_, .agg #[.int .i64 kx, .int .i64 nx, .string tx]] (wr.alloc o) fun e w' => ∃ v', e = .returned v' ∧ w'.ownsRow w.heap.size 5 1 v' _ _ ∧ Wr w.heap.size w w') := fun o =>
        (appendValue_any w.heap.size _ kx nx tx hr.1 hr.2.1 (by have := hr.2.2; simp at this; omega) _ _ (wr.alloc o) (ho.out.alloc o) (by simp; omega) (by have h1 := orderB_len (HF.out.take k).2; have h2 := (HF.out.take k).1; omega)).mono fun e w' ⟨v', he, h2, h3⟩ => ⟨v', he, h2, (hw.out.alloc hsz o).trans h3⟩
      clear g0 g1 g2 hc hr
      go_wp2_with (go_at_call 191; refine (HC.out _).mono ?_; rintro e w1 ⟨v1, rfl, ho1, hw1⟩)
      go_roundw
      case rel => exact ⟨k + 1, by omega, by go_num, mkHid (by rw [HN.out, List.length_append, byteCells_app]; exact ho1), mkHid hw1⟩
      case measure => simp [intOf]; omega
    · have e : l.take k = l := List.take_of_length_le (by omega)
      rw [e] at ho
      go_wp2
      go_ret
      exact ⟨_, rfl, ho.out, hw.out⟩

theorem stepsB_next {a : Int} : ∀ {l : List V} {k : Nat} {x : V}, l[k]? = some x → stepsB a (l.take (k + 1)) = stepsB a (l.take k) ++ Lib.uvarint (Lib.zigzag (wr64 (x.2.1 - (if k = 0 then a else (l[k - 1]?.map (·.2.1)).getD 0))))
  | [], k, x, h => by simp at h
  | v :: l, 0, x, h => by simp at h; subst h; simp [stepsB]
  | v :: l, k + 1, x, h => by
    have h' : l[k]? = some x := by simpa using h
    have ih := stepsB_next (a := v.2.1) h'
    simp only [List.take_succ_cons, stepsB, ih, List.append_assoc]
    congr 3
    cases k with
    | zero => simp
    | succ k => simp
theorem wr64_in (x : Int) : -9223372036854775808 ≤ wr64 x ∧ wr64 x ≤ 9223372036854775807 := by unfold wr64; omega
theorem stepsB_len {a : Int} {l : List V} : (stepsB a l).length ≤ l.length * 10 := by
  induction l generalizing a with
  | nil => simp [stepsB]
  | cons v l ih =>
    have h1 := Lib.uvarint_length64 (Lib.zigzag_lt (wr64_in (v.2.1 - a)).1 (wr64_in (v.2.1 - a)).2)
    have h2 := ih (a := v.2.1)
    simp only [stepsB, List.length_append, List.length_cons]; omega
theorem wr_eq (x : Int) : wrap64 x = wr64 x := by unfold wrap64 wr64; rfl
def aheadOf (l : List V) (k : Nat) : Int := if k = 0 then 0 else (l[k - 1]?.map (·.2.1)).getD 0

set_option maxHeartbeats 8000000 in
set_option maxRecDepth 100000 in
theorem inSteps_any (v : Value) (l : List V) (w : World) (hs : Sl w v l) (hf : Few l) :
    Calls Tryz.prog 179 #[v] w fun e w' => ∃ v', e = .returned v' ∧ w'.ownsRow w.heap.size 5 1 v' (stepsB 0 l).length (Lib.byteCells (stepsB 0 l)) ∧ Wr w.heap.size w w' := by
  obtain ⟨a, c, rfl, _, hl⟩ := hs
  have HL := mkHid hl
  have HF := mkHid hf
  have h60 := hf.1
  clear hl hf
  go_enter Tryz.func179, Tryz.ntmps179
  go_wp2
  go_loopw [3, 4, 9] (fun vb va vi wr => ∃ k : Nat, k ≤ l.length ∧ vi = .int .i64 k ∧ va = .int .i64 (aheadOf l k) ∧ Hid (wr.ownsRow w.heap.size 5 1 vb (stepsB 0 (l.take k)).length (Lib.byteCells (stepsB 0 (l.take k)))) ∧ Hid (Wr w.heap.size w wr)) (fun _ _ vi _ => l.length - (intOf vi).toNat)
  case atStart => exact ⟨0, Nat.zero_le _, rfl, rfl, World.ownsRow_nil _ _ _ _, Wr.refl _ _⟩
  case round =>
    obtain ⟨k, hk, rfl, rfl, ho, hw⟩ := hrel
    by_cases hlt : k < l.length
    · obtain ⟨b, off, rfl, hb, hc⟩ := HL.out (by intro e; rw [e] at hlt; simp at hlt)
      obtain ⟨⟨kx, nx, tx⟩, hx⟩ := getEx hlt
      obtain ⟨g0, g1, g2⟩ := hc k _ hx
      have c0 : wr.cell? ⟨b, off + k * 3, none⟩ = some (.int .i64 kx) := (hw.out.1.cell (p := ⟨b, off + k * 3, none⟩) hb).trans g0
      have c1 : wr.cell? ⟨b, off + k * 3 + 1, none⟩ = some (.int .i64 nx) := (hw.out.1.cell (p := ⟨b, off + k * 3 + 1, none⟩) hb).trans g1
      have c2 : wr.cell? ⟨b, off + k * 3 + 2, none⟩ = some (.string tx) := (hw.out.1.cell (p := ⟨b, off + k * 3 + 2, none⟩) hb).trans g2
      have hsz := hw.out.1.size
      have HN : Hid (stepsB 0 (l.take (k + 1)) = stepsB 0 (l.take k) ++ Lib.uvarint (Lib.zigzag (wr64 (nx - aheadOf l k)))) := stepsB_next hx
      have HA : Hid (aheadOf l (k + 1) = nx) := by
        show aheadOf l (k + 1) = nx
        unfold aheadOf; rw [if_neg (by omega), Nat.add_sub_cancel, hx]; rfl
      generalize aheadOf l k = ah at HN
      have HC : Hid (Calls Tryz.prog 193 #[_, .int .i64 (wrap64 (nx - ah))] (wr.alloc (.cells #[.int .i64 kx, .int .i64 nx, .string tx] 29)) fun e w' => ∃ v', e = .returned v' ∧ w'.ownsRow w.heap.size 5 1 v' _ _ ∧ Wr w.heap.size w w' ∧ w'.cell? ⟨wr.heap.size, 1, none⟩ = some (.int .i64 nx)) :=
        (appendSigned_any w.heap.size _ (wrap64 (nx - ah)) (wr_eq (nx - ah) ▸ (wr64_in (nx - ah)).1) (wr_eq (nx - ah) ▸ (wr64_in (nx - ah)).2) _ _ (wr.alloc (.cells #[.int .i64 kx, .int .i64 nx, .string tx] 29)) (ho.out.alloc _) (by simp; omega) (by have h1 := stepsB_len (a := 0) (l := l.take k); have h2 := (HF.out.take k).1; omega)).mono fun e w' ⟨v', he, h2, h3⟩ => ⟨v', he, h2, (hw.out.alloc hsz _).trans h3, by have := cell_of_wr h3 (heap_alloc_new _ _) (by decide); simp [World.cell?, this]⟩
      clear g0 g1 g2 hc
      go_wp2_with (go_at_call 193; refine HC.out.mono ?_; rintro e w1 ⟨v1, rfl, ho1, hw1, hbx⟩)
      go_roundw
      case rel => exact ⟨k + 1, by omega, by go_num, by rw [HA.out], mkHid (by rw [HN.out, List.length_append, byteCells_app, ← wr_eq]; exact ho1), mkHid hw1⟩
      case measure => simp [intOf]; omega
    · have e : l.take k = l := List.take_of_length_le (by omega)
      rw [e] at ho
      go_wp2
      go_ret
      exact ⟨_, rfl, ho.out, hw.out⟩
end Go.Proofs.YtlnkbhbpkmnkaaaGreatDoor.E
namespace Go.Proofs.YtlnkbhbpkmnkaaaGreatDoor.E
open Go.RowKit Go.Proofs Go.Shelf

abbrev aggV (x : V) : Value := .agg #[.int .i64 x.1, .int .i64 x.2.1, .string x.2.2]
def findI (p : V → Bool) : List V → Nat
  | [] => 0
  | x :: l => if p x then 0 else findI p l + 1
def idxI (p : V → Bool) (l : List V) : Int := if findI p l < l.length then (findI p l : Int) else -1
theorem drop_at {α : Type} {l : List α} {k : Nat} {x : α} (h : l[k]? = some x) : l.drop k = x :: l.drop (k + 1) := by
  have hk : k < l.length := by
    rcases Nat.lt_or_ge k l.length with h' | h'
    · exact h'
    · rw [List.getElem?_eq_none h'] at h; cases h
  rw [List.drop_eq_getElem_cons hk]
  rw [List.getElem?_eq_getElem hk] at h
  injection h with h
  rw [h]
/-- What is asked of a predicate at the values of l. -/
def Pr (g : Nat) (lb : Array Value) (p : V → Bool) (l : List V) (w : World) : Prop :=
  ∀ (W : World) (x : V), x ∈ l → Below w.heap.size w W → Calls Tryz.prog g (#[aggV x] ++ lb) W fun e w' => e = .returned (.bool (p x)) ∧ Below w.heap.size w w'

set_option maxHeartbeats 8000000 in
set_option maxRecDepth 100000 in
theorem indexFunc_any (g : Nat) (lb : Array Value) (p : V → Bool) (eg : ∀ args w, (callFunc g args).run Tryz.prog w = .ok (.enter g args) w) (v : Value) (l : List V) (w : World) (hs : Sl w v l) (h60 : l.length ≤ 1000) (hp : Pr g lb p l w) :
    Calls Tryz.prog 176 #[v, .func (.func g) #[] lb] w fun e w' => e = .returned (.int .i64 (idxI p l)) ∧ Below w.heap.size w w' := by
  obtain ⟨a, c, rfl, _, hl⟩ := hs
  have HL := mkHid hl
  have HP := mkHid hp
  clear hl hp
  go_enter Tryz.func176, Tryz.ntmps176
  go_wp2
  go_loopw [8] (fun vi wr => ∃ k : Nat, k ≤ l.length ∧ vi = .int .i64 k ∧ Hid (findI p l = k + findI p (l.drop k)) ∧ Hid (Below w.heap.size w wr)) (fun vi _ => l.length - (intOf vi).toNat)
  case atStart => exact ⟨0, Nat.zero_le _, rfl, mkHid (by simp), Below.refl _ _⟩
  case round =>
    obtain ⟨k, hk, rfl, hi, hw⟩ := hrel
    by_cases hlt : k < l.length
    · obtain ⟨b, off, rfl, hb, hc⟩ := HL.out (by intro e; rw [e] at hlt; simp at hlt)
      obtain ⟨⟨kx, nx, tx⟩, hx⟩ := getEx hlt
      obtain ⟨g0, g1, g2⟩ := hc k _ hx
      have c0 : wr.cell? ⟨b, off + k * 3, none⟩ = some (.int .i64 kx) := (hw.out.cell (p := ⟨b, off + k * 3, none⟩) hb).trans g0
      have c1 : wr.cell? ⟨b, off + k * 3 + 1, none⟩ = some (.int .i64 nx) := (hw.out.cell (p := ⟨b, off + k * 3 + 1, none⟩) hb).trans g1
      have c2 : wr.cell? ⟨b, off + k * 3 + 2, none⟩ = some (.string tx) := (hw.out.cell (p := ⟨b, off + k * 3 + 2, none⟩) hb).trans g2
      have hcall := HP.out wr (kx, nx, tx) (List.mem_of_getElem? hx) hw.out
      have HD := mkHid (drop_at hx)
      clear g0 g1 g2 hc
      cases hq : p (kx, nx, tx) with
      | true =>
        rw [hq] at hcall
        have HR : Hid ((k : Int) = idxI p l) := by
          have : findI p l = k := by rw [hi.out, HD.out]; simp [findI, hq]
          show (k : Int) = idxI p l
          unfold idxI; rw [this, if_pos hlt]
        go_wp2_with (go_at_fn g; refine hcall.mono ?_; rintro e w' ⟨rfl, hb'⟩)
        go_ret
        exact ⟨ret_int HR.out, hb'⟩
      | false =>
        rw [hq] at hcall
        have HR : Hid (findI p l = k + 1 + findI p (l.drop (k + 1))) := by
          show findI p l = k + 1 + findI p (l.drop (k + 1))
          rw [hi.out, HD.out]; simp [findI, hq]; omega
        go_wp2_with (go_at_fn g; refine hcall.mono ?_; rintro e w' ⟨rfl, hb'⟩)
        go_roundw
        case rel => exact ⟨k + 1, by omega, by go_num, HR, mkHid hb'⟩
        case measure => simp [intOf]; omega
    · have HR : Hid (-1 = idxI p l) := by
        have : findI p l = l.length := by rw [hi.out, List.drop_eq_nil_of_le (by omega)]; simp [findI]; omega
        show -1 = idxI p l
        unfold idxI; rw [if_neg (by omega)]
      go_wp2
      go_ret
      exact ⟨ret_int HR.out, hw.out⟩

theorem any_findI (p : V → Bool) : ∀ l, l.any p = decide (findI p l < l.length)
  | [] => by simp [findI]
  | x :: l => by
    by_cases h : p x = true
    · simp [findI, h]
    · simp [findI, h, any_findI p l]
theorem idx_any (p : V → Bool) (l : List V) : decide (0 ≤ idxI p l) = l.any p := by
  rw [any_findI]; unfold idxI
  by_cases h : findI p l < l.length
  · rw [if_pos h]; simp [h]
  · rw [if_neg h]; simp [h]

set_option maxHeartbeats 8000000 in
set_option maxRecDepth 100000 in
theorem containsFunc_any (g : Nat) (lb : Array Value) (p : V → Bool) (eg : ∀ args w, (callFunc g args).run Tryz.prog w = .ok (.enter g args) w) (v : Value) (l : List V) (w : World) (hs : Sl w v l) (h60 : l.length ≤ 1000) (hp : Pr g lb p l w) :
    Calls Tryz.prog 156 #[v, .func (.func g) #[] lb] w fun e w' => e = .returned (.bool (l.any p)) ∧ Below w.heap.size w w' := by
  have HC := mkHid (indexFunc_any g lb p eg v l w hs h60 hp)
  have HR := mkHid (idx_any p l)
  clear hs hp
  go_enter Tryz.func156, Tryz.ntmps156
  go_wp2_with (go_at_call 176; refine HC.out.mono ?_; rintro e w' ⟨rfl, hb'⟩)
  go_ret
  exact ⟨ret_bool HR.out, hb'⟩

theorem eqV_run (x y : V) (w : World) : (Op.equalIn 10000 29 (aggV x) (aggV y)).run Tryz.prog w = .ok (decide (x = y)) w := by
  have hS : Tryz.prog.underlying 29 = some (.struct (Tryz.prog.fieldsOf 29)) := by kernel_rfl
  rw [show (10000 : Nat) = 9999 + 1 from rfl, run_equalIn_agg w 9999 29 _ _ hS (by kernel_rfl)]
  simp only [Program.fieldsOf, Tryz.underlying29]
  go_simp
  obtain ⟨ka, na, ta⟩ := x
  obtain ⟨kb, nb, tb⟩ := y
  have e : (ta.toList = tb.toList) ↔ ta = tb := ⟨fun h => by simp [ByteArray.toList_eq] at h; exact ByteArray.ext h, fun h => by rw [h]⟩
  by_cases h1 : ka = kb <;> by_cases h2 : na = nb <;> by_cases h3 : ta.toList = tb.toList <;> simp [h1, h2, h3, Prod.ext_iff, e.symm]

end Go.Proofs.YtlnkbhbpkmnkaaaGreatDoor.E
namespace Go.Proofs.YtlnkbhbpkmnkaaaGreatDoor.E
open Go.RowKit Go.Proofs Go.Shelf

theorem eqV_is (kx nx ky ny : Int) (tx ty : ByteArray) (w : World) : (Op.equalIn 10000 29 (.agg #[.int .i64 kx, .int .i64 nx, .string tx]) (.agg #[.int .i64 ky, .int .i64 ny, .string ty])).run Tryz.prog w = .ok (decide (((kx, nx, tx) : V) = (ky, ny, ty))) w := eqV_run (kx, nx, tx) (ky, ny, ty) w

set_option maxHeartbeats 8000000 in
set_option maxRecDepth 100000 in
theorem index_any (v : Value) (l : List V) (ky ny : Int) (ty : ByteArray) (w : World) (hs : Sl w v l) (h60 : l.length ≤ 1000) :
    Calls Tryz.prog 192 #[v, .agg #[.int .i64 ky, .int .i64 ny, .string ty]] w fun e w' => e = .returned (.int .i64 (idxI (fun x => decide (((ky, ny, ty) : V) = x)) l)) ∧ Below w.heap.size w w' := by
  obtain ⟨a, c, rfl, _, hl⟩ := hs
  have HL := mkHid hl
  clear hl
  go_enter Tryz.func192, Tryz.ntmps192
  go_wp2
  go_loopw [8] (fun vi wr => ∃ k q : Nat, k ≤ l.length ∧ vi = .int .i64 k ∧ Hid (findI (fun x => decide (((ky, ny, ty) : V) = x)) l = k + findI (fun x => decide (((ky, ny, ty) : V) = x)) (l.drop k)) ∧ Hid (wr = (w.alloc (.cells #[.int .i64 ky, .int .i64 ny, .string ty] 29)).drewN q)) (fun vi _ => l.length - (intOf vi).toNat)
  case atStart => exact ⟨0, 0, Nat.zero_le _, rfl, mkHid (by simp), mkHid rfl⟩
  case round =>
    obtain ⟨k, q, hk, rfl, hi, hw⟩ := hrel
    have HB : Hid (∀ m, Below w.heap.size w (wr.drewN m)) := fun m => by
      rw [hw.out]
      exact ⟨rfl, rfl, rfl, by show _ ≤ (w.alloc _).heap.size; simp, fun i hh => Below.heap_alloc _ _ _ hh⟩
    have HX : Hid (∀ m i, (wr.drewN m).cell? ⟨w.heap.size, i, none⟩ = (#[.int .i64 ky, .int .i64 ny, .string ty] : Array Value)[i]?) := fun m i => by
      rw [hw.out, World.cell?_drewN, World.cell?_drewN]; exact World.cell?_alloc_mark w _ 29 (0, 0) i
    by_cases hlt : k < l.length
    · obtain ⟨b, off, rfl, hb, hc⟩ := HL.out (by intro e; rw [e] at hlt; simp at hlt)
      obtain ⟨⟨kx, nx, tx⟩, hx⟩ := getEx hlt
      obtain ⟨g0, g1, g2⟩ := hc k _ hx
      have c0 : ∀ m, (wr.drewN m).cell? ⟨b, off + k * 3, none⟩ = some (.int .i64 kx) := fun m => ((HB.out m).cell (p := ⟨b, off + k * 3, none⟩) hb).trans g0
      have c1 : ∀ m, (wr.drewN m).cell? ⟨b, off + k * 3 + 1, none⟩ = some (.int .i64 nx) := fun m => ((HB.out m).cell (p := ⟨b, off + k * 3 + 1, none⟩) hb).trans g1
      have c2 : ∀ m, (wr.drewN m).cell? ⟨b, off + k * 3 + 2, none⟩ = some (.string tx) := fun m => ((HB.out m).cell (p := ⟨b, off + k * 3 + 2, none⟩) hb).trans g2
      have d0 : ∀ m, (wr.drewN m).cell? ⟨w.heap.size, 0, none⟩ = some (.int .i64 ky) := fun m => HX.out m 0
      have d1 : ∀ m, (wr.drewN m).cell? ⟨w.heap.size, 1, none⟩ = some (.int .i64 ny) := fun m => HX.out m 1
      have d2 : ∀ m, (wr.drewN m).cell? ⟨w.heap.size, 2, none⟩ = some (.string ty) := fun m => HX.out m 2
      have HD := mkHid (drop_at hx)
      clear g0 g1 g2 hc
      by_cases hq : ((ky, ny, ty) : V) = (kx, nx, tx)
      · have hr : ∀ W, (Op.equalIn 10000 29 (.agg #[.int .i64 ky, .int .i64 ny, .string ty]) (.agg #[.int .i64 kx, .int .i64 nx, .string tx])).run Tryz.prog W = .ok true W := fun W => by rw [eqV_is]; simp [hq]
        have HR : Hid ((k : Int) = idxI (fun x => decide (((ky, ny, ty) : V) = x)) l) := by
          have : findI (fun x => decide (((ky, ny, ty) : V) = x)) l = k := by rw [hi.out, HD.out]; simp [findI, hq]
          show (k : Int) = idxI _ l
          unfold idxI; rw [this, if_pos hlt]
        clear hq hi
        go_wp2_with fail
        go_quiet (fail)
        go_wp2
        go_ret
        exact ⟨ret_int HR.out, HB.out _⟩
      · have hr : ∀ W, (Op.equalIn 10000 29 (.agg #[.int .i64 ky, .int .i64 ny, .string ty]) (.agg #[.int .i64 kx, .int .i64 nx, .string tx])).run Tryz.prog W = .ok false W := fun W => by rw [eqV_is]; simp [hq]
        have HR : Hid (findI (fun x => decide (((ky, ny, ty) : V) = x)) l = k + 1 + findI (fun x => decide (((ky, ny, ty) : V) = x)) (l.drop (k + 1))) := by
          show findI _ l = k + 1 + findI _ (l.drop (k + 1))
          rw [hi.out, HD.out]; simp [findI, hq]; omega
        clear hq hi
        go_wp2_with fail
        go_quiet (fail)
        go_wp2
        go_roundw
        case rel => exact ⟨k + 1, q + nq, by omega, by go_num, HR, mkHid (by rw [hw.out, World.drewN_drewN])⟩
        case measure => simp [intOf]; omega
    · have HR : Hid (-1 = idxI (fun x => decide (((ky, ny, ty) : V) = x)) l) := by
        have : findI (fun x => decide (((ky, ny, ty) : V) = x)) l = l.length := by rw [hi.out, List.drop_eq_nil_of_le (by omega)]; simp [findI]; omega
        show -1 = idxI _ l
        unfold idxI; rw [if_neg (by omega)]
      clear hi
      go_wp2
      go_ret
      exact ⟨ret_int HR.out, HB.out 0⟩
end Go.Proofs.YtlnkbhbpkmnkaaaGreatDoor.E
namespace Go.Proofs.YtlnkbhbpkmnkaaaGreatDoor.E
open Go.RowKit Go.Proofs Go.Shelf

theorem take_eq_ext {α : Type} {l m : List α} {k : Nat} {x y : α} (h : l.take k = m.take k) (hx : l[k]? = some x) (hy : m[k]? = some y) (e : x = y) : l.take (k + 1) = m.take (k + 1) := by
  rw [take_next hx, take_next hy, h, e]
theorem ne_of_at {α : Type} {l m : List α} {k : Nat} {x y : α} (hx : l[k]? = some x) (hy : m[k]? = some y) (e : x ≠ y) : l ≠ m := by
  rintro rfl; rw [hx] at hy; exact e (Option.some.inj hy)

set_option maxHeartbeats 8000000 in
set_option maxRecDepth 100000 in
theorem equal_any (v1 v2 : Value) (l m : List V) (w : World) (hs1 : Sl w v1 l) (hs2 : Sl w v2 m) (h60 : l.length ≤ 1000) (_h61 : m.length ≤ 1000) :
    Calls Tryz.prog 19 #[v1, v2] w fun e w' => e = .returned (.bool (decide (l = m))) ∧ Below w.heap.size w w' := by
  obtain ⟨a1, cc1, rfl, _, hl1⟩ := hs1
  obtain ⟨a2, cc2, rfl, _, hl2⟩ := hs2
  have HL1 := mkHid hl1
  have HL2 := mkHid hl2
  clear hl1 hl2
  by_cases hn : l.length = m.length
  · generalize hN : m.length = n at *
    have HE : Hid (l.length = n ∧ m.length = n) := ⟨hn, hN⟩
    rw [hn]
    rw [hn] at h60
    clear hn hN
    go_enter Tryz.func19, Tryz.ntmps19
    go_wp2
    go_loopw [13] (fun vi wr => ∃ k q : Nat, k ≤ n ∧ vi = .int .i64 k ∧ Hid (l.take k = m.take k) ∧ Hid (wr = w.drewN q)) (fun vi _ => n - (intOf vi).toNat)
    case atStart => exact ⟨0, 0, Nat.zero_le _, rfl, mkHid (by simp), mkHid rfl⟩
    case round =>
      obtain ⟨k, q, hk, rfl, hi, hw⟩ := hrel
      have HB : Hid (∀ m, Below w.heap.size w (wr.drewN m)) := fun m => by
        rw [hw.out]
        exact ⟨rfl, rfl, rfl, Nat.le_refl _, fun i hh => rfl⟩
      by_cases hlt : k < n
      · obtain ⟨b1, off1, rfl, hb1, hc1⟩ := HL1.out (by intro e; have := HE.out.1; rw [e] at this; simp at this; omega)
        obtain ⟨b2, off2, rfl, hb2, hc2⟩ := HL2.out (by intro e; have := HE.out.2; rw [e] at this; simp at this; omega)
        obtain ⟨⟨kx, nx, tx⟩, hx⟩ := getEx (l := l) (k := k) (by have := HE.out.1; omega)
        obtain ⟨⟨ky, ny, ty⟩, hy⟩ := getEx (l := m) (k := k) (by have := HE.out.2; omega)
        obtain ⟨g0, g1, g2⟩ := hc1 k _ hx
        obtain ⟨f0, f1, f2⟩ := hc2 k _ hy
        have c0 : ∀ m, (wr.drewN m).cell? ⟨b1, off1 + k * 3, none⟩ = some (.int .i64 kx) := fun m => ((HB.out m).cell (p := ⟨b1, off1 + k * 3, none⟩) hb1).trans g0
        have c1 : ∀ m, (wr.drewN m).cell? ⟨b1, off1 + k * 3 + 1, none⟩ = some (.int .i64 nx) := fun m => ((HB.out m).cell (p := ⟨b1, off1 + k * 3 + 1, none⟩) hb1).trans g1
        have c2 : ∀ m, (wr.drewN m).cell? ⟨b1, off1 + k * 3 + 2, none⟩ = some (.string tx) := fun m => ((HB.out m).cell (p := ⟨b1, off1 + k * 3 + 2, none⟩) hb1).trans g2
        have d0 : ∀ m, (wr.drewN m).cell? ⟨b2, off2 + k * 3, none⟩ = some (.int .i64 ky) := fun m => ((HB.out m).cell (p := ⟨b2, off2 + k * 3, none⟩) hb2).trans f0
        have d1 : ∀ m, (wr.drewN m).cell? ⟨b2, off2 + k * 3 + 1, none⟩ = some (.int .i64 ny) := fun m => ((HB.out m).cell (p := ⟨b2, off2 + k * 3 + 1, none⟩) hb2).trans f1
        have d2 : ∀ m, (wr.drewN m).cell? ⟨b2, off2 + k * 3 + 2, none⟩ = some (.string ty) := fun m => ((HB.out m).cell (p := ⟨b2, off2 + k * 3 + 2, none⟩) hb2).trans f2
        clear g0 g1 g2 hc1 f0 f1 f2 hc2
        by_cases hq : ((kx, nx, tx) : V) = (ky, ny, ty)
        · have hr : ∀ W, (Op.equalIn 10000 29 (.agg #[.int .i64 kx, .int .i64 nx, .string tx]) (.agg #[.int .i64 ky, .int .i64 ny, .string ty])).run Tryz.prog W = .ok true W := fun W => by rw [eqV_is]; simp [hq]
          have HR : Hid (l.take (k + 1) = m.take (k + 1)) := take_eq_ext hi.out hx hy hq
          clear hq hi hx hy
          go_wp2_with fail
          go_quiet (fail)
          go_wp2
          go_roundw
          case rel => exact ⟨k + 1, q + nq, by omega, by go_num, HR, mkHid (by rw [hw.out, World.drewN_drewN])⟩
          case measure => simp [intOf]; omega
        · have hr : ∀ W, (Op.equalIn 10000 29 (.agg #[.int .i64 kx, .int .i64 nx, .string tx]) (.agg #[.int .i64 ky, .int .i64 ny, .string ty])).run Tryz.prog W = .ok false W := fun W => by rw [eqV_is]; simp [hq]
          have HR : Hid (false = decide (l = m)) := by
            have := ne_of_at hx hy hq
            show false = decide (l = m)
            simp [this]
          clear hq hi hx hy
          go_wp2_with fail
          go_quiet (fail)
          go_wp2
          go_ret
          exact ⟨ret_bool HR.out, HB.out _⟩
      · have HR : Hid (true = decide (l = m)) := by
          have h1 := hi.out
          rw [List.take_of_length_le (by have := HE.out.1; omega), List.take_of_length_le (by have := HE.out.2; omega)] at h1
          show true = decide (l = m)
          simp [h1]
        clear hi
        go_wp2
        go_ret
        exact ⟨ret_bool HR.out, HB.out 0⟩
  · have HR : Hid (false = decide (l = m)) := by
      show false = decide (l = m)
      have : l ≠ m := fun e => hn (by rw [e])
      simp [this]
    have hn1 : ¬ (l.length : Int) = (m.length : Int) := by omega
    have hn2 : ((l.length : Int) == (m.length : Int)) = false := by simpa using hn1
    clear hn hn1
    go_enter Tryz.func19, Tryz.ntmps19
    go_wp2
    go_ret
    exact ⟨ret_bool HR.out, Below.refl _ _⟩

set_option maxHeartbeats 8000000 in
set_option maxRecDepth 100000 in
theorem closure45_any (kx nx ky ny : Int) (tx ty : ByteArray) (bx : Nat) (w : World) (hb : bx < w.heap.size) (d0 : w.cell? ⟨bx, 0, none⟩ = some (.int .i64 ky)) (d1 : w.cell? ⟨bx, 1, none⟩ = some (.int .i64 ny)) (d2 : w.cell? ⟨bx, 2, none⟩ = some (.string ty)) :
    Calls Tryz.prog 190 #[.agg #[.int .i64 kx, .int .i64 nx, .string tx], .pointer (some ⟨bx, 0, none⟩)] w fun e w' => e = .returned (.bool (!decide (((kx, nx, tx) : V) = (ky, ny, ty)))) ∧ Below w.heap.size w w' := by
  have hne : ¬ w.heap.size = bx := by omega
  have hr := eqV_is kx nx ky ny tx ty
  generalize decide (((kx, nx, tx) : V) = (ky, ny, ty)) = q at hr
  go_enter Tryz.func190, Tryz.ntmps190
  go_wp2
  go_ret
  exact ⟨rfl, (Below.refl _ _).alloc (Nat.le_refl _) _⟩
end Go.Proofs.YtlnkbhbpkmnkaaaGreatDoor.E
namespace Go.Proofs.YtlnkbhbpkmnkaaaGreatDoor.E
open Go.RowKit Go.Proofs Go.Shelf

def lenOf : Value → Nat
  | .slice _ n _ => n
  | _ => 0
theorem runsB_fuel : ∀ (f : Nat) (l : List V), l.length ≤ f → runsB f l = runsB l.length l
  | 0, [], _ => rfl
  | 0, _ :: _, h => by simp at h
  | f + 1, [], _ => rfl
  | f + 1, v :: l, h => by
    have hs := same_le v l
    have h1 : (l.drop (same v l)).length ≤ f := by simp at h ⊢; omega
    have h2 : (l.drop (same v l)).length ≤ l.length := by simp
    simp only [List.length_cons, runsB]
    rw [runsB_fuel f _ h1, runsB_fuel l.length _ h2]
theorem find_same (v : V) : ∀ l : List V, findI (fun y => !decide (y = v)) l = same v l
  | [] => rfl
  | x :: l => by
    unfold findI same
    by_cases h : x = v
    · simp [h, find_same v l]
    · simp [h]
theorem runsB_cons (v : V) (l : List V) : runsB (v :: l).length (v :: l) = Lib.uvarint (same v l + 1) ++ valB v ++ runsB (l.drop (same v l)).length (l.drop (same v l)) := by
  simp only [List.length_cons, runsB]
  rw [runsB_fuel _ _ (by simp)]
theorem same_cons (v : V) (l : List V) : same v (v :: l) = same v l + 1 := by simp [same]
theorem ownsRow_up {w W : World} {B e z n : Nat} {v : Value} {xs : List Value} (h : w.ownsRow B e z v n xs) (hb : Below w.heap.size w W) : W.ownsRow B e z v n xs := by
  refine ⟨h.1, ?_⟩
  rcases h.2 with h' | ⟨g, cap, cur, e1, e2, e3, e4⟩
  · exact .inl h'
  · refine .inr ⟨g, cap, cur, e1, e2, ?_, e4⟩
    rw [hb.block g (by
      rcases Nat.lt_or_ge g w.heap.size with h' | h'
      · exact h'
      · rw [Array.getElem?_eq_none h'] at e3; cases e3)]
    exact e3
theorem ownsRow_base {w : World} {B B' e z n : Nat} {v : Value} {xs : List Value} (h : w.ownsRow B e z v n xs) (hB : B' ≤ B) : w.ownsRow B' e z v n xs := by
  refine ⟨h.1, ?_⟩
  rcases h.2 with h' | ⟨g, cap, cur, e1, e2, e3⟩
  · exact .inl h'
  · exact .inr ⟨g, cap, cur, e1, Nat.le_trans hB e2, e3⟩
theorem Few.drop {l : List V} (h : Few l) (k : Nat) : Few (l.drop k) := ⟨by have := h.1; simp; omega, fun x hx => h.2 x (List.mem_of_mem_drop hx)⟩
theorem blk_lt {w : World} {b : Nat} {o : Obj} (h : w.heap[b]? = some o) : b < w.heap.size := by
  rcases Nat.lt_or_ge b w.heap.size with h' | h'
  · exact h'
  · rw [Array.getElem?_eq_none h'] at h; cases h
theorem blk_up {w W : World} {b : Nat} {o : Obj} (h : w.heap[b]? = some o) (hb : Below w.heap.size w W) : W.heap[b]? = some o := (hb.block b (blk_lt h)).trans h
theorem runsB_len (l : List V) (h : ∀ x ∈ l, -9223372036854775808 ≤ x.2.1 ∧ x.2.1 ≤ 9223372036854775807 ∧ x.2.2.size ≤ 40) (hl : l.length ≤ 1000) : ∀ f, (runsB f l).length ≤ f * 60 := by
  intro f
  induction f generalizing l with
  | zero => simp [runsB]
  | succ f ih =>
    cases l with
    | nil => simp [runsB]
    | cons v l =>
      have h1 := valB_len (h v (by simp))
      have hs := same_le v l
      have h2 := ih (l.drop (same v l)) (fun x hx => h x (by simp [List.mem_of_mem_drop hx])) (by simp at hl ⊢; omega)
      have h3 := Lib.uvarint_length64 (x := same v l + 1) (by simp at hl; omega)
      simp only [runsB, List.length_append]; omega

theorem append_ctr {w : World} {B bx n : Nat} {vb : Value} {cs : Array Value} {xs : List Value} (x : Nat) (W : World) (hx : x < 9223372036854775808) (hB : B ≤ w.heap.size) (ho : W.ownsRow B 5 1 vb n xs) (hn : n ≤ 1000000) (hw : Wr B w W) (hb : W.heap[bx]? = some (.cells cs 29)) :
    Calls Tryz.prog 125 #[vb, .int .u64 (IntKind.u64.wrap (x : Int))] W fun e w' => ∃ v', e = .returned v' ∧ w'.ownsRow B 5 1 v' (n + (Lib.uvarint x).length) (xs ++ Lib.byteCells (Lib.uvarint x)) ∧ Wr B w w' ∧ w'.heap[bx]? = some (.cells cs 29) := by
  rw [show IntKind.u64.wrap (x : Int) = ((x : Nat) : Int) by rw [IntKind.wrap_u64]; omega]
  exact (append_any B n x (by omega) vb xs W ho (by have := hw.1.size; omega) (by omega)).mono fun e w' ⟨v', he, h2, h3⟩ => ⟨v', he, h2, hw.trans h3, cell_of_wr h3 hb (by decide)⟩
theorem value_ctr {w : World} {B bx n : Nat} {vb : Value} {cs : Array Value} {xs : List Value} (k x : Int) (t : ByteArray) (W : World) (hr : -9223372036854775808 ≤ x ∧ x ≤ 9223372036854775807 ∧ t.size ≤ 40) (hB : B ≤ w.heap.size) (ho : W.ownsRow B 5 1 vb n xs) (hn : n ≤ 1000000) (hw : Wr B w W) (hb : W.heap[bx]? = some (.cells cs 29)) :
    Calls Tryz.prog 191 #[vb, .agg #[.int .i64 k, .int .i64 x, .string t]] W fun e w' => ∃ v', e = .returned v' ∧ w'.ownsRow B 5 1 v' (n + (valB (k, x, t)).length) (xs ++ Lib.byteCells (valB (k, x, t))) ∧ Wr B w w' ∧ w'.heap[bx]? = some (.cells cs 29) :=
  (appendValue_any B n k x t hr.1 hr.2.1 (by omega) vb xs W ho (by have := hw.1.size; omega) hn).mono fun e w' ⟨v', he, h2, h3⟩ => ⟨v', he, h2, hw.trans h3, cell_of_wr h3 hb (by decide)⟩
theorem cell_box {W : World} {bx : Nat} {k n : Int} {t : ByteArray} (h : W.heap[bx]? = some (.cells #[.int .i64 k, .int .i64 n, .string t] 29)) :
    W.cell? ⟨bx, 0, none⟩ = some (.int .i64 k) ∧ W.cell? ⟨bx, 1, none⟩ = some (.int .i64 n) ∧ W.cell? ⟨bx, 2, none⟩ = some (.string t) := by
  simp [World.cell?, h]

theorem idx45 {w wr : World} {L : List V} {b off c : Nat} (kx nx : Int) (tx : ByteArray) (hS : Sl w (.slice (some ⟨b, off, none⟩) L.length c) L) (hw : Below w.heap.size w wr) (hl : L.length ≤ 1000) :
    Calls Tryz.prog 176 #[.slice (some ⟨b, off, none⟩) L.length c, .func (.func 190) #[] #[.pointer (some ⟨wr.heap.size, 0, none⟩)]] (wr.alloc (.cells #[.int .i64 kx, .int .i64 nx, .string tx] 29)) fun e w' => e = .returned (.int .i64 (idxI (fun y => !decide (y = ((kx, nx, tx) : V))) L)) ∧ Below (wr.alloc (.cells #[.int .i64 kx, .int .i64 nx, .string tx] 29)).heap.size (wr.alloc (.cells #[.int .i64 kx, .int .i64 nx, .string tx] 29)) w' ∧ w'.heap[wr.heap.size]? = some (.cells #[.int .i64 kx, .int .i64 nx, .string tx] 29) := by
  have hup : Below w.heap.size w (wr.alloc (.cells #[.int .i64 kx, .int .i64 nx, .string tx] 29)) := hw.alloc hw.size _
  have hbox : (wr.alloc (.cells #[.int .i64 kx, .int .i64 nx, .string tx] 29)).heap[wr.heap.size]? = some (.cells #[.int .i64 kx, .int .i64 nx, .string tx] 29) := heap_alloc_new _ _
  refine (indexFunc_any 190 #[.pointer (some ⟨wr.heap.size, 0, none⟩)] (fun y => !decide (y = ((kx, nx, tx) : V))) (enters_of Tryz.func190 (by kernel_rfl) rfl) _ L _ (hS.up hup) hl ?_).mono fun e w' ⟨he, hb⟩ => ⟨he, hb, blk_up hbox hb⟩
  intro W x _ hW
  have hbox' := blk_up hbox hW
  obtain ⟨d0, d1, d2⟩ := cell_box hbox'
  exact (closure45_any x.1 x.2.1 kx nx x.2.2 tx wr.heap.size W (blk_lt hbox') d0 d1 d2).mono fun e w' ⟨he, hb⟩ => ⟨he, hW.trans (hb.mono hW.size)⟩

set_option maxHeartbeats 8000000 in
set_option maxRecDepth 100000 in
theorem inRuns_any (v : Value) (l : List V) (w : World) (hs : Sl w v l) (hf : Few l) :
    Calls Tryz.prog 177 #[v] w fun e w' => ∃ v', e = .returned v' ∧ w'.ownsRow w.heap.size 5 1 v' (runsB l.length l).length (Lib.byteCells (runsB l.length l)) ∧ Wr w.heap.size w w' := by
  have HS := mkHid hs
  have HF := mkHid hf
  have HN : Hid ((runsB l.length l).length ≤ 3600) := by have h1 := runsB_len l hf.2 (by have := hf.1; omega) l.length; have h2 := hf.1; show (runsB l.length l).length ≤ 3600; omega
  obtain ⟨a, c, rfl, _, _⟩ := hs
  clear hf
  have e45 : ∀ args w, (callFunc 190 args).run Tryz.prog w = .ok (.enter 190 args) w := enters_of Tryz.func190 (by kernel_rfl) rfl
  go_enter Tryz.func177, Tryz.ntmps177
  go_wp2
  go_loopw [0, 3] (fun v0 vb wr => ∃ (L : List V) (pre : List UInt8), Hid (Sl w v0 L) ∧ Hid (Few L) ∧ Hid (runsB l.length l = pre ++ runsB L.length L) ∧ Hid (wr.ownsRow w.heap.size 5 1 vb pre.length (Lib.byteCells pre)) ∧ Hid (Wr w.heap.size w wr)) (fun v0 _ _ => lenOf v0)
  case atStart => exact ⟨l, [], HS, HF, mkHid rfl, World.ownsRow_nil _ _ _ _, Wr.refl _ _⟩
  case round =>
    obtain ⟨L, pre, hS, hF, hR, ho, hw⟩ := hrel
    obtain ⟨a, c, rfl, hcp, hl⟩ := hS.out
    cases L with
    | nil =>
      have HE : Hid (runsB l.length l = pre) := mkHid (by rw [hR.out]; simp [runsB])
      have hl0 : ([] : List V).length = 0 := rfl
      clear hl
      rw [hl0]
      go_wp2
      go_ret
      exact ⟨_, rfl, by rw [HE.out]; exact ho.out, hw.out⟩
    | cons x R =>
      obtain ⟨kx, nx, tx⟩ := x
      obtain ⟨b, off, rfl, hb, hc⟩ := hl (by simp)
      obtain ⟨g0, g1, g2⟩ := hc 0 _ rfl
      simp only [Nat.zero_mul, Nat.add_zero] at g0 g1 g2
      have c0 : wr.cell? ⟨b, off, none⟩ = some (.int .i64 kx) := (hw.out.1.cell (p := ⟨b, off, none⟩) hb).trans g0
      have c1 : wr.cell? ⟨b, off + 1, none⟩ = some (.int .i64 nx) := (hw.out.1.cell (p := ⟨b, off + 1, none⟩) hb).trans g1
      have c2 : wr.cell? ⟨b, off + 2, none⟩ = some (.string tx) := (hw.out.1.cell (p := ⟨b, off + 2, none⟩) hb).trans g2
      have hsz := hw.out.1.size
      have HI := mkHid (idx45 (w := w) (wr := wr) (L := (kx, nx, tx) :: R) (c := c) (b := b) (off := off) kx nx tx hS.out hw.out.1 (by have := hF.out.1; omega))
      have hle := same_le (kx, nx, tx) R
      have hfl := hF.out.1
      have HRC := mkHid (runsB_cons (kx, nx, tx) R)
      have HV := hF.out.get (j := 0) (x := (kx, nx, tx)) rfl
      have HPL : Hid (pre.length ≤ 3600) := by have h1 := congrArg List.length hR.out; rw [List.length_append] at h1; have h2 := HN.out; show pre.length ≤ 3600; omega
      have HCV := mkHid (fun W vb' n' xs' h1 h2 h3 h4 => value_ctr (w := w) (B := w.heap.size) (bx := wr.heap.size) (n := n') (vb := vb') (cs := #[.int .i64 kx, .int .i64 nx, .string tx]) (xs := xs') kx nx tx W HV (Nat.le_refl _) h1 h2 h3 h4)
      have HCA := mkHid (fun W x vb' n' xs' h0 h1 h2 h3 h4 => append_ctr (w := w) (B := w.heap.size) (bx := wr.heap.size) (n := n') (vb := vb') (cs := #[.int .i64 kx, .int .i64 nx, .string tx]) (xs := xs') x W h0 (Nat.le_refl _) h1 h2 h3 h4)
      simp only [List.length_cons] at HI hcp hfl ⊢
      generalize hn : R.length = n at *
      obtain ⟨r, hrn⟩ : ∃ r, r = same (kx, nx, tx) R + 1 := ⟨_, rfl⟩
      have HRN := mkHid hrn
      have HNL := mkHid hn
      have hr1 : 1 ≤ r := by omega
      have hr2 : r ≤ n + 1 := by omega
      have hsz2 : w.heap.size ≤ wr.heap.size + 1 := by omega
      have HWB : Hid (Wr w.heap.size w (wr.alloc (.cells #[.int .i64 kx, .int .i64 nx, .string tx] 29))) := hw.out.alloc hsz _
      have HOB : Hid ((wr.alloc (.cells #[.int .i64 kx, .int .i64 nx, .string tx] 29)).ownsRow w.heap.size 5 1 _ pre.length (Lib.byteCells pre)) := mkHid (ho.out.alloc _)
      have HEND : Hid (∀ (v0' : Value) (w4 : World), w4.ownsRow w.heap.size 5 1 v0' (pre.length + (Lib.uvarint r).length + (valB (kx, nx, tx)).length) (Lib.byteCells pre ++ Lib.byteCells (Lib.uvarint r) ++ Lib.byteCells (valB (kx, nx, tx))) → ∃ pre', runsB l.length l = pre' ++ runsB (R.drop (same (kx, nx, tx) R)).length (R.drop (same (kx, nx, tx) R)) ∧ w4.ownsRow w.heap.size 5 1 v0' pre'.length (Lib.byteCells pre')) := fun v0' w4 h4 => ⟨pre ++ Lib.uvarint r ++ valB (kx, nx, tx), by rw [hR.out, HRC.out, HRN.out]; simp, by rw [List.length_append, List.length_append, byteCells_app, byteCells_app]; exact h4⟩
      have HUL : Hid ((Lib.uvarint r).length ≤ 10) := Lib.uvarint_length64 (by omega)
      have HSD : Hid (∀ a' c', n + 1 - r ≤ c' → (r < n + 1 → a' = some ⟨b, off + r * 3, none⟩) → Sl w (.slice a' (n + 1 - r) c') (R.drop (same (kx, nx, tx) R)) ∧ (R.drop (same (kx, nx, tx) R)).length = n + 1 - r) := fun a' c' h1 h2 => by
        have hlen : (R.drop (same (kx, nx, tx) R)).length = n + 1 - r := by simp; have := HNL.out; have := HRN.out; omega
        refine ⟨⟨a', c', by rw [hlen], by rw [hlen]; exact h1, fun hne => ⟨b, off + r * 3, h2 ?_, hb, fun j x hj => ?_⟩⟩, hlen⟩
        · rcases Nat.lt_or_ge r (n + 1) with h' | h'
          · exact h'
          · exact absurd (List.eq_nil_of_length_eq_zero (by omega)) hne
        · have := hc (r + j) x (by rw [HRN.out, Nat.add_right_comm, List.getElem?_cons_succ]; rwa [List.getElem?_drop] at hj)
          rw [show off + r * 3 + j * 3 = off + (r + j) * 3 by omega]
          exact this
      have HFD : Hid (Few (R.drop (same (kx, nx, tx) R))) := by have := hF.out.drop (same (kx, nx, tx) R + 1); rw [List.drop_succ_cons] at this; exact this
      clear hn hrn g0 g1 g2 hl HV hle
      have hidx : idxI (fun y => !decide (y = ((kx, nx, tx) : V))) ((kx, nx, tx) :: R) = if r < n + 1 then ((r : Nat) : Int) else -1 := by
        unfold idxI; rw [find_same, same_cons, ← HRN.out, List.length_cons, HNL.out]
      rw [hidx] at HI
      clear hidx
      by_cases hA : r < n + 1
      · rw [if_pos hA] at HI
        go_wp2_with (go_at_call 176; refine HI.out.mono ?_; rintro e w2 ⟨rfl, hb2, hbx2⟩)
        have HA := mkHid (HCA.out w2.drew r _ _ _ (by omega) (ownsRow_up HOB.out hb2.drew) (by have := HPL.out; omega) (HWB.out.trans (Wr.of_below hb2 (by simp; omega))).drew hbx2)
        go_region_held3 (fun w' => w'.cell? ⟨wr.heap.size, 0, none⟩ = some (.int .i64 kx) ∧ w'.cell? ⟨wr.heap.size, 1, none⟩ = some (.int .i64 nx) ∧ w'.cell? ⟨wr.heap.size, 2, none⟩ = some (.string tx))
          (first
            | (go_keep; done)
            | exact cell_box hbx2
            | exact cell_box hbx3
            | exact cell_box hbx4)
          (first
            | (go_at_call 125; refine HA.out.mono ?_; rintro e w3 ⟨v3, rfl, ho3, hw3, hbx3⟩)
            | (go_at_call 191; refine (HCV.out _ _ _ _ ho3 ?_ hw3 hbx3).mono ?_; (have := HPL.out; have := HUL.out; omega); rintro e w4 ⟨v4, rfl, ho4, hw4, hbx4⟩))
        obtain ⟨pre', hR', ho'⟩ := HEND.out _ _ ho4
        have HR' := mkHid hR'
        have HO' := mkHid ho'
        clear hR' ho'
        go_wp2
        obtain ⟨hSl, _⟩ := HSD.out (some ⟨b, off + r * 3, none⟩) (c - r) (by omega) (fun _ => rfl)
        exact ⟨⟨_, pre', mkHid hSl, HFD, HR', HO', mkHid hw4⟩, by show n + 1 - r < n + 1; omega⟩
      · rw [if_neg hA] at HI
        have er : ((r : Nat) : Int) = (n : Int) + 1 := by omega
        go_wp2_with (go_at_call 176; refine HI.out.mono ?_; rintro e w2 ⟨rfl, hb2, hbx2⟩)
        have HA := HCA.out w2.drew r _ _ _ (by omega) (ownsRow_up HOB.out hb2.drew) (by have := HPL.out; omega) (HWB.out.trans (Wr.of_below hb2 (by simp; omega))).drew hbx2
        rw [er] at HA
        have HA := mkHid HA
        clear er
        go_region_held3 (fun w' => w'.cell? ⟨wr.heap.size, 0, none⟩ = some (.int .i64 kx) ∧ w'.cell? ⟨wr.heap.size, 1, none⟩ = some (.int .i64 nx) ∧ w'.cell? ⟨wr.heap.size, 2, none⟩ = some (.string tx))
          (first
            | (go_keep; done)
            | exact cell_box hbx2
            | exact cell_box hbx3
            | exact cell_box hbx4)
          (first
            | (go_at_call 125; refine HA.out.mono ?_; rintro e w3 ⟨v3, rfl, ho3, hw3, hbx3⟩)
            | (go_at_call 191; refine (HCV.out _ _ _ _ ho3 ?_ hw3 hbx3).mono ?_; (have := HPL.out; have := HUL.out; omega); rintro e w4 ⟨v4, rfl, ho4, hw4, hbx4⟩))
        obtain ⟨pre', hR', ho'⟩ := HEND.out _ _ ho4
        have HR' := mkHid hR'
        have HO' := mkHid ho'
        clear hR' ho'
        go_wp2
        obtain ⟨hSl, _⟩ := HSD.out (if c = n + 1 then some ⟨b, off, none⟩ else some ⟨b, off + (n + 1) * 3, none⟩) (c - (n + 1)) (by omega) (fun h => absurd h hA)
        rw [show n + 1 - r = 0 by omega] at hSl
        exact ⟨⟨_, pre', mkHid hSl, HFD, HR', HO', mkHid hw4⟩, by show 0 < n + 1; omega⟩
end Go.Proofs.YtlnkbhbpkmnkaaaGreatDoor.E
namespace Go.Proofs.YtlnkbhbpkmnkaaaGreatDoor.E
open Go.RowKit Go.Proofs Go.Shelf

theorem info32 : (Tryz.prog.info? 29).map (fun i => (i.zero, i.size, i.bytes)) = some (some (.agg #[.int .i64 0, .int .i64 0, .string ⟨#[]⟩]), 3, 32) := by kernel_rfl

/-- An append of a row, nil or not, to a row of the call's own. -/
theorem wpList_append_row {P : Program} {w : World} {ops : Array Oper} {rest : List Oper} {o : Oper} {a : Act} {Q : Exit → Act → World → Prop} (hgd : o.guard = none) (s x : Operand) (t : TypeId)
    (ho : o.op = .call { callee := .builtin .append, args := #[s, x], argTypes := #[t, t] })
    (base : Nat) (e : TypeId) (i : TypeInfo) (z : Value) (size bytes : Nat) (ht : P.underlying t = some (.slice e)) (hi : P.info? e = some i) (hz : i.zero = some z)
    (hsize : i.size = size) (hby : i.bytes = bytes) (hzs : z.cells.size = size) (hsz : 0 < size)
    (v : Value) (n : Nat) (xs : List Value) (hs : a.eval s = v) (hown : w.ownsRow base e size v n xs)
    (u : Value) (m Bu : Nat) (ys : List Value) (hx : a.eval x = u) (hu : w.ownsRow Bu e size u m ys) (h1 : ∀ y ∈ ys, y.oneCell' = true)
    (h63 : n + m ≤ maxLen) (hbytes : (n + m) * bytes ≤ 140737488355328) (hbase : base ≤ w.heap.size)
    (h : ∀ v' w', w'.ownsRow base e size v' (n + m) (xs ++ ys) → w.grownBy w' v.ownBlock → wpList P ops Q rest (a.put o.dst v') w') : wpList P ops Q (o :: rest) a w := by
  rcases hu.2 with ⟨rfl, rfl⟩ | ⟨g, cap, cur, rfl, _, _⟩
  · have hy : ys = [] := List.eq_nil_of_length_eq_zero (by have := hu.1; omega)
    subst hy
    refine wpList_append_own_none hgd s x t ho base e i size ht hi v n xs hs hown hx (h v w (by simpa using hown) ⟨rfl, rfl, rfl, Nat.le_refl _, fun _ _ _ => rfl⟩)
  · exact wpList_append_own w hgd s x t ho base e i z size bytes ht hi hz hsize hby hzs hsz v n xs hs hown ⟨g, 0, none⟩ m cap ys hx hu.1 (hu.cells rfl) h1 h63 hbytes hbase (fun v' w' h2 h3 _ => h v' w' h2 h3)

def encV (x : V) : List Value := [.int .i64 x.1, .int .i64 x.2.1, .string x.2.2]
def flatV (l : List V) : List Value := l.flatMap encV
theorem flatV_len : ∀ l, (flatV l).length = l.length * 3
  | [] => rfl
  | x :: l => by have := flatV_len l; simp [flatV, encV] at this ⊢; omega
theorem flatV_app (l m : List V) : flatV (l ++ m) = flatV l ++ flatV m := by simp [flatV]
theorem flatV_at : ∀ {l : List V} {j : Nat} {x : V}, l[j]? = some x → (flatV l)[j * 3]? = some (.int .i64 x.1) ∧ (flatV l)[j * 3 + 1]? = some (.int .i64 x.2.1) ∧ (flatV l)[j * 3 + 2]? = some (.string x.2.2)
  | [], _, _, h => by simp at h
  | y :: l, 0, x, h => by simp at h; subst h; simp [flatV, encV]
  | y :: l, j + 1, x, h => by
    have h' : l[j]? = some x := by simpa using h
    obtain ⟨a, b, c⟩ := flatV_at h'
    have e : flatV (y :: l) = encV y ++ flatV l := rfl
    have e3 : (encV y).length = 3 := rfl
    rw [e, show (j + 1) * 3 = (encV y).length + j * 3 by omega, show (encV y).length + j * 3 + 1 = (encV y).length + (j * 3 + 1) by omega, show (encV y).length + j * 3 + 2 = (encV y).length + (j * 3 + 2) by omega]
    simp only [List.getElem?_append_right (Nat.le_add_right _ _), Nat.add_sub_cancel_left]
    exact ⟨a, b, c⟩
theorem flatV_one (l : List V) : ∀ y ∈ flatV l, y.oneCell' = true := by
  intro y hy
  simp only [flatV, List.mem_flatMap, encV] at hy
  obtain ⟨x, _, hx⟩ := hy
  simp at hx
  rcases hx with rfl | rfl | rfl <;> rfl
theorem byteCells_one (l : List UInt8) : ∀ y ∈ Lib.byteCells l, y.oneCell' = true := by
  intro y hy
  simp only [Lib.byteCells, List.mem_map] at hy
  obtain ⟨x, _, rfl⟩ := hy
  rfl
theorem addr_add (g j : Nat) : (⟨g, 0, none⟩ : Addr).add j = ⟨g, j, none⟩ := by unfold Addr.add; split <;> simp_all
theorem Sl_of_owns {w : World} {B : Nat} {v : Value} {l : List V} (h : w.ownsRow B 29 3 v l.length (flatV l)) : Sl w v l := by
  rcases h.2 with ⟨rfl, h0⟩ | ⟨g, cap, cur, rfl, hb, hh, hcap, _, _⟩
  · exact ⟨none, 0, by rw [h0], by omega, fun hne => absurd (List.eq_nil_of_length_eq_zero h0) hne⟩
  · refine ⟨_, cap, rfl, hcap, fun _ => ⟨g, 0, rfl, blk_lt hh, fun j x hj => ?_⟩⟩
    obtain ⟨a, b, c⟩ := flatV_at hj
    have hc := h.cells (g := g) rfl
    simp only [addr_add] at hc
    rw [Nat.zero_add]
    exact ⟨hc _ _ a, hc _ _ b, hc _ _ c⟩
theorem ownsRow_other {w w' : World} {B1 e1 z1 n1 B2 e2 z2 n2 : Nat} {v1 v2 : Value} {xs1 xs2 : List Value} (h1 : w.ownsRow B1 e1 z1 v1 n1 xs1) (h2 : w.ownsRow B2 e2 z2 v2 n2 xs2) (he : e1 ≠ e2) (hg : w.grownBy w' v2.ownBlock) : w'.ownsRow B1 e1 z1 v1 n1 xs1 := by
  refine h1.kept hg ?_
  rcases h1.2 with ⟨rfl, _⟩ | ⟨g, cap, cur, rfl, _, hh, _⟩
  · exact .inl rfl
  · rcases h2.2 with ⟨rfl, _⟩ | ⟨g2, cap2, cur2, rfl, _, hh2, _⟩
    · exact .inr (by simp [Value.ownBlock])
    · refine .inr (fun e => ?_)
      simp [Value.ownBlock] at e
      subst e
      rw [hh] at hh2; injection hh2 with hh2; injection hh2 with _ hh2; exact he hh2
theorem ownsRow_wr {w w' : World} {B B1 e1 z1 n1 : Nat} {v1 : Value} {xs1 : List Value} (h1 : w.ownsRow B1 e1 z1 v1 n1 xs1) (hw : Wr B w w') (he : e1 ≠ 5) : w'.ownsRow B1 e1 z1 v1 n1 xs1 := by
  refine ⟨h1.1, ?_⟩
  rcases h1.2 with h' | ⟨g, cap, cur, rfl, hb, hh, rest⟩
  · exact .inl h'
  · exact .inr ⟨g, cap, cur, rfl, hb, cell_of_wr hw hh he, rest⟩

theorem ownsRow_kept_lt {w w' : World} {H B1 e1 z1 n1 e2 z2 n2 : Nat} {v1 v2 : Value} {xs1 xs2 : List Value} (h1 : w.ownsRow B1 e1 z1 v1 n1 xs1) (hlt : ∀ k, v1.ownBlock = some k → k < H) (h2 : w.ownsRow H e2 z2 v2 n2 xs2) (hg : w.grownBy w' v2.ownBlock) : w'.ownsRow B1 e1 z1 v1 n1 xs1 := by
  refine h1.kept hg ?_
  cases hv : v1.ownBlock with
  | none => exact .inl rfl
  | some k => exact .inr fun e => by have h3 := (h2.lt k e.symm).1; have h4 := hlt k hv; omega

theorem find_place (x : V) : ∀ l : List V, findI (fun y => decide (x = y)) l = place x l
  | [] => rfl
  | y :: l => by
    unfold findI place
    by_cases h : x = y
    · simp [h]
    · have h' : ¬ y = x := fun e => h e.symm
      simp [h, h', find_place x l]
theorem place_le (x : V) : ∀ l : List V, place x l ≤ l.length
  | [] => Nat.le_refl _
  | y :: l => by unfold place; split <;> simp; exact place_le x l
def wst (l : List V) (k : Nat) : List V × List UInt8 := (l.take k).foldl whichS ([], [])
theorem wst_next {l : List V} {k : Nat} {x : V} (h : l[k]? = some x) : wst l (k + 1) = whichS (wst l k) x := by
  unfold wst; rw [take_next h, List.foldl_append]; rfl
theorem whichS_hit {s : List V × List UInt8} {x : V} (h : place x s.1 < s.1.length) : whichS s x = (s.1, s.2 ++ Lib.uvarint (place x s.1)) := by unfold whichS; rw [if_pos h]
theorem whichS_miss {s : List V × List UInt8} {x : V} (h : ¬ place x s.1 < s.1.length) : whichS s x = (s.1 ++ [x], s.2 ++ Lib.uvarint s.1.length) := by
  unfold whichS; rw [if_neg h, show place x s.1 = s.1.length by have := place_le x s.1; omega]
theorem wst_few {l : List V} (h : Few l) : ∀ k, k ≤ l.length → (wst l k).1.length ≤ k ∧ (∀ x ∈ (wst l k).1, x ∈ l) ∧ (wst l k).2.length ≤ k * 10
  | 0, _ => by simp [wst]
  | k + 1, hk => by
    obtain ⟨x, hx⟩ := getEx (l := l) (k := k) (by omega)
    obtain ⟨h1, h2, h3⟩ := wst_few h k (by omega)
    have h60 := h.1
    have hp := place_le x (wst l k).1
    have hu := Lib.uvarint_length64 (x := place x (wst l k).1) (by omega)
    rw [wst_next hx]
    unfold whichS
    refine ⟨?_, ?_, ?_⟩
    · split <;> simp <;> omega
    · intro y hy
      split at hy
      · exact h2 y hy
      · simp at hy
        rcases hy with hy | rfl
        · exact h2 y hy
        · exact List.mem_of_getElem? hx
    · simp; omega
theorem wst_Few {l : List V} (h : Few l) {k : Nat} (hk : k ≤ l.length) : Few (wst l k).1 := by
  obtain ⟨h1, h2, _⟩ := wst_few h k hk
  exact ⟨by have := h.1; omega, fun x hx => h.2 x (h2 x hx)⟩
theorem below_grown_own {w w' : World} {B e z n : Nat} {v : Value} {xs : List Value} {a : World} (hb : Below B a w) (ho : w.ownsRow B e z v n xs) (hg : w.grownBy w' v.ownBlock) (hB : B ≤ w.heap.size) : Below B a w' :=
  hb.grown hg hB (fun k hk => (ho.lt k hk).1)

set_option maxHeartbeats 8000000 in
set_option maxRecDepth 100000 in
theorem inWhich_any (v : Value) (l : List V) (w : World) (hs : Sl w v l) (hf : Few l) :
    Calls Tryz.prog 178 #[v] w fun e w' => ∃ v', e = .returned v' ∧ w'.ownsRow w.heap.size 5 1 v' (whichB l).length (Lib.byteCells (whichB l)) ∧ Below w.heap.size w w' := by
  obtain ⟨i32, hi32, hz32, hz132, hz232⟩ := info_parts info32
  have HI32 := mkHid (And.intro hi32 (And.intro hz32 (And.intro hz132 hz232)))
  obtain ⟨i5, hi5, hz5, hz15, hz25⟩ := info_parts info5
  have HI5 := mkHid (And.intro hi5 (And.intro hz5 (And.intro hz15 hz25)))
  clear hi32 hz32 hz132 hz232 hi5 hz5 hz15 hz25
  obtain ⟨a, c, rfl, _, hl⟩ := hs
  have HL := mkHid hl
  have HF := mkHid hf
  have h60 := hf.1
  clear hl hf
  go_enter Tryz.func178, Tryz.ntmps178
  go_wp2
  go_loopw [3, 4, 11] (fun vd vw vi wr => ∃ k : Nat, k ≤ l.length ∧ vi = .int .i64 k ∧ Hid (wr.ownsRow w.heap.size 29 3 vd (wst l k).1.length (flatV (wst l k).1)) ∧ Hid (wr.ownsRow w.heap.size 5 1 vw (wst l k).2.length (Lib.byteCells (wst l k).2)) ∧ Hid (Below w.heap.size w wr)) (fun _ _ vi _ => l.length - (intOf vi).toNat)
  case atStart => exact ⟨0, Nat.zero_le _, rfl, World.ownsRow_nil _ _ _ _, World.ownsRow_nil _ _ _ _, Below.refl _ _⟩
  case round =>
    obtain ⟨k, hk, rfl, hd, hv, hw⟩ := hrel
    by_cases hlt : k < l.length
    · obtain ⟨b, off, rfl, hb, hc⟩ := HL.out (by intro e; rw [e] at hlt; simp at hlt)
      obtain ⟨⟨kx, nx, tx⟩, hx⟩ := getEx hlt
      obtain ⟨g0, g1, g2⟩ := hc k _ hx
      have c0 : wr.cell? ⟨b, off + k * 3, none⟩ = some (.int .i64 kx) := (hw.out.cell (p := ⟨b, off + k * 3, none⟩) hb).trans g0
      have c1 : wr.cell? ⟨b, off + k * 3 + 1, none⟩ = some (.int .i64 nx) := (hw.out.cell (p := ⟨b, off + k * 3 + 1, none⟩) hb).trans g1
      have c2 : wr.cell? ⟨b, off + k * 3 + 2, none⟩ = some (.string tx) := (hw.out.cell (p := ⟨b, off + k * 3 + 2, none⟩) hb).trans g2
      have hsz := hw.out.size
      have HN := mkHid (wst_next hx)
      have HW := mkHid (wst_few HF.out k hk)
      have HP := mkHid (place_le (kx, nx, tx) (wst l k).1)
      generalize wst l k = st at *
      obtain ⟨d, ws⟩ := st
      obtain ⟨ad, cd, rfl, _, _⟩ := Sl_of_owns hd.out
      have HI := mkHid (index_any _ d kx nx tx (wr.alloc (.cells #[.int .i64 kx, .int .i64 nx, .string tx] 29)) (Sl_of_owns (hd.out.alloc _)) (by have := HW.out.1; simp at this; omega))
      have HBX : Hid ((wr.alloc (.cells #[.int .i64 kx, .int .i64 nx, .string tx] 29)).heap[wr.heap.size]? = some (.cells #[.int .i64 kx, .int .i64 nx, .string tx] 29)) := heap_alloc_new _ _
      have hidx : idxI (fun y => decide (((kx, nx, tx) : V) = y)) d = if place (kx, nx, tx) d < d.length then ((place (kx, nx, tx) d : Nat) : Int) else -1 := by
        unfold idxI; rw [find_place]
      rw [hidx] at HI
      clear hidx g0 g1 g2 hc
      have hdl : d.length ≤ 60 := by have := HW.out.1; simp at this; omega
      have hwl : ws.length ≤ 600 := by have := HW.out.2.2; simp at this; omega
      by_cases hA : place (kx, nx, tx) d < d.length
      · rw [if_pos hA] at HI
        have HE := mkHid (whichS_hit (s := (d, ws)) (x := (kx, nx, tx)) hA)
        generalize place (kx, nx, tx) d = p at *
        go_wp2_with fail
        refine HI.out.mono ?_
        rintro e w2 ⟨rfl, hb2⟩
        have hs2 := hb2.size
        have hB2 : w.heap.size ≤ w2.heap.size := by simp at hs2; omega
        go_wp2_with fail
        refine (append_any w.heap.size _ p (by omega) _ _ w2 (ownsRow_up (hv.out.alloc _) hb2) hB2 (by show ws.length + 10 ≤ _; omega)).mono ?_
        rintro e w3 ⟨v3, rfl, ho3, hw3⟩
        go_wp2
        have e1 : wst l (k + 1) = (d, ws ++ Lib.uvarint p) := by rw [HN.out, HE.out]
        refine ⟨⟨k + 1, by omega, by go_num, ?_, ?_, mkHid (((hw.out.alloc hsz _).trans (hb2.mono (by simp; omega))).trans hw3.1)⟩, by simp [intOf]; omega⟩
        · rw [e1]; exact ownsRow_wr (ownsRow_up (hd.out.alloc _) hb2) hw3 (by decide)
        · rw [e1, List.length_append, byteCells_app]; exact ho3
      · rw [if_neg hA] at HI
        have HE := mkHid (whichS_miss (s := (d, ws)) (x := (kx, nx, tx)) hA)
        go_wp2_with fail
        refine HI.out.mono ?_
        rintro e w2 ⟨rfl, hb2⟩
        have hs2 := hb2.size
        have hB2 : w.heap.size ≤ w2.heap.size := by simp at hs2; omega
        have hb0 := blk_up HBX.out hb2
        obtain ⟨q0, q1, q2⟩ := cell_box hb0
        go_wp2_with (at_builtin; refine wpList_append_own _ rfl _ _ 35 rfl w.heap.size 29 i32 (.agg #[.int .i64 0, .int .i64 0, .string ⟨#[]⟩]) 3 32 Tryz.underlying35 HI32.out.1 HI32.out.2.1 HI32.out.2.2.1 HI32.out.2.2.2 rfl (by decide) _ _ _ rfl ((ownsRow_up (hd.out.alloc _) hb2).alloc _) ⟨w2.heap.size, 0, none⟩ 1 1 [.int .i64 kx, .int .i64 nx, .string tx] rfl rfl ?c1 ?c2 ?c3 ?c4 ?c5 ?_)
        case c1 => exact fun j u hj => World.news_of_block (heap_alloc_new _ _) j u hj
        case c2 => exact flatV_one [(kx, nx, tx)]
        case c3 => show d.length + 1 ≤ maxLen; unfold maxLen; omega
        case c4 => show (d.length + 1) * 32 ≤ _; omega
        case c5 => simp; omega
        intro v3 w3 hd3 hg3 _
        have hv3 := ownsRow_other ((ownsRow_up (hv.out.alloc _) hb2).alloc (.cells #[.int .i64 kx, .int .i64 nx, .string tx] 29)) ((ownsRow_up (hd.out.alloc _) hb2).alloc (.cells #[.int .i64 kx, .int .i64 nx, .string tx] 29)) (by decide) hg3
        have hs3 := hg3.size
        have hB3 : w.heap.size ≤ w3.heap.size := by simp at hs3; omega
        have hbl3 : Below w.heap.size w w3 := below_grown_own ((((hw.out.alloc hsz _).trans (hb2.mono (by simp; omega)))).alloc hB2 _) ((ownsRow_up (hd.out.alloc _) hb2).alloc _) hg3 (by simp; omega)
        go_wp2_with fail
        refine (append_any w.heap.size _ d.length (by omega) _ _ w3 hv3 hB3 (by show ws.length + 10 ≤ _; omega)).mono ?_
        rintro e w4 ⟨v4, rfl, ho4, hw4⟩
        go_wp2
        have e1 : wst l (k + 1) = (d ++ [(kx, nx, tx)], ws ++ Lib.uvarint d.length) := by rw [HN.out, HE.out]
        refine ⟨⟨k + 1, by omega, by go_num, ?_, ?_, mkHid (hbl3.trans hw4.1)⟩, by simp [intOf]; omega⟩
        · rw [e1, flatV_app, List.length_append]; exact ownsRow_wr hd3 hw4 (by decide)
        · rw [e1, List.length_append, byteCells_app]; exact ho4
    · have ek : wst l k = (l.foldl whichS ([], [])) := by unfold wst; rw [List.take_of_length_le (by omega)]
      have HWB : Hid (whichB l = Lib.uvarint (wst l k).1.length ++ orderB (wst l k).1 ++ (wst l k).2) := by rw [ek]; exact rfl
      have HW := mkHid (wst_few HF.out k hk)
      have HDF := mkHid (wst_Few HF.out hk)
      clear ek
      generalize wst l k = st at *
      obtain ⟨d, ws⟩ := st
      obtain ⟨ad, cd, rfl, _, _⟩ := Sl_of_owns hd.out
      have hdl : d.length ≤ 60 := by have := HW.out.1; simp at this; omega
      have hwl : ws.length ≤ 600 := by have := HW.out.2.2; simp at this; omega
      have hsz := hw.out.size
      have hol : (orderB d).length ≤ 3000 := by have := orderB_len HDF.out.2; simp at this; omega
      have hul : (Lib.uvarint d.length).length ≤ 10 := Lib.uvarint_length64 (by omega)
      go_wp2_with fail
      refine (append_any wr.heap.size 0 d.length (by omega) _ [] wr (World.ownsRow_nil _ _ _ _) (Nat.le_refl _) (by omega)).mono ?_
      rintro e w2 ⟨v2, rfl, ho2, hw2⟩
      have hb2 : Below wr.heap.size wr w2 := hw2.1
      have hs2 := hb2.size
      go_wp2_with fail
      refine (inOrder_any _ d w2 (Sl_of_owns (ownsRow_up hd.out hb2)) HDF.out).mono ?_
      rintro e w3 ⟨v3, rfl, ho3, hw3⟩
      have hb3 : Below w2.heap.size w2 w3 := hw3.1
      have hs3 := hb3.size
      have HA := mkHid (ownsRow_up ho2 hb3)
      have HB := mkHid ho3
      have HC := mkHid (ownsRow_up (ownsRow_up hv.out hb2) hb3)
      go_wp2_with (at_builtin; refine wpList_append_row rfl _ _ 41 rfl wr.heap.size 5 i5 (.int .u8 0) 1 1 Tryz.underlying41 HI5.out.1 HI5.out.2.1 HI5.out.2.2.1 HI5.out.2.2.2 rfl (by decide) _ _ _ rfl HA.out _ _ _ _ rfl HB.out (byteCells_one _) ?f3 ?f4 ?f5 ?_)
      case f3 => unfold maxLen; omega
      case f4 => omega
      case f5 => omega
      intro v4 w4 ho4 hg4
      have hs4 := hg4.size
      have HD := mkHid ho4
      have HE := mkHid (ownsRow_kept_lt HC.out (fun j hj => (hv.out.lt j hj).2) HA.out hg4)
      have hbl4 : Below wr.heap.size wr w4 := below_grown_own (hb2.trans (hb3.mono hs2)) HA.out hg4 (by omega)
      have hs4' := hbl4.size
      go_wp2_with (at_builtin; refine wpList_append_row rfl _ _ 41 rfl wr.heap.size 5 i5 (.int .u8 0) 1 1 Tryz.underlying41 HI5.out.1 HI5.out.2.1 HI5.out.2.2.1 HI5.out.2.2.2 rfl (by decide) _ _ _ rfl HD.out _ _ _ _ rfl HE.out (byteCells_one _) ?f6 ?f7 ?f8 ?_)
      case f6 => show _ + ws.length ≤ _; unfold maxLen; omega
      case f7 => show (_ + ws.length) * 1 ≤ _; omega
      case f8 => omega
      intro v5 w5 ho5 hg5
      go_wp2
      go_ret
      refine ⟨v5, rfl, ?_, hw.out.trans ((below_grown_own hbl4 HD.out hg5 (by omega)).mono hsz)⟩
      rw [HWB.out]
      rw [List.length_append, List.length_append, byteCells_app, byteCells_app, List.append_assoc]
      exact ownsRow_base ho5 hsz
end Go.Proofs.YtlnkbhbpkmnkaaaGreatDoor.E
namespace Go.Proofs.YtlnkbhbpkmnkaaaGreatDoor.E
open Go.RowKit Go.Proofs Go.Shelf

theorem whichB_len {l : List V} (h : Few l) : (whichB l).length ≤ 3610 := by
  have e : wst l l.length = l.foldl whichS ([], []) := by unfold wst; rw [List.take_of_length_le (Nat.le_refl _)]
  obtain ⟨h1, h2, h3⟩ := wst_few h l.length (Nat.le_refl _)
  have h4 := orderB_len (wst_Few h (Nat.le_refl l.length)).2
  have h60 := h.1
  have h5 := Lib.uvarint_length64 (x := (wst l l.length).1.length) (by omega)
  unfold whichB
  rw [← e]
  simp only [List.length_append]; omega
theorem wayB_len {l : List V} (h : Few l) (k : Nat) : (wayB k l).length ≤ 4000 := by
  have h60 := h.1
  unfold wayB
  split
  · have := runsB_len l h.2 (by omega) l.length; omega
  · split
    · have := whichB_len h; omega
    · split
      · have := stepsB_len (a := 0) (l := l); omega
      · have := orderB_len h.2; omega

set_option maxHeartbeats 8000000 in
set_option maxRecDepth 100000 in
theorem inWay_any (k : Nat) (v : Value) (l : List V) (w : World) (hs : Sl w v l) (hf : Few l) (hk : k ≤ 3) :
    Calls Tryz.prog 159 #[.int .i64 k, v] w fun e w' => ∃ v', e = .returned v' ∧ w'.ownsRow w.heap.size 5 1 v' (wayB k l).length (Lib.byteCells (wayB k l)) ∧ Below w.heap.size w w' := by
  have H1 := mkHid (inRuns_any v l w hs hf)
  have H2 := mkHid (inWhich_any v l w hs hf)
  have H3 := mkHid (inSteps_any v l w hs hf)
  have H0 := mkHid (inOrder_any v l w hs hf)
  obtain ⟨a, c, rfl, _, _⟩ := hs
  clear hf
  have hk' : k = 0 ∨ k = 1 ∨ k = 2 ∨ k = 3 := by omega
  rcases hk' with rfl | rfl | rfl | rfl
  · go_enter Tryz.func159, Tryz.ntmps159
    go_wp2_with (go_at_call 180; refine H0.out.mono ?_; rintro e w1 ⟨v1, rfl, ho, hw⟩)
    go_ret
    exact ⟨v1, rfl, ho, hw.1⟩
  · go_enter Tryz.func159, Tryz.ntmps159
    go_wp2_with (go_at_call 177; refine H1.out.mono ?_; rintro e w1 ⟨v1, rfl, ho, hw⟩)
    go_ret
    exact ⟨v1, rfl, ho, hw.1⟩
  · go_enter Tryz.func159, Tryz.ntmps159
    go_wp2_with (go_at_call 178; refine H2.out.mono ?_; rintro e w1 ⟨v1, rfl, ho, hw⟩)
    go_ret
    exact ⟨v1, rfl, ho, hw⟩
  · go_enter Tryz.func159, Tryz.ntmps159
    go_wp2_with (go_at_call 179; refine H3.out.mono ?_; rintro e w1 ⟨v1, rfl, ho, hw⟩)
    go_ret
    exact ⟨v1, rfl, ho, hw.1⟩

theorem fewTo_next (kind : Int) (l : List V) (k : Nat) (hk : 1 ≤ k) : fewTo kind l (k + 1) = if k = 3 ∧ kind ≠ 1 then fewTo kind l k else better (fewTo kind l k) (k.toUInt8 :: wayB k l) := by
  obtain ⟨j, rfl⟩ : ∃ j, k = j + 1 := ⟨k - 1, by omega⟩
  rfl
theorem fewTo_len {kind : Int} {l : List V} (h : Few l) : ∀ k, (fewTo kind l k).length ≤ 4001
  | 0 => by simp [fewTo]
  | 1 => by have := wayB_len h 0; simp [fewTo]; omega
  | k + 2 => by
    have h1 := fewTo_len (kind := kind) h (k + 1)
    have h2 := wayB_len h (k + 1)
    rw [fewTo_next kind l (k + 1) (by omega)]
    split
    · exact h1
    · unfold better; split <;> simp <;> omega
theorem cell_byte (k : Nat) (hk : k < 256) (l : List UInt8) : Value.int .u8 (k : Int) :: Lib.byteCells l = Lib.byteCells (k.toUInt8 :: l) := by
  simp [Lib.byteCells, Lib.toUInt8_toNat hk]

/-- The best way so far. -/
def Best (kind : Int) (l : List V) (w wr : World) (k : Nat) (vb : Value) : Prop :=
  (k = 0 ∧ vb = .slice none 0 0) ∨ (0 < k ∧ wr.ownsRow w.heap.size 5 1 vb (fewTo kind l k).length (Lib.byteCells (fewTo kind l k)) ∧ 0 < (fewTo kind l k).length)

theorem nil43 : ∀ (w : World) (a : Option Addr) (n c n' c' : Nat), (binOp .eql 41 (.slice a n c) (.slice none n' c')).run Tryz.prog w = .ok (.bool a.isNone) w := fun w a n c n' c' => Lib.run_eql_slice_nil w _ _ a n c n' c' Tryz.underlying41

set_option maxHeartbeats 8000000 in
set_option maxRecDepth 100000 in
theorem fewest_any (kind : Int) (v : Value) (l : List V) (w : World) (hs : Sl w v l) (hf : Few l) (hkd : kind = 1 ∨ kind = 2) :
    Calls Tryz.prog 127 #[.int .i64 kind, v] w fun e w' => ∃ v', e = .returned v' ∧ w'.ownsRow w.heap.size 5 1 v' (fewB kind l).length (Lib.byteCells (fewB kind l)) ∧ Below w.heap.size w w' := by
  have HS := mkHid hs
  have HF := mkHid hf
  obtain ⟨i5, hi5, hz5, hz15, hz25⟩ := info_parts info5
  have HI5 := mkHid (And.intro hi5 (And.intro hz5 (And.intro hz15 hz25)))
  clear hi5 hz5 hz15 hz25
  obtain ⟨a, c, rfl, _, _⟩ := hs
  clear hf
  have hnil := nil43
  go_enter Tryz.func127, Tryz.ntmps127
  go_wp2
  go_loopw [5, 8] (fun vb vi wr => ∃ k : Nat, k ≤ 4 ∧ vi = .int .i64 k ∧ Hid (Best kind l w wr k vb) ∧ Hid (Below w.heap.size w wr)) (fun _ vi _ => 4 - (intOf vi).toNat)
  case atStart => exact ⟨0, Nat.zero_le _, rfl, mkHid (.inl ⟨rfl, rfl⟩), Below.refl _ _⟩
  case round =>
    obtain ⟨k, hk, rfl, hB, hw⟩ := hrel
    have hsz := hw.out.size
    by_cases hlt : k < 4
    · by_cases hskip : k = 3 ∧ kind ≠ 1
      · obtain ⟨rfl, hk1⟩ := hskip
        obtain rfl : kind = 2 := by omega
        have HN : Hid (Best 2 l w wr 4 _) := mkHid (by
          rcases hB.out with ⟨h, _⟩ | ⟨_, h2, h3⟩
          · omega
          · refine .inr ⟨by omega, ?_⟩
            rw [fewTo_next 2 l 3 (by omega), if_pos ⟨rfl, hk1⟩]
            exact ⟨h2, h3⟩)
        go_wp2
        exact ⟨⟨4, by omega, rfl, HN, hw⟩, by simp [intOf]⟩
      · have HC := mkHid (inWay_any k (.slice a l.length c) l (wr.alloc (.cells #[.int .u8 (k : Int)] 5)) (HS.out.up (hw.out.alloc hsz _)) HF.out (by omega))
        have HNX : Hid (1 ≤ k → fewTo kind l (k + 1) = better (fewTo kind l k) (k.toUInt8 :: wayB k l)) := fun h => by rw [fewTo_next kind l k h, if_neg hskip]
        have HWL := mkHid (wayB_len HF.out k)
        have HFL := mkHid (fewTo_len (kind := kind) HF.out k)
        have HRL : Hid ((wr.alloc (.cells #[.int .u8 (k : Int)] 5)).ownsRow wr.heap.size 5 1 (.slice (some ⟨wr.heap.size, 0, none⟩) 1 1) 1 [.int .u8 (k : Int)]) := mkHid (World.ownsRow_lit wr #[.int .u8 (k : Int)] 1 (Nat.le_refl _) (by unfold maxLen; omega) rfl)
        have hk256 : (k : Int) < 256 := by omega
        have hor : (k = 3 → kind = 1) := fun h => Classical.byContradiction fun h2 => hskip ⟨h, h2⟩
        clear hskip
        by_cases h3 : k = 3
        · have b3 : ((k : Int) == 3) = true := by simp; omega
          have bk : (kind == 1) = true := by simp [hor h3]
          clear h3 hor hkd
          go_wp2_with fail
          refine HC.out.mono ?_
          rintro e w2 ⟨v2, rfl, ho2, hb2⟩
          have hs2 := hb2.size
          have hB2 : wr.heap.size ≤ w2.heap.size := by simp at hs2; omega
          have hbw2 : Below wr.heap.size wr w2 := ((Below.refl _ _).alloc (Nat.le_refl _) _).trans (hb2.mono (by simp))
          have HA := mkHid (ownsRow_up HRL.out hb2)
          have HB := mkHid ho2
          go_wp2_with (at_builtin; refine wpList_append_row rfl _ _ 41 rfl wr.heap.size 5 i5 (.int .u8 0) 1 1 Tryz.underlying41 HI5.out.1 HI5.out.2.1 HI5.out.2.2.1 HI5.out.2.2.2 rfl (by decide) _ _ _ rfl HA.out _ _ _ _ rfl HB.out (byteCells_one _) ?fA1 ?fA2 ?fA3 ?_)
          case fA1 => have := HWL.out; unfold maxLen; omega
          case fA2 => have := HWL.out; omega
          case fA3 => omega
          intro v3 w3 ho3 hg3
          have hbw3 : Below wr.heap.size wr w3 := below_grown_own hbw2 HA.out hg3 hB2
          have HO3 : Hid (w3.ownsRow wr.heap.size 5 1 v3 (k.toUInt8 :: wayB k l).length (Lib.byteCells (k.toUInt8 :: wayB k l))) := mkHid (by rw [← cell_byte k (by omega), List.length_cons, Nat.add_comm]; exact ho3)
          have HBW : Hid (Below w.heap.size w w3) := mkHid (hw.out.trans (hbw3.mono hsz))
          obtain ⟨g, cap, rfl, _, _⟩ := HO3.out.form (by simp)
          clear ho3 hg3
          have hwl : (k.toUInt8 :: wayB k l).length ≤ 4001 := by have := HWL.out; rw [List.length_cons]; omega
          generalize hbn : (k.toUInt8 :: wayB k l) = bn at *
          rcases hB.out with ⟨rfl, rfl⟩ | ⟨hk0, hob, hlb⟩
          · have HNEW : Hid (Best kind l w w3 1 (.slice (some ⟨g, 0, none⟩) bn.length cap)) := mkHid (.inr ⟨by omega, by rw [show fewTo kind l 1 = bn from hbn]; exact ownsRow_base HO3.out hsz, by rw [show fewTo kind l 1 = bn from hbn, ← hbn]; simp⟩)
            go_wp2
            exact ⟨⟨1, by omega, rfl, HNEW, HBW⟩, by simp [intOf]⟩
          · obtain ⟨gb, capb, rfl, _, hgb⟩ := hob.form hlb
            have HOB := mkHid (ownsRow_up hob hbw3)
            have hfl := HFL.out
            have HLB := mkHid hlb
            have HNB := HNX.out hk0
            generalize fewTo kind l k = fo at *
            clear hob hlb
            by_cases hcmp : bn.length < fo.length
            · have HNEW : Hid (Best kind l w w3 (k + 1) (.slice (some ⟨g, 0, none⟩) bn.length cap)) := mkHid (.inr ⟨by omega, by rw [HNB, better, if_pos hcmp]; exact ⟨ownsRow_base HO3.out hsz, by rw [← hbn]; simp⟩⟩)
              clear HNB hbn
              go_wp2
              exact ⟨⟨k + 1, by omega, by go_num, HNEW, HBW⟩, by simp [intOf]; omega⟩
            · have HNEW : Hid (Best kind l w w3 (k + 1) (.slice (some ⟨gb, 0, none⟩) fo.length capb)) := mkHid (.inr ⟨by omega, by rw [HNB, better, if_neg hcmp]; exact ⟨HOB.out, HLB.out⟩⟩)
              clear HNB hbn
              go_wp2
              exact ⟨⟨k + 1, by omega, by go_num, HNEW, HBW⟩, by simp [intOf]; omega⟩
        · have b3 : ((k : Int) == 3) = false := by simp; omega
          clear h3 hor hkd
          go_wp2_with fail
          refine HC.out.mono ?_
          rintro e w2 ⟨v2, rfl, ho2, hb2⟩
          have hs2 := hb2.size
          have hB2 : wr.heap.size ≤ w2.heap.size := by simp at hs2; omega
          have hbw2 : Below wr.heap.size wr w2 := ((Below.refl _ _).alloc (Nat.le_refl _) _).trans (hb2.mono (by simp))
          have HA := mkHid (ownsRow_up HRL.out hb2)
          have HB := mkHid ho2
          go_wp2_with (at_builtin; refine wpList_append_row rfl _ _ 41 rfl wr.heap.size 5 i5 (.int .u8 0) 1 1 Tryz.underlying41 HI5.out.1 HI5.out.2.1 HI5.out.2.2.1 HI5.out.2.2.2 rfl (by decide) _ _ _ rfl HA.out _ _ _ _ rfl HB.out (byteCells_one _) ?fB1 ?fB2 ?fB3 ?_)
          case fB1 => have := HWL.out; unfold maxLen; omega
          case fB2 => have := HWL.out; omega
          case fB3 => omega
          intro v3 w3 ho3 hg3
          have hbw3 : Below wr.heap.size wr w3 := below_grown_own hbw2 HA.out hg3 hB2
          have HO3 : Hid (w3.ownsRow wr.heap.size 5 1 v3 (k.toUInt8 :: wayB k l).length (Lib.byteCells (k.toUInt8 :: wayB k l))) := mkHid (by rw [← cell_byte k (by omega), List.length_cons, Nat.add_comm]; exact ho3)
          have HBW : Hid (Below w.heap.size w w3) := mkHid (hw.out.trans (hbw3.mono hsz))
          obtain ⟨g, cap, rfl, _, _⟩ := HO3.out.form (by simp)
          clear ho3 hg3
          have hwl : (k.toUInt8 :: wayB k l).length ≤ 4001 := by have := HWL.out; rw [List.length_cons]; omega
          generalize hbn : (k.toUInt8 :: wayB k l) = bn at *
          rcases hB.out with ⟨rfl, rfl⟩ | ⟨hk0, hob, hlb⟩
          · have HNEW : Hid (Best kind l w w3 1 (.slice (some ⟨g, 0, none⟩) bn.length cap)) := mkHid (.inr ⟨by omega, by rw [show fewTo kind l 1 = bn from hbn]; exact ownsRow_base HO3.out hsz, by rw [show fewTo kind l 1 = bn from hbn, ← hbn]; simp⟩)
            go_wp2
            exact ⟨⟨1, by omega, rfl, HNEW, HBW⟩, by simp [intOf]⟩
          · obtain ⟨gb, capb, rfl, _, hgb⟩ := hob.form hlb
            have HOB := mkHid (ownsRow_up hob hbw3)
            have hfl := HFL.out
            have HLB := mkHid hlb
            have HNB := HNX.out hk0
            generalize fewTo kind l k = fo at *
            clear hob hlb
            by_cases hcmp : bn.length < fo.length
            · have HNEW : Hid (Best kind l w w3 (k + 1) (.slice (some ⟨g, 0, none⟩) bn.length cap)) := mkHid (.inr ⟨by omega, by rw [HNB, better, if_pos hcmp]; exact ⟨ownsRow_base HO3.out hsz, by rw [← hbn]; simp⟩⟩)
              clear HNB hbn
              go_wp2
              exact ⟨⟨k + 1, by omega, by go_num, HNEW, HBW⟩, by simp [intOf]; omega⟩
            · have HNEW : Hid (Best kind l w w3 (k + 1) (.slice (some ⟨gb, 0, none⟩) fo.length capb)) := mkHid (.inr ⟨by omega, by rw [HNB, better, if_neg hcmp]; exact ⟨HOB.out, HLB.out⟩⟩)
              clear HNB hbn
              go_wp2
              exact ⟨⟨k + 1, by omega, by go_num, HNEW, HBW⟩, by simp [intOf]; omega⟩
    · obtain rfl : k = 4 := by omega
      have HE : Hid (Best kind l w wr 4 _ ) := hB
      rcases hB.out with ⟨h, _⟩ | ⟨_, h2, h3⟩
      · omega
      · have HO := mkHid h2
        clear h2 h3
        go_wp2
        go_ret
        exact ⟨_, rfl, HO.out, hw.out⟩
end Go.Proofs.YtlnkbhbpkmnkaaaGreatDoor.E
namespace Go.Proofs
open Go.Shelf
def Tryz.laysGw17_ren : Go.Shelf.Ren := ⟨fun | 17 => 143 | 15 => 170 | 20 => 164 | n => n, fun | 9 => 9 | 23 => 162 | 4 => 4 | 3 => 3 | 0 => 0 | 21 => 21 | n => n, fun | n => n⟩
theorem Tryz.laysGw17 : Go.Proofs.LaysGw.n17 Tryz.prog Tryz.laysGw17_ren := {
  mixed := by kernel_rfl
  f15 := Tryz.func170.trans (congrArg some (by kernel_rfl))
  f17 := Tryz.func143.trans (congrArg some (by kernel_rfl))
  f20 := Tryz.func164.trans (congrArg some (by kernel_rfl))
  t0 := Tryz.underlying0
  a0 := Tryz.isAgg0
  z0 := Tryz.sizeOf0
  v0 := Tryz.zeroValue0
  i0 := by kernel_rfl
  t3 := Tryz.underlying3
  a3 := Tryz.isAgg3
  z3 := Tryz.sizeOf3
  v3 := Tryz.zeroValue3
  i3 := by kernel_rfl
  t4 := Tryz.underlying4
  a4 := Tryz.isAgg4
  z4 := Tryz.sizeOf4
  v4 := Tryz.zeroValue4
  i4 := by kernel_rfl
  t9 := Tryz.underlying9
  a9 := Tryz.isAgg9
  z9 := Tryz.sizeOf9
  v9 := Tryz.zeroValue9
  i9 := by kernel_rfl
  t21 := Tryz.underlying21
  a21 := Tryz.isAgg21
  z21 := Tryz.sizeOf21
  v21 := Tryz.zeroValue21
  i21 := by kernel_rfl
  t23 := Tryz.underlying162
  a23 := Tryz.isAgg162
  z23 := Tryz.sizeOf162
  v23 := Tryz.zeroValue162
  i23 := by kernel_rfl }
open Go.RowKit Go.Lib in
theorem Tryz.strings_ContainsFunc (g : Nat) (lb : Array Value) (eg : ∀ args w, (callFunc g args).run Tryz.prog w = .ok (.enter g args) w) (p : Nat → Bool) (s : ByteArray) (w : World) (hp : PredAt Tryz.prog g lb encR p w) :
    Calls Tryz.prog 143 #[.string s, .func (.func g) #[] lb] w fun e w' => e = .returned (.bool (decide (0 ≤ Lib.idxFunc p true s))) ∧ Below w.heap.size w w' := Any.strings_ContainsFunc Tryz.laysGw17 g lb eg p s w hp
end Go.Proofs
namespace Go.Proofs
open Go.Shelf
def Tryz.layIdx_ren : Go.Shelf.Ren := ⟨fun | 6 => 52 | n => n, fun | 22 => 22 | 23 => 31 | 25 => 65 | 3 => 3 | 0 => 0 | 4 => 4 | n => n, fun | n => n⟩
theorem Tryz.layIdx : Go.Proofs.SlLaysH0.n6 Tryz.prog Tryz.layIdx_ren := {
  mixed := by kernel_rfl
  f6 := ⟨Tryz.f52.name, by decide, Tryz.func52.trans (congrArg some (by kernel_rfl))⟩
  t0 := Tryz.underlying0
  a0 := Tryz.isAgg0
  z0 := Tryz.sizeOf0
  v0 := Tryz.zeroValue0
  t3 := Tryz.underlying3
  a3 := Tryz.isAgg3
  z3 := Tryz.sizeOf3
  v3 := Tryz.zeroValue3
  t4 := Tryz.underlying4
  a4 := Tryz.isAgg4
  z4 := Tryz.sizeOf4
  v4 := Tryz.zeroValue4
  t22 := Tryz.underlying22
  a22 := Tryz.isAgg22
  z22 := Tryz.sizeOf22
  v22 := Tryz.zeroValue22
  t25 := Tryz.underlying65
  a25 := Tryz.isAgg65
  z25 := Tryz.sizeOf65
  v25 := Tryz.zeroValue65 }
def Tryz.layCon_ren : Go.Shelf.Ren := ⟨fun | 8 => 21 | 6 => 52 | n => n, fun | 22 => 22 | 23 => 31 | 25 => 65 | 4 => 4 | 3 => 3 | 0 => 0 | n => n, fun | n => n⟩
theorem Tryz.layCon : Go.Proofs.SlLaysH0.n8 Tryz.prog Tryz.layCon_ren := {
  mixed := by kernel_rfl
  f6 := ⟨Tryz.f52.name, by decide, Tryz.func52.trans (congrArg some (by kernel_rfl))⟩
  f8 := ⟨Tryz.f21.name, by decide, Tryz.func21.trans (congrArg some (by kernel_rfl))⟩
  t0 := Tryz.underlying0
  a0 := Tryz.isAgg0
  z0 := Tryz.sizeOf0
  v0 := Tryz.zeroValue0
  t3 := Tryz.underlying3
  a3 := Tryz.isAgg3
  z3 := Tryz.sizeOf3
  v3 := Tryz.zeroValue3
  t4 := Tryz.underlying4
  a4 := Tryz.isAgg4
  z4 := Tryz.sizeOf4
  v4 := Tryz.zeroValue4
  t22 := Tryz.underlying22
  a22 := Tryz.isAgg22
  z22 := Tryz.sizeOf22
  v22 := Tryz.zeroValue22
  t25 := Tryz.underlying65
  a25 := Tryz.isAgg65
  z25 := Tryz.sizeOf65
  v25 := Tryz.zeroValue65 }
def Tryz.layConI_ren : Go.Shelf.Ren := ⟨fun | 8 => 112 | 6 => 147 | n => n, fun | 22 => 44 | 23 => 120 | 25 => 173 | 4 => 4 | 3 => 3 | 0 => 0 | n => n, fun | n => n⟩
theorem Tryz.layConI : Go.Proofs.SlLaysH0.n8 Tryz.prog Tryz.layConI_ren := {
  mixed := by kernel_rfl
  f6 := ⟨Tryz.f147.name, by decide, Tryz.func147.trans (congrArg some (by kernel_rfl))⟩
  f8 := ⟨Tryz.f112.name, by decide, Tryz.func112.trans (congrArg some (by kernel_rfl))⟩
  t0 := Tryz.underlying0
  a0 := Tryz.isAgg0
  z0 := Tryz.sizeOf0
  v0 := Tryz.zeroValue0
  t3 := Tryz.underlying3
  a3 := Tryz.isAgg3
  z3 := Tryz.sizeOf3
  v3 := Tryz.zeroValue3
  t4 := Tryz.underlying4
  a4 := Tryz.isAgg4
  z4 := Tryz.sizeOf4
  v4 := Tryz.zeroValue4
  t22 := Tryz.underlying44
  a22 := Tryz.isAgg44
  z22 := Tryz.sizeOf44
  v22 := Tryz.zeroValue44
  t25 := Tryz.underlying173
  a25 := Tryz.isAgg173
  z25 := Tryz.sizeOf173
  v25 := Tryz.zeroValue173 }
def Tryz.layHasS_ren : Go.Shelf.Ren := ⟨fun | 31 => 23 | 29 => 53 | n => n, fun | 22 => 46 | 23 => 9 | 4 => 4 | 3 => 3 | 0 => 0 | n => n, fun | n => n⟩
theorem Tryz.layHasS : Go.Proofs.SlLaysE.n31 Tryz.prog Tryz.layHasS_ren := {
  mixed := by kernel_rfl
  f29 := ⟨Tryz.f53.name, by decide, Tryz.func53.trans (congrArg some (by kernel_rfl))⟩
  f31 := ⟨Tryz.f23.name, by decide, Tryz.func23.trans (congrArg some (by kernel_rfl))⟩
  t0 := Tryz.underlying0
  a0 := Tryz.isAgg0
  z0 := Tryz.sizeOf0
  v0 := Tryz.zeroValue0
  t3 := Tryz.underlying3
  a3 := Tryz.isAgg3
  z3 := Tryz.sizeOf3
  v3 := Tryz.zeroValue3
  t4 := Tryz.underlying4
  a4 := Tryz.isAgg4
  z4 := Tryz.sizeOf4
  v4 := Tryz.zeroValue4
  t22 := Tryz.underlying46
  a22 := Tryz.isAgg46
  z22 := Tryz.sizeOf46
  v22 := Tryz.zeroValue46
  a23 := Tryz.isAgg9
  z23 := Tryz.sizeOf9 }
def Tryz.layClo_ren : Go.Shelf.Ren := ⟨fun | 41 => 49 | n => n, fun | 22 => 22 | 23 => 31 | 4 => 4 | n => n, fun | n => n⟩
theorem Tryz.layClo : Go.Proofs.SlLaysE0.n41 Tryz.prog Tryz.layClo_ren := {
  mixed := by kernel_rfl
  f41 := ⟨Tryz.f49.name, by decide, Tryz.func49.trans (congrArg some (by kernel_rfl))⟩
  t4 := Tryz.underlying4
  a4 := Tryz.isAgg4
  z4 := Tryz.sizeOf4
  v4 := Tryz.zeroValue4
  t22 := Tryz.underlying22
  a22 := Tryz.isAgg22
  z22 := Tryz.sizeOf22
  v22 := Tryz.zeroValue22 }
end Go.Proofs

