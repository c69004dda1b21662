/- Plain mathematics, no model: columns of values as bytes, in four ways, and how such bytes are read. -/
import Derived.Lib.VarintDec
import Derived.Lib.Varint
namespace Go.Proofs.YtodemklghajdeaaGreatDoor.E
open Go.Lib

/-- A value: its kind, its number, its text. -/
abbrev V : Type := Int × Int × ByteArray
def str (l : List UInt8) : ByteArray := ⟨l.toArray⟩
theorem str_self (s : ByteArray) : str s.data.toList = s := by cases s; simp [str]
theorem str_toList (l : List UInt8) : (str l).data.toList = l := by simp [str]
theorem str_size (l : List UInt8) : (str l).size = l.length := by show (str l).data.size = _; simp [str]
theorem str_inj {a b : List UInt8} (h : str a = str b) : a = b := by rw [← str_toList a, h, str_toList]

/-- The number that fits 64 bits with a sign. -/
def wr64 (x : Int) : Int := (x + 9223372036854775808) % 18446744073709551616 - 9223372036854775808

/-- How values are written. -/
def valB (v : V) : List UInt8 := if v.1 = 1 then uvarint (zigzag v.2.1) else uvarint v.2.2.size ++ v.2.2.data.toList
def orderB (l : List V) : List UInt8 := l.flatMap valB
/-- How many at the beginning are v. -/
def same (v : V) : List V → Nat
  | [] => 0
  | x :: l => if x = v then same v l + 1 else 0
theorem same_le (v : V) : ∀ l, same v l ≤ l.length
  | [] => Nat.le_refl _
  | x :: l => by unfold same; split <;> simp; exact same_le v l
def runsB : Nat → List V → List UInt8
  | 0, _ => []
  | _ + 1, [] => []
  | f + 1, v :: l => uvarint (same v l + 1) ++ valB v ++ runsB f (l.drop (same v l))
/-- Where v is first, or how many there are. -/
def place (v : V) : List V → Nat
  | [] => 0
  | x :: l => if x = v then 0 else place v l + 1
def whichS (s : List V × List UInt8) (v : V) : List V × List UInt8 :=
  (if place v s.1 < s.1.length then s.1 else s.1 ++ [v], s.2 ++ uvarint (place v s.1))
def whichB (l : List V) : List UInt8 :=
  uvarint (l.foldl whichS ([], [])).1.length ++ orderB (l.foldl whichS ([], [])).1 ++ (l.foldl whichS ([], [])).2
def stepsB (a : Int) : List V → List UInt8
  | [] => []
  | v :: l => uvarint (zigzag (wr64 (v.2.1 - a))) ++ stepsB v.2.1 l
def wayB (way : Nat) (l : List V) : List UInt8 := if way = 1 then runsB l.length l else if way = 2 then whichB l else if way = 3 then stepsB 0 l else orderB l
def better (a b : List UInt8) : List UInt8 := if b.length < a.length then b else a
def fewTo (kind : Int) (l : List V) : Nat → List UInt8
  | 0 => []
  | 1 => 0 :: wayB 0 l
  | w + 2 => if w + 1 = 3 ∧ kind ≠ 1 then fewTo kind l (w + 1) else better (fewTo kind l (w + 1)) ((w + 1).toUInt8 :: wayB (w + 1) l)
def fewB (kind : Int) (l : List V) : List UInt8 := fewTo kind l 4
def nul (v : V) : Bool := v.1 == 0
/-- The marks of the first k values, of so many bytes. -/
def marksTo (l : List V) (m : Nat) : Nat → List Nat
  | 0 => List.replicate m 0
  | k + 1 => if (l[k]?.map nul) = some true then (marksTo l m k).set (k / 8) (((marksTo l m k)[k / 8]?.getD 0) + 2 ^ (k % 8)) else marksTo l m k
def marksN (l : List V) : List Nat := marksTo l ((l.length + 7) / 8) l.length
def marksB (l : List V) : List UInt8 := (marksN l).map Nat.toUInt8
def known (l : List V) : List V := l.filter fun v => !nul v
def encB (kind : Int) (l : List V) : List UInt8 := uvarint l.length ++ marksB l ++ fewB kind (known l)

/-- How they are read: what is left, and whether something was wrong. -/
abbrev St : Type := List UInt8 × Bool
def rdGo (full : List UInt8) : Nat → List UInt8 → Nat → Nat × List UInt8 × Bool
  | _, [], _ => (0, full, false)
  | i, c :: r, acc =>
    if i = 10 then (0, full, false)
    else if c.toNat < 128 then (acc + c.toNat % 128 * 2 ^ (7 * i) % 18446744073709551616, r, decide (uvarint (acc + c.toNat % 128 * 2 ^ (7 * i) % 18446744073709551616) = full.take (i + 1)))
    else rdGo full (i + 1) r (acc + c.toNat % 128 * 2 ^ (7 * i) % 18446744073709551616)
def rdNum (l : List UInt8) : Nat × List UInt8 × Bool := rdGo l 0 l 0
def numR (s : St) : Nat × St := ((rdNum s.1).1, ((rdNum s.1).2.1, s.2 || !(rdNum s.1).2.2))
def badR (most : Int) (s : St) : Bool := (numR s).2.2 || decide (most < 0) || decide (most < ((numR s).1 : Int))
def upToR (most : Int) (s : St) : Nat × St := if badR most s then (0, ((numR s).2.1, true)) else numR s
def bytesR (n : Nat) (s : St) : List UInt8 × St := if s.1.length < n then ([], (s.1, true)) else (s.1.take n, (s.1.drop n, s.2))
def valueR (kind : Int) (s : St) : V × St :=
  if kind = 1 then ((1, unzigzag (numR s).1, str []), (numR s).2)
  else ((2, 0, str (bytesR (upToR 40 s).1 (upToR 40 s).2).1), (bytesR (upToR 40 s).1 (upToR 40 s).2).2)
def valuesR (kind : Int) : Nat → St → List V × St
  | 0, s => ([], s)
  | n + 1, s => ((valueR kind s).1 :: (valuesR kind n (valueR kind s).2).1, (valuesR kind n (valueR kind s).2).2)
def runSt (kind : Int) (n : Nat) (l : List V) (s : St) : St := (valueR kind (upToR (n - l.length : Nat) s).2).2
def runL (kind : Int) (n : Nat) (l : List V) (s : St) : List V := l ++ List.replicate (upToR (n - l.length : Nat) s).1 (valueR kind (upToR (n - l.length : Nat) s).2).1
def runsR (kind : Int) (n : Nat) : Nat → List V → St → List V × St
  | 0, l, s => (l, s)
  | f + 1, l, s => if l.length < n ∧ s.2 = false then runsR kind n f (runL kind n l s) (runSt kind n l s) else (l, s)
def whichGo (d : List V) : Nat → List V → St → List V × St
  | 0, a, s => (a, s)
  | n + 1, a, s =>
    if (upToR ((d.length : Int) - 1) s).2.2 then ([], (upToR ((d.length : Int) - 1) s).2)
    else whichGo d n (a ++ [d[(upToR ((d.length : Int) - 1) s).1]?.getD (0, 0, str [])]) (upToR ((d.length : Int) - 1) s).2
def whichR (kind : Int) (n : Nat) (s : St) : List V × St :=
  whichGo (valuesR kind (upToR n s).1 (upToR n s).2).1 n [] (valuesR kind (upToR n s).1 (upToR n s).2).2
def stepsR : Nat → Int → St → List V × St
  | 0, _, s => ([], s)
  | n + 1, a, s => ((1, wr64 (a + unzigzag (numR s).1), str []) :: (stepsR n (wr64 (a + unzigzag (numR s).1)) (numR s).2).1, (stepsR n (wr64 (a + unzigzag (numR s).1)) (numR s).2).2)
def knownR (kind : Int) (way : Nat) (n : Nat) (s : St) : List V × St :=
  if way = 0 then valuesR kind n s else if way = 1 then runsR kind n (s.1.length + 2) [] s else if way = 2 then whichR kind n s
  else if way = 3 then stepsR n 0 s else ([], (s.1, true))
def bitOf (b : List UInt8) (i : Nat) : Nat := (b[i / 8]?.getD 0).toNat / 2 ^ (i % 8) % 2
def placesTo (b : List UInt8) : Nat → List Nat
  | 0 => []
  | k + 1 => if bitOf b k = 0 then placesTo b k ++ [k] else placesTo b k
def putAll (l : List V) : List Nat → List V → List V
  | p :: ps, v :: vs => putAll (l.set p v) ps vs
  | _, _ => l
def colN (s : List UInt8) : Nat × St := upToR 60 (s, false)
def colB (s : List UInt8) : List UInt8 × St := bytesR (((colN s).1 + 7) / 8) (colN s).2
def colW (s : List UInt8) : List UInt8 × St := bytesR 1 (colB s).2
def colP (s : List UInt8) : List Nat := placesTo (colB s).1 (colN s).1
def colK (kind : Int) (s : List UInt8) : List V × St := knownR kind ((colW s).1[0]?.getD 0).toNat (colP s).length (colW s).2
def colR (kind : Int) (s : List UInt8) : List V × Bool :=
  if (colW s).2.2 then ([], true) else if (colK kind s).2.2 then ([], true)
  else (putAll (List.replicate (colN s).1 (0, 0, str [])) (colP s) (colK kind s).1, false)
end Go.Proofs.YtodemklghajdeaaGreatDoor.E
