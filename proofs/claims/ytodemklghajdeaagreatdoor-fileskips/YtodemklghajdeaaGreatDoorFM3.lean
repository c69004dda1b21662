/- Plain mathematics: what a file is written as is parsed as that file, whose columns have numbers and kinds alone; no beginning of it is a file. -/
import Derived.Test.YtodemklghajdeaaGreatDoorEM3
import Derived.Test.YtodemklghajdeaaGreatDoorSB4
import Derived.Test.YtodemklghajdeaaGreatDoorCW6
namespace Go.Proofs.YtodemklghajdeaaGreatDoor
open Go

abbrev V := Int × Int × ByteArray
abbrev Col := C.Col
/-- A group: how many rows, what is known of each column, each column's bytes. -/
abbrev Grp := Nat × List S.St × List (List UInt8)
abbrev Fil := List Col × List Grp
def zV : V := (0, 0, ⟨#[]⟩)
def zC : Col := (0, ⟨#[]⟩, 0, false, 0, 0, ⟨#[]⟩)
def dfl (c : Col) : V := (c.2.2.2.2.1, c.2.2.2.2.2.1, c.2.2.2.2.2.2)
def kd (c : Col) : Int := c.2.2.1
def ids (l : List Col) : List Int := l.map (·.1)
def colOf (rows : List (List V)) (i : Nat) : List V := rows.map fun r => r[i]?.getD zV
def groupOf (l : List Col) (part : List (List V)) : Grp :=
  (part.length, (List.range l.length).map (fun i => S.stOf (colOf part i)), (List.range l.length).map fun i => E.encB (kd (l[i]?.getD zC)) (colOf part i))
def part6 (rows : List (List V)) (k : Nat) : List (List V) := (rows.drop (6 * k)).take 6
def nGr (n : Nat) : Nat := (n + 5) / 6
def parts (rows : List (List V)) : List (List (List V)) := (List.range (nGr rows.length)).map (part6 rows)
def groupsOf (l : List Col) (rows : List (List V)) : List Grp := (parts rows).map (groupOf l)
/-- Which columns may be a file's. -/
def okAt (l : List Col) (next : Int) (k : Nat) : Bool := C.mayB (l[k]?.getD zC) && (decide ((l[k]?.getD zC).1 < next) && !(l.take k).any (C.alikeB (l[k]?.getD zC)))
def rightB (l : List Col) (next : Int) : Bool := decide (1 ≤ l.length ∧ l.length ≤ 8) && (List.range l.length).all (okAt l next)
def next40 : Int := 1099511627777
/-- A row's error: none, one that may not be, one that must be something. -/
def fitV (c : Col) (v : V) : Bool := C.fitB (kd c) v.1 v.2.1 v.2.2
def rowGo : List Col → List V → Int
  | c :: l, v :: row => if fitV c v = false then 1 else if (c.2.2.2.1 && v.1 == 0) = true then 7 else rowGo l row
  | _, _ => 0
def rowE (l : List Col) (row : List V) : Int := if row.length = l.length then rowGo l row else 1
def makeOk (l : List Col) (rows : List (List V)) : Bool := rightB l next40 && (decide (1 ≤ rows.length ∧ rows.length ≤ 60) && rows.all fun r => rowE l r == 0)
def makeR (l : List Col) (rows : List (List V)) : Option Fil := if makeOk l rows then some (l, groupsOf l rows) else none
/-- Where the column of a number stands; how many there are, if there is none. -/
def pos (cols : List Col) (id : Int) : Nat := (ids cols).idxOf id
def valsOf (cols : List Col) (g : Grp) (c : Col) : List V :=
  if pos cols c.1 < cols.length then (E.decR (kd (cols[pos cols c.1]?.getD zC)) (g.2.2[pos cols c.1]?.getD [])).getD [] else List.replicate g.1 (dfl c)
def wholeG (cols : List Col) (g : Grp) : Bool := decide (g.2.1.length = cols.length ∧ g.2.2.length = cols.length ∧ 1 ≤ g.1 ∧ g.1 ≤ 6)
def rowsBy (cols : List Col) (g : Grp) (now : List Col) : List (List V) := (List.range g.1).map fun j => now.map fun c => (valsOf cols g c)[j]?.getD zV
def readG (cols : List Col) (g : Grp) (now : List Col) : Option (List (List V)) :=
  if wholeG cols g && now.all (fun c => (valsOf cols g c).length == g.1) then some (rowsBy cols g now) else none
def readF (f : Fil) (k : Int) (now : List Col) : Option (List (List V)) := if k < 0 then none else match f.2[k.toNat]? with
  | none => none
  | some g => readG f.1 g now
def allGo (cols now : List Col) : List (List V) → List Grp → Option (List (List V))
  | acc, [] => some acc
  | acc, g :: gs => match readG cols g now with
    | none => none
    | some r => allGo cols now (acc ++ r) gs
def cname (i : Nat) : ByteArray := ⟨#[99, (48 + i).toUInt8]⟩
def plainC (l : List Col) : List Col := (List.range l.length).map fun i => ((l[i]?.getD zC).1, cname i, kd (l[i]?.getD zC), false, 0, 0, ⟨#[]⟩)
open Classical in
noncomputable def madeB (f : Fil) : Bool := rightB (plainC f.1) next40 && match allGo f.1 (plainC f.1) [] f.2 with
  | none => false
  | some rows => match makeR (plainC f.1) rows with
    | none => false
    | some f' => decide (f.2 = f'.2)
/-- How a file is written. -/
def colBytes (c : Col) : List UInt8 := Lib.uvarint c.1.toNat ++ Lib.uvarint (kd c).toNat
def cellBytes (s : List UInt8) : List UInt8 := Lib.uvarint s.length ++ s
def groupBytes (g : Grp) : List UInt8 := Lib.uvarint g.1 ++ g.2.2.flatMap cellBytes
def writeB (f : Fil) : List UInt8 := Lib.uvarint f.1.length ++ (f.1.flatMap colBytes ++ (Lib.uvarint f.2.length ++ f.2.flatMap groupBytes))
noncomputable def writeR (f : Fil) : Option (List UInt8) := if madeB f then some (writeB f) else none
/-- How it is read. -/
def bareC (id kind : Int) : Col := (id, ⟨#[]⟩, kind, false, 0, 0, ⟨#[]⟩)
def rdCols : Nat → E.St → List Col × E.St
  | 0, s => ([], s)
  | n + 1, s => (bareC (E.upToR 1099511627776 s).1 (E.upToR 2 (E.upToR 1099511627776 s).2).1 :: (rdCols n (E.upToR 2 (E.upToR 1099511627776 s).2).2).1, (rdCols n (E.upToR 2 (E.upToR 1099511627776 s).2).2).2)
def cellR (s : E.St) : List UInt8 × E.St := E.bytesR (E.upToR 9223372036854775807 s).1 (E.upToR 9223372036854775807 s).2
def rdCells : List Col → E.St → List (List UInt8) × E.St
  | [], s => ([], s)
  | _ :: l, s => ((cellR s).1 :: (rdCells l (cellR s).2).1, (rdCells l (cellR s).2).2)
def stat1 (c : Col) (b : List UInt8) : S.St := S.stOf ((E.decR (kd c) b).getD [])
def statsOf (l : List Col) (bs : List (List UInt8)) : List S.St := List.zipWith stat1 l bs
def rdGroup (l : List Col) (s : E.St) : Grp × E.St :=
  (((E.upToR 6 s).1, statsOf l (rdCells l (E.upToR 6 s).2).1, (rdCells l (E.upToR 6 s).2).1), (rdCells l (E.upToR 6 s).2).2)
def rdGroups (l : List Col) : Nat → E.St → List Grp × E.St
  | 0, s => ([], s)
  | n + 1, s => ((rdGroup l s).1 :: (rdGroups l n (rdGroup l s).2).1, (rdGroups l n (rdGroup l s).2).2)
def rdHead (s : List UInt8) : List Col × E.St := rdCols (E.upToR 8 (s, false)).1 (E.upToR 8 (s, false)).2
def rdTail (l : List Col) (s : E.St) : List Grp × E.St := rdGroups l (E.upToR 60 s).1 (E.upToR 60 s).2
def rdFile (s : List UInt8) : Fil × E.St := (((rdHead s).1, (rdTail (rdHead s).1 (rdHead s).2).1), (rdTail (rdHead s).1 (rdHead s).2).2)
noncomputable def parseR (s : List UInt8) : Option Fil := if (rdFile s).2.2 then none else if writeR (rdFile s).1 = some s then some (rdFile s).1 else none

/-- The same numbers and kinds. -/
def SameIK (a b : List Col) : Prop := ids a = ids b ∧ a.map kd = b.map kd
def stripC (l : List Col) : List Col := l.map fun c => bareC c.1 (kd c)

theorem SameIK.len {a b : List Col} (h : SameIK a b) : a.length = b.length := by have := congrArg List.length h.1; simpa [ids] using this
theorem SameIK.kdq {a b : List Col} (h : SameIK a b) (i : Nat) : kd (a[i]?.getD zC) = kd (b[i]?.getD zC) := by
  have e := congrArg (fun l => l[i]?) h.2
  simp only [List.getElem?_map] at e
  cases ha : a[i]? <;> cases hb : b[i]? <;> simp_all
theorem SameIK.idq {a b : List Col} (h : SameIK a b) (i : Nat) : (a[i]?.getD zC).1 = (b[i]?.getD zC).1 := by
  have e := congrArg (fun l => l[i]?) h.1
  simp only [ids, List.getElem?_map] at e
  cases ha : a[i]? <;> cases hb : b[i]? <;> simp_all
theorem SameIK.posq {a b : List Col} (h : SameIK a b) (id : Int) : pos a id = pos b id := by unfold pos; rw [h.1]
theorem sameIK_refl (a : List Col) : SameIK a a := ⟨rfl, rfl⟩
theorem sameIK_strip (l : List Col) : SameIK (stripC l) l := by
  constructor <;> simp [ids, stripC, bareC, kd, Function.comp_def]
theorem sameIK_plain (l : List Col) : SameIK (plainC l) l := by
  constructor
  · apply List.ext_getElem?
    intro i
    simp only [ids, plainC, List.map_map, List.getElem?_map]
    by_cases h : i < l.length
    · simp [h]
    · simp [h]
  · apply List.ext_getElem?
    intro i
    simp only [plainC, List.map_map, List.getElem?_map]
    by_cases h : i < l.length
    · simp [h, kd]
    · simp [h]
theorem plain_of_same {a b : List Col} (h : SameIK a b) : plainC a = plainC b := by
  unfold plainC
  rw [h.len]
  apply List.map_congr_left
  intro i _
  rw [h.idq, h.kdq]
theorem groupOf_same {a b : List Col} (h : SameIK a b) (p : List (List V)) : groupOf a p = groupOf b p := by
  unfold groupOf
  rw [h.len]
  simp only [h.kdq]
theorem plainC_len (l : List Col) : (plainC l).length = l.length := by simp [plainC]
theorem plainC_at {l : List Col} {i : Nat} {c : Col} (h : l[i]? = some c) : (plainC l)[i]? = some (c.1, cname i, kd c, false, 0, 0, ⟨#[]⟩) := by
  have hi : i < l.length := by
    rcases Nat.lt_or_ge i l.length with h' | h'
    · exact h'
    · rw [List.getElem?_eq_none h'] at h; cases h
  have e : l[i]?.getD zC = c := by rw [h]; rfl
  unfold plainC
  rw [List.getElem?_map, List.getElem?_range hi, Option.map_some, e]

theorem parts_to (rows : List (List V)) : ∀ m, ((List.range m).map (part6 rows)).flatten = rows.take (6 * m)
  | 0 => by simp
  | m + 1 => by
    rw [List.range_succ, List.map_append, List.flatten_append, parts_to rows m, show 6 * (m + 1) = 6 * m + 6 by omega, List.take_add]
    simp [part6]
theorem parts_all (rows : List (List V)) : (parts rows).flatten = rows := by
  unfold parts
  rw [parts_to, List.take_of_length_le (by unfold nGr; omega)]
theorem part6_len {rows : List (List V)} {k : Nat} (h : k < nGr rows.length) : 1 ≤ (part6 rows k).length ∧ (part6 rows k).length ≤ 6 := by
  unfold nGr at h
  simp only [part6, List.length_take, List.length_drop]
  omega
theorem parts_mem {rows p : List (List V)} (h : p ∈ parts rows) : 1 ≤ p.length ∧ p.length ≤ 6 ∧ ∀ r ∈ p, r ∈ rows := by
  simp only [parts, List.mem_map, List.mem_range] at h
  obtain ⟨k, hk, rfl⟩ := h
  have := part6_len hk
  exact ⟨this.1, this.2, fun r hr => List.mem_of_mem_drop (List.mem_of_mem_take hr)⟩
theorem parts_len (rows : List (List V)) : (parts rows).length = nGr rows.length := by simp [parts]

theorem right_same (k n : Int) (t : ByteArray) : E.rightV k n t = C.rightV k n t := rfl
theorem bad_fit (kind : Int) (x : V) : E.badV kind x = !C.fitB kind x.1 x.2.1 x.2.2 := by
  unfold E.badV C.fitB
  rw [right_same]
  cases C.rightV x.1 x.2.1 x.2.2 <;> cases (x.1 == 0) <;> cases (x.1 == kind) <;> rfl
/-- Rows of columns, each value such as may stand there, with numbers of 64 bits. -/
def Ok64 (v : V) : Prop := -9223372036854775808 ≤ v.2.1 ∧ v.2.1 ≤ 9223372036854775807
def RowsOk (l : List Col) (rows : List (List V)) : Prop := ∀ r ∈ rows, r.length = l.length ∧ ∀ i, i < l.length → fitV (l[i]?.getD zC) (r[i]?.getD zV) = true ∧ Ok64 (r[i]?.getD zV)
theorem colOf_len (rows : List (List V)) (i : Nat) : (colOf rows i).length = rows.length := by simp [colOf]
theorem colOf_ok {l : List Col} {rows : List (List V)} (h : RowsOk l rows) {i : Nat} (hi : i < l.length) (hk : kd (l[i]?.getD zC) = 1 ∨ kd (l[i]?.getD zC) = 2) : E.fitsB (kd (l[i]?.getD zC)) (colOf rows i) = true ∧ E.Okl (colOf rows i) := by
  have key : ∀ x ∈ colOf rows i, fitV (l[i]?.getD zC) x = true ∧ Ok64 x := by
    intro x hx
    simp only [colOf, List.mem_map] at hx
    obtain ⟨r, hr, rfl⟩ := hx
    exact (h r hr).2 i hi
  constructor
  · unfold E.fitsB
    rw [Bool.and_eq_true]
    constructor
    · rcases hk with hk | hk <;> simp [hk]
    · simp only [Bool.not_eq_true', List.any_eq_false]
      intro x hx
      have := (key x hx).1
      rw [bad_fit]
      unfold fitV at this
      simp [this]
  · intro x hx
    obtain ⟨h1, h2⟩ := key x hx
    exact ⟨h2.1, h2.2, C.fit_small h1⟩
end Go.Proofs.YtodemklghajdeaaGreatDoor

namespace Go.Proofs.YtodemklghajdeaaGreatDoor
open Go

theorem lt_of_some {α : Type} {l : List α} {i : Nat} {x : α} (h : l[i]? = some x) : i < l.length := by
  rcases Nat.lt_or_ge i l.length with h' | h'
  · exact h'
  · rw [List.getElem?_eq_none h'] at h; cases h
theorem getD_of {α : Type} {l : List α} {i : Nat} {x d : α} (h : l[i]? = some x) : l[i]?.getD d = x := by rw [h]; rfl
theorem some_of {α : Type} {l : List α} {i : Nat} (d : α) (h : i < l.length) : l[i]? = some (l[i]?.getD d) := by rw [List.getElem?_eq_getElem h]; rfl

/-- Columns of the kinds that there are. -/
def Kinds (l : List Col) : Prop := ∀ i, i < l.length → kd (l[i]?.getD zC) = 1 ∨ kd (l[i]?.getD zC) = 2
/-- No number twice. -/
def Once (l : List Col) : Prop := ∀ i j, i < j → j < l.length → (l[i]?.getD zC).1 ≠ (l[j]?.getD zC).1
theorem vals_group {l cols : List Col} {part : List (List V)} (hs : SameIK cols l) (hr : RowsOk l part) (hk : Kinds l) (hp : part.length ≤ 60) (c : Col) :
    valsOf cols (groupOf l part) c = if pos l c.1 < l.length then colOf part (pos l c.1) else List.replicate part.length (dfl c) := by
  unfold valsOf
  rw [hs.posq, hs.len]
  by_cases h : pos l c.1 < l.length
  · rw [if_pos h, if_pos h, hs.kdq]
    have hb : (groupOf l part).2.2[pos l c.1]?.getD [] = E.encB (kd (l[pos l c.1]?.getD zC)) (colOf part (pos l c.1)) := by simp [groupOf, h]
    obtain ⟨h1, h2⟩ := colOf_ok hr h (hk _ h)
    rw [hb, E.decR_enc h1 h2 (by rw [colOf_len]; exact hp)]
    rfl
  · rw [if_neg h, if_neg h]; rfl
def pick (l : List Col) (r : List V) (c : Col) : V := if pos l c.1 < l.length then r[pos l c.1]?.getD zV else dfl c
theorem read_group {l cols : List Col} {part : List (List V)} (hs : SameIK cols l) (hr : RowsOk l part) (hk : Kinds l) (h1 : 1 ≤ part.length) (h6 : part.length ≤ 6) (now : List Col) :
    readG cols (groupOf l part) now = some (part.map fun r => now.map (pick l r)) := by
  have hv := vals_group hs hr hk (by omega)
  have hw : wholeG cols (groupOf l part) = true := by
    have e1 : (groupOf l part).2.1.length = l.length := by simp [groupOf]
    have e2 : (groupOf l part).2.2.length = l.length := by simp [groupOf]
    have e3 : (groupOf l part).1 = part.length := rfl
    unfold wholeG
    rw [e1, e2, e3, hs.len]
    simp [h1, h6]
  have ha : now.all (fun c => (valsOf cols (groupOf l part) c).length == (groupOf l part).1) = true := by
    rw [List.all_eq_true]
    intro c _
    rw [hv c]
    have e3 : (groupOf l part).1 = part.length := rfl
    rw [e3]
    split
    · simp [colOf_len]
    · simp
  unfold readG
  rw [hw, ha]
  simp only [Bool.and_self, if_true]
  congr 1
  unfold rowsBy
  apply List.ext_getElem?
  intro j
  simp only [List.getElem?_map]
  by_cases hj : j < part.length
  · rw [List.getElem?_range (by exact hj), List.getElem?_eq_getElem hj]
    simp only [Option.map_some]
    congr 1
    apply List.map_congr_left
    intro c _
    rw [hv c]
    unfold pick
    split
    · simp [colOf, hj]
    · simp [hj]
  · rw [List.getElem?_eq_none (by simp [groupOf]; omega), List.getElem?_eq_none (by omega)]
    rfl
theorem all_parts {l cols : List Col} (hs : SameIK cols l) (hk : Kinds l) (now : List Col) : ∀ (ps : List (List (List V))) (acc : List (List V)), (∀ p ∈ ps, RowsOk l p ∧ 1 ≤ p.length ∧ p.length ≤ 6) →
    allGo cols now acc (ps.map (groupOf l)) = some (acc ++ ps.flatten.map fun r => now.map (pick l r))
  | [], acc, _ => by simp [allGo]
  | p :: ps, acc, h => by
    obtain ⟨h1, h2, h3⟩ := h p (by simp)
    rw [List.map_cons, allGo, read_group hs h1 hk h2 h3]
    simp only
    rw [all_parts hs hk now ps _ (fun q hq => h q (by simp [hq]))]
    simp
theorem all_groups {l cols : List Col} (hs : SameIK cols l) (hk : Kinds l) (now : List Col) {rows : List (List V)} (hr : RowsOk l rows) :
    allGo cols now [] (groupsOf l rows) = some (rows.map fun r => now.map (pick l r)) := by
  unfold groupsOf
  rw [all_parts hs hk now (parts rows) [] (fun p hp => ⟨fun r hr' => hr r ((parts_mem hp).2.2 r hr'), (parts_mem hp).1, (parts_mem hp).2.1⟩), parts_all]
  simp

theorem pos_own {l : List Col} (ho : Once l) {i : Nat} (hi : i < l.length) : pos l (l[i]?.getD zC).1 = i := by
  have key : ∀ (m : List Int) (i : Nat) (x : Int), m[i]? = some x → (∀ j, j < i → m[j]? ≠ some x) → m.idxOf x = i := by
    intro m
    induction m with
    | nil => intro i x h; simp at h
    | cons a m ih =>
      intro i x h hn
      cases i with
      | zero => simp at h; subst h; simp
      | succ i =>
        have ha : a ≠ x := fun e => hn 0 (by omega) (by simp [e])
        have e2 := ih i x (by simpa using h) (fun j hj => by have := hn (j + 1) (by omega); simpa using this)
        rw [List.idxOf_cons, e2, beq_eq_false_iff_ne.2 ha]
        rfl
  unfold pos
  refine key (ids l) i _ (by simp [ids, hi]) (fun j hj e => ?_)
  have h1 := ho j i hj hi
  have hj' : j < l.length := by omega
  apply h1
  simp only [ids, List.getElem?_map, List.getElem?_eq_getElem hj', Option.map_some, Option.some.injEq] at e
  rw [List.getElem?_eq_getElem hj']
  exact e
theorem pick_row {l now : List Col} (ho : Once l) (hs : SameIK now l) {r : List V} (hr : r.length = l.length) : now.map (pick l r) = r := by
  apply List.ext_getElem?
  intro i
  rw [List.getElem?_map]
  by_cases hi : i < l.length
  · have hn : i < now.length := by rw [hs.len]; exact hi
    have e := some_of zC hn
    rw [e]
    simp only [Option.map_some]
    have hp : pos l (now[i]?.getD zC).1 = i := by rw [hs.idq]; exact pos_own ho hi
    unfold pick
    rw [hp, if_pos hi, ← some_of zV (by omega)]
  · rw [List.getElem?_eq_none (by rw [hs.len]; omega), List.getElem?_eq_none (by omega)]; rfl

/-- What columns that may be a table's are. -/
structure RightF (l : List Col) (next : Int) : Prop where
  one : 1 ≤ l.length
  eight : l.length ≤ 8
  may : ∀ i, i < l.length → C.mayB (l[i]?.getD zC) = true ∧ (l[i]?.getD zC).1 < next
  apart : ∀ i j, i < j → j < l.length → C.alikeB (l[j]?.getD zC) (l[i]?.getD zC) = false
theorem right_iff {l : List Col} {next : Int} : rightB l next = true ↔ RightF l next := by
  unfold rightB
  rw [Bool.and_eq_true, decide_eq_true_iff, List.all_eq_true]
  constructor
  · rintro ⟨⟨h1, h8⟩, ha⟩
    have hk : ∀ k, k < l.length → okAt l next k = true := fun k hk => ha k (List.mem_range.2 hk)
    refine ⟨h1, h8, fun i hi => ?_, fun i j hij hj => ?_⟩
    · have := hk i hi
      simp only [okAt, Bool.and_eq_true, decide_eq_true_eq] at this
      exact ⟨this.1, this.2.1⟩
    · have := hk j hj
      simp only [okAt, Bool.and_eq_true, Bool.not_eq_true', List.any_eq_false] at this
      have hi : i < l.length := by omega
      have hm : l[i] ∈ l.take j := by
        rw [List.mem_take_iff_getElem]
        exact ⟨i, by omega, rfl⟩
      have := this.2.2 _ hm
      rw [List.getElem?_eq_getElem hi]
      simpa using this
  · rintro ⟨h1, h8, hm, hap⟩
    refine ⟨⟨h1, h8⟩, fun k hk => ?_⟩
    rw [List.mem_range] at hk
    simp only [okAt, Bool.and_eq_true, decide_eq_true_eq, Bool.not_eq_true', List.any_eq_false]
    refine ⟨(hm k hk).1, (hm k hk).2, fun c hc => ?_⟩
    rw [List.mem_take_iff_getElem] at hc
    obtain ⟨i, hi, rfl⟩ := hc
    have := hap i k (by omega) hk
    rw [List.getElem?_eq_getElem (show i < l.length by omega)] at this
    simpa using this
theorem may_parts {c : Col} (h : C.mayB c = true) : (kd c = 1 ∨ kd c = 2) ∧ 1 ≤ c.1 ∧ C.colB c.2.1 = true ∧ C.fitB (kd c) (dfl c).1 (dfl c).2.1 (dfl c).2.2 = true := by
  simp only [C.mayB, Bool.and_eq_true, Bool.or_eq_true, beq_iff_eq, decide_eq_true_eq] at h
  exact h
theorem RightF.kinds {l : List Col} {next : Int} (h : RightF l next) : Kinds l := fun i hi => (may_parts (h.may i hi).1).1
theorem RightF.once {l : List Col} {next : Int} (h : RightF l next) : Once l := fun i j hij hj e => by
  have := h.apart i j hij hj
  simp [C.alikeB, e] at this
theorem rowGo_zero : ∀ {l : List Col} {r : List V}, rowGo l r = 0 → r.length = l.length → ∀ i, i < l.length → fitV (l[i]?.getD zC) (r[i]?.getD zV) = true
  | [], _, _, _, i, hi => by simp at hi
  | _ :: _, [], _, hl, _, _ => by simp at hl
  | c :: l, v :: r, h, hl, i, hi => by
    rw [rowGo] at h
    by_cases hf : fitV c v = false
    · rw [if_pos hf] at h; cases h
    · rw [if_neg hf] at h
      split at h
      · cases h
      · cases i with
        | zero => simpa using hf
        | succ i => simpa using rowGo_zero h (by simpa using hl) i (by simpa using hi)
theorem rowGo_of : ∀ {l : List Col} {r : List V}, (∀ i, i < l.length → fitV (l[i]?.getD zC) (r[i]?.getD zV) = true ∧ (l[i]?.getD zC).2.2.2.1 = false) → rowGo l r = 0
  | [], _, _ => by simp [rowGo]
  | _ :: _, [], _ => by simp [rowGo]
  | c :: l, v :: r, h => by
    have h0 := h 0 (by simp)
    simp only [List.getElem?_cons_zero, Option.getD_some] at h0
    rw [rowGo, if_neg (by simp [h0.1]), if_neg (by simp [h0.2])]
    exact rowGo_of (fun i hi => by have := h (i + 1) (by simpa using hi); simpa using this)
def All64 (rows : List (List V)) : Prop := ∀ r ∈ rows, ∀ v ∈ r, Ok64 v
theorem ok64_z : Ok64 zV := ⟨by decide, by decide⟩
theorem rowsOk_of {l : List Col} {rows : List (List V)} (h : ∀ r ∈ rows, rowE l r = 0) (h64 : All64 rows) : RowsOk l rows := by
  intro r hr
  have e := h r hr
  unfold rowE at e
  by_cases hl : r.length = l.length
  · rw [if_pos hl] at e
    refine ⟨hl, fun i hi => ⟨rowGo_zero e hl i hi, ?_⟩⟩
    cases hv : r[i]? with
    | none => exact ok64_z
    | some v => exact h64 r hr v (List.mem_of_getElem? hv)
  · rw [if_neg hl] at e; cases e
theorem makeOk_iff {l : List Col} {rows : List (List V)} : makeOk l rows = true ↔ RightF l next40 ∧ 1 ≤ rows.length ∧ rows.length ≤ 60 ∧ ∀ r ∈ rows, rowE l r = 0 := by
  unfold makeOk
  rw [Bool.and_eq_true, Bool.and_eq_true, right_iff, decide_eq_true_iff, List.all_eq_true]
  simp only [beq_iff_eq]
  constructor
  · rintro ⟨a, ⟨b, c⟩, d⟩; exact ⟨a, b, c, d⟩
  · rintro ⟨a, b, c, d⟩; exact ⟨a, ⟨b, c⟩, d⟩

theorem cname_ok : ∀ i, i < 8 → C.colB (cname i) = true := by
  have h0 : C.colB (cname 0) = true := by kernel_rfl
  have h1 : C.colB (cname 1) = true := by kernel_rfl
  have h2 : C.colB (cname 2) = true := by kernel_rfl
  have h3 : C.colB (cname 3) = true := by kernel_rfl
  have h4 : C.colB (cname 4) = true := by kernel_rfl
  have h5 : C.colB (cname 5) = true := by kernel_rfl
  have h6 : C.colB (cname 6) = true := by kernel_rfl
  have h7 : C.colB (cname 7) = true := by kernel_rfl
  intro i hi
  have : i = 0 ∨ i = 1 ∨ i = 2 ∨ i = 3 ∨ i = 4 ∨ i = 5 ∨ i = 6 ∨ i = 7 := by omega
  rcases this with rfl | rfl | rfl | rfl | rfl | rfl | rfl | rfl
  · exact h0
  · exact h1
  · exact h2
  · exact h3
  · exact h4
  · exact h5
  · exact h6
  · exact h7
theorem cname_apart {i j : Nat} (hj : j < 8) (hij : i < j) : ((cname i).toList == (cname j).toList) = false := by
  have : i < 8 := by omega
  rw [beq_eq_false_iff_ne]
  intro e
  rw [ByteArray.toList_eq, ByteArray.toList_eq] at e
  have e1 : (48 + i).toUInt8 = (48 + j).toUInt8 := by simpa [cname] using e
  have e2 := congrArg UInt8.toNat e1
  rw [Lib.toUInt8_toNat (by omega), Lib.toUInt8_toNat (by omega)] at e2
  omega
theorem fit_zero (k : Int) : C.fitB k 0 0 ⟨#[]⟩ = true := by simp [C.fitB, C.rightV, ByteArray.toList_eq]
theorem right_plain {l : List Col} (h : RightF l next40) : RightF (plainC l) next40 := by
  have hs := sameIK_plain l
  refine ⟨by rw [plainC_len]; exact h.one, by rw [plainC_len]; exact h.eight, fun i hi => ?_, fun i j hij hj => ?_⟩
  · rw [plainC_len] at hi
    rw [plainC_at (some_of zC hi)]
    simp only [Option.getD_some]
    obtain ⟨h1, h2⟩ := h.may i hi
    obtain ⟨a, b, c, d⟩ := may_parts h1
    refine ⟨?_, h2⟩
    have h8 := h.eight
    simp only [C.mayB, Bool.and_eq_true, Bool.or_eq_true, beq_iff_eq, decide_eq_true_eq]
    exact ⟨a, b, cname_ok i (by omega), fit_zero _⟩
  · rw [plainC_len] at hj
    rw [plainC_at (some_of zC hj), plainC_at (some_of zC (show i < l.length by omega))]
    simp only [Option.getD_some]
    have h1 := h.once i j hij hj
    have h2 := cname_apart (i := i) (j := j) (by have := h.eight; omega) hij
    simp only [C.alikeB, Bool.or_eq_false_iff]
    exact ⟨by simpa using h1, h2⟩
theorem fitV_same {a b : Col} (h : kd a = kd b) (v : V) : fitV a v = fitV b v := by unfold fitV; rw [h]
theorem row_plain {l : List Col} {r : List V} (h : rowE l r = 0) : rowE (plainC l) r = 0 := by
  unfold rowE at h ⊢
  rw [plainC_len]
  by_cases hl : r.length = l.length
  · rw [if_pos hl] at h ⊢
    apply rowGo_of
    intro i hi
    rw [plainC_len] at hi
    have := rowGo_zero h hl i hi
    rw [plainC_at (some_of zC hi)]
    exact ⟨this, rfl⟩
  · rw [if_neg hl] at h; cases h
theorem groupsOf_same {a b : List Col} (h : SameIK a b) (rows : List (List V)) : groupsOf a rows = groupsOf b rows := by
  unfold groupsOf
  apply List.map_congr_left
  intro p _
  exact groupOf_same h p
/-- What Make makes is as Make makes it, whatever its columns are called. -/
theorem made_ok {l cols : List Col} {rows : List (List V)} (h : makeOk l rows = true) (hs : SameIK cols l) (h64 : All64 rows) : madeB (cols, groupsOf l rows) = true := by
  obtain ⟨hR, h1, h60, hrow⟩ := makeOk_iff.1 h
  have hok := rowsOk_of hrow h64
  have hp : plainC cols = plainC l := plain_of_same hs
  have ha : allGo cols (plainC cols) [] (groupsOf l rows) = some rows := by
    rw [hp, all_groups hs hR.kinds (plainC l) hok]
    congr 1
    refine Eq.trans (List.map_congr_left (fun r hr => pick_row hR.once (sameIK_plain l) (hok r hr).1)) (List.map_id' rows)
  have hm : makeR (plainC cols) rows = some (plainC l, groupsOf l rows) := by
    have : makeOk (plainC l) rows = true := makeOk_iff.2 ⟨right_plain hR, h1, h60, fun r hr => row_plain (hrow r hr)⟩
    rw [hp]
    unfold makeR
    rw [if_pos this, groupsOf_same (sameIK_plain l)]
  have hr : rightB (plainC cols) next40 = true := by rw [hp]; exact right_iff.2 (right_plain hR)
  unfold madeB
  simp only
  rw [hr, ha]
  simp only
  rw [hm]
  simp
/-- What was put in is read, by the same columns. -/
theorem all_back {l cols : List Col} {rows : List (List V)} (h : makeOk l rows = true) (hs : SameIK cols l) (h64 : All64 rows) : allGo cols l [] (groupsOf l rows) = some rows := by
  obtain ⟨hR, h1, h60, hrow⟩ := makeOk_iff.1 h
  have hok := rowsOk_of hrow h64
  rw [all_groups hs hR.kinds l hok]
  congr 1
  exact Eq.trans (List.map_congr_left (fun r hr => pick_row hR.once (sameIK_refl l) (hok r hr).1)) (List.map_id' rows)
end Go.Proofs.YtodemklghajdeaaGreatDoor

namespace Go.Proofs.YtodemklghajdeaaGreatDoor
open Go

theorem rdCols_enc : ∀ (l : List Col) (rest : List UInt8), (∀ c ∈ l, 0 ≤ c.1 ∧ c.1 ≤ 1099511627776 ∧ 0 ≤ kd c ∧ kd c ≤ 2) → rdCols l.length (l.flatMap colBytes ++ rest, false) = (stripC l, (rest, false))
  | [], rest, _ => by simp [rdCols, stripC]
  | c :: l, rest, h => by
    obtain ⟨h0, h1, h2, h3⟩ := h c (by simp)
    have e1 : E.upToR 1099511627776 ((c :: l).flatMap colBytes ++ rest, false) = (c.1.toNat, (Lib.uvarint (kd c).toNat ++ (l.flatMap colBytes ++ rest), false)) := by
      rw [List.flatMap_cons, colBytes, List.append_assoc, List.append_assoc]
      exact E.upToR_enc (by omega) (by omega) _
    have e2 : E.upToR 2 (Lib.uvarint (kd c).toNat ++ (l.flatMap colBytes ++ rest), false) = ((kd c).toNat, (l.flatMap colBytes ++ rest, false)) := E.upToR_enc (by omega) (by omega) _
    have e3 := rdCols_enc l rest (fun d hd => h d (by simp [hd]))
    rw [List.length_cons, rdCols, e1]
    simp only
    rw [e2]
    simp only
    rw [e3, Int.toNat_of_nonneg h0, Int.toNat_of_nonneg h2]
    rfl
theorem cellR_enc (b rest : List UInt8) (hb : b.length ≤ 9223372036854775807) : cellR (cellBytes b ++ rest, false) = (b, (rest, false)) := by
  unfold cellR cellBytes
  rw [List.append_assoc, E.upToR_enc (by omega) (by omega)]
  exact E.bytesR_enc rfl _ _
theorem rdCells_enc : ∀ (l : List Col) (bs : List (List UInt8)) (rest : List UInt8), bs.length = l.length → (∀ b ∈ bs, b.length ≤ 9223372036854775807) → rdCells l (bs.flatMap cellBytes ++ rest, false) = (bs, (rest, false))
  | [], [], rest, _, _ => by simp [rdCells]
  | [], _ :: _, _, h, _ => by simp at h
  | _ :: _, [], _, h, _ => by simp at h
  | c :: l, b :: bs, rest, h, hb => by
    have e1 : cellR ((b :: bs).flatMap cellBytes ++ rest, false) = (b, (bs.flatMap cellBytes ++ rest, false)) := by
      rw [List.flatMap_cons, List.append_assoc]; exact cellR_enc b _ (hb b (by simp))
    rw [rdCells, e1]
    simp only
    rw [rdCells_enc l bs rest (by simpa using h) (fun x hx => hb x (by simp [hx]))]
def refill (l : List Col) (g : Grp) : Grp := (g.1, statsOf l g.2.2, g.2.2)
def BndG (n : Nat) (g : Grp) : Prop := g.1 ≤ 6 ∧ g.2.2.length = n ∧ ∀ b ∈ g.2.2, b.length ≤ 9223372036854775807
theorem rdGroup_enc {l : List Col} {g : Grp} (h : BndG l.length g) (rest : List UInt8) : rdGroup l (groupBytes g ++ rest, false) = (refill l g, (rest, false)) := by
  have e1 : E.upToR 6 (groupBytes g ++ rest, false) = (g.1, (g.2.2.flatMap cellBytes ++ rest, false)) := by
    unfold groupBytes
    rw [List.append_assoc]
    exact E.upToR_enc (by have := h.1; omega) (by have := h.1; omega) _
  unfold rdGroup
  rw [e1]
  simp only
  rw [rdCells_enc l g.2.2 rest h.2.1 h.2.2]
  rfl
theorem rdGroups_enc {l : List Col} : ∀ (gs : List Grp) (rest : List UInt8), (∀ g ∈ gs, BndG l.length g) → rdGroups l gs.length (gs.flatMap groupBytes ++ rest, false) = (gs.map (refill l), (rest, false))
  | [], rest, _ => by simp [rdGroups]
  | g :: gs, rest, h => by
    have e1 : rdGroup l ((g :: gs).flatMap groupBytes ++ rest, false) = (refill l g, (gs.flatMap groupBytes ++ rest, false)) := by
      rw [List.flatMap_cons, List.append_assoc]; exact rdGroup_enc (h g (by simp)) _
    rw [List.length_cons, rdGroups, e1]
    simp only
    rw [rdGroups_enc gs rest (fun x hx => h x (by simp [hx]))]
    rfl
structure Bnd (f : Fil) : Prop where
  cols : f.1.length ≤ 8
  col : ∀ c ∈ f.1, 0 ≤ c.1 ∧ c.1 ≤ 1099511627776 ∧ 0 ≤ kd c ∧ kd c ≤ 2
  groups : f.2.length ≤ 60
  group : ∀ g ∈ f.2, BndG f.1.length g
theorem stripC_len (l : List Col) : (stripC l).length = l.length := by simp [stripC]
theorem rdFile_enc {f : Fil} (h : Bnd f) (rest : List UInt8) : rdFile (writeB f ++ rest) = ((stripC f.1, f.2.map (refill (stripC f.1))), (rest, false)) := by
  have e1 : E.upToR 8 (writeB f ++ rest, false) = (f.1.length, (f.1.flatMap colBytes ++ (Lib.uvarint f.2.length ++ (f.2.flatMap groupBytes ++ rest)), false)) := by
    unfold writeB
    rw [List.append_assoc, List.append_assoc, List.append_assoc]
    exact E.upToR_enc (by have := h.cols; omega) (by have := h.cols; omega) _
  have e2 : rdHead (writeB f ++ rest) = (stripC f.1, (Lib.uvarint f.2.length ++ (f.2.flatMap groupBytes ++ rest), false)) := by
    unfold rdHead
    rw [e1]
    exact rdCols_enc f.1 _ h.col
  have e3 : E.upToR 60 (Lib.uvarint f.2.length ++ (f.2.flatMap groupBytes ++ rest), false) = (f.2.length, (f.2.flatMap groupBytes ++ rest, false)) := E.upToR_enc (by have := h.groups; omega) (by have := h.groups; omega) _
  have e4 : rdTail (stripC f.1) (Lib.uvarint f.2.length ++ (f.2.flatMap groupBytes ++ rest), false) = (f.2.map (refill (stripC f.1)), (rest, false)) := by
    unfold rdTail
    rw [e3]
    exact rdGroups_enc f.2 rest (fun g hg => by rw [stripC_len]; exact h.group g hg)
  unfold rdFile
  rw [e2]
  simp only
  rw [e4]
theorem len_flat {α : Type} (f : α → List UInt8) : ∀ {l : List α} {x : α}, x ∈ l → (f x).length ≤ (l.flatMap f).length
  | [], _, h => by simp at h
  | y :: l, x, h => by
    rw [List.flatMap_cons, List.length_append]
    rcases List.mem_cons.1 h with rfl | h
    · omega
    · have := len_flat f h; omega
theorem flat_len {α : Type} (f : α → List UInt8) (m : Nat) : ∀ {l : List α}, (∀ x ∈ l, (f x).length ≤ m) → (l.flatMap f).length ≤ l.length * m
  | [], _ => by simp
  | y :: l, h => by
    have h1 := h y (by simp)
    have h2 := flat_len f m (l := l) (fun x hx => h x (by simp [hx]))
    rw [List.flatMap_cons, List.length_append, List.length_cons, Nat.add_mul]; omega
theorem byte_len {f : Fil} {g : Grp} {b : List UInt8} (hg : g ∈ f.2) (hb : b ∈ g.2.2) : b.length ≤ (writeB f).length := by
  have h1 := len_flat cellBytes hb
  have h2 := len_flat groupBytes hg
  simp only [cellBytes, groupBytes, writeB, List.length_append] at h1 h2 ⊢
  omega
theorem right_col {l : List Col} (h : RightF l next40) {c : Col} (hc : c ∈ l) : 0 ≤ c.1 ∧ c.1 ≤ 1099511627776 ∧ 0 ≤ kd c ∧ kd c ≤ 2 := by
  obtain ⟨i, hi, rfl⟩ := List.getElem_of_mem hc
  obtain ⟨h1, h2⟩ := h.may i hi
  rw [List.getElem?_eq_getElem hi] at h1 h2
  simp only [Option.getD_some] at h1 h2
  obtain ⟨a, b, _, _⟩ := may_parts h1
  unfold next40 at h2
  refine ⟨by omega, by omega, ?_, ?_⟩ <;> rcases a with a | a <;> omega
theorem group_bnd {l : List Col} {p : List (List V)} (h6 : p.length ≤ 6) (hb : ∀ b ∈ (groupOf l p).2.2, b.length ≤ 9223372036854775807) : BndG l.length (groupOf l p) :=
  ⟨h6, by simp [groupOf], hb⟩
theorem nGr_le {n : Nat} (h : n ≤ 60) : nGr n ≤ 10 := by unfold nGr; omega
theorem same_ids_mem {a b : List Col} (h : SameIK a b) {c : Col} (hc : c ∈ a) : ∃ d ∈ b, d.1 = c.1 ∧ kd d = kd c := by
  obtain ⟨i, hi, rfl⟩ := List.getElem_of_mem hc
  have hi' : i < b.length := by rw [← h.len]; exact hi
  refine ⟨b[i], List.getElem_mem _, ?_, ?_⟩
  · have := h.idq i; rw [List.getElem?_eq_getElem hi, List.getElem?_eq_getElem hi'] at this; exact this.symm
  · have := h.kdq i; rw [List.getElem?_eq_getElem hi, List.getElem?_eq_getElem hi'] at this; exact this.symm
theorem made_bnd {f : Fil} (h : madeB f = true) (hl : (writeB f).length ≤ 9223372036854775807) : Bnd f := by
  unfold madeB at h
  rw [Bool.and_eq_true] at h
  obtain ⟨hr, hm⟩ := h
  have hR := right_iff.1 hr
  have hs := sameIK_plain f.1
  refine ⟨by have := hR.eight; rw [plainC_len] at this; exact this, fun c hc => ?_, ?_, ?_⟩
  · obtain ⟨d, hd, e1, e2⟩ := same_ids_mem ⟨hs.1.symm, hs.2.symm⟩ hc
    have := right_col hR hd
    rw [e1, e2] at this; exact this
  all_goals
    cases ha : allGo f.1 (plainC f.1) [] f.2 with
    | none => rw [ha] at hm; simp at hm
    | some rows =>
      rw [ha] at hm
      simp only at hm
      unfold makeR at hm
      by_cases hk : makeOk (plainC f.1) rows = true
      · rw [if_pos hk] at hm
        simp only [decide_eq_true_eq] at hm
        obtain ⟨_, _, h60, _⟩ := makeOk_iff.1 hk
        first
          | (rw [hm, groupsOf, List.length_map, parts_len]; have := nGr_le h60; omega)
          | (intro g hg
             have hg' := hg
             rw [hm, groupsOf, List.mem_map] at hg'
             obtain ⟨p, hp, rfl⟩ := hg'
             have := group_bnd (l := plainC f.1) (parts_mem hp).2.1 (fun b hb => Nat.le_trans (byte_len hg hb) hl)
             rw [plainC_len] at this
             exact this)
      · rw [if_neg hk] at hm; simp at hm
theorem refill_group {l cols : List Col} {p : List (List V)} (hs : SameIK cols l) (hr : RowsOk l p) (hk : Kinds l) (h6 : p.length ≤ 60) : refill cols (groupOf l p) = groupOf l p := by
  unfold refill
  have e : statsOf cols (groupOf l p).2.2 = (groupOf l p).2.1 := by
    apply List.ext_getElem?
    intro i
    by_cases hi : i < l.length
    · have hc : i < cols.length := by rw [hs.len]; exact hi
      obtain ⟨h1, h2⟩ := colOf_ok hr hi (hk i hi)
      have e1 : (groupOf l p).2.2[i]? = some (E.encB (kd (l[i]?.getD zC)) (colOf p i)) := by simp [groupOf, hi]
      have e2 : (groupOf l p).2.1[i]? = some (S.stOf (colOf p i)) := by simp [groupOf, hi]
      rw [e2]
      unfold statsOf
      rw [List.getElem?_zipWith, some_of zC hc, e1]
      simp only
      unfold stat1
      rw [hs.kdq, E.decR_enc h1 h2 (by rw [colOf_len]; exact h6)]
      rfl
    · rw [List.getElem?_eq_none (by simp [statsOf, groupOf, hs.len]; omega), List.getElem?_eq_none (by simp [groupOf]; omega)]
  rw [e]
theorem write_strip (l : List Col) (gs : List Grp) : writeB (stripC l, gs) = writeB (l, gs) := by
  unfold writeB
  have e : (stripC l).flatMap colBytes = l.flatMap colBytes := by
    unfold stripC
    rw [List.flatMap_map]
    rfl
  simp only [e, stripC_len]
theorem enc_len {kind : Int} {l : List V} (h : E.fitsB kind l = true) (ho : E.Okl l) (hl : l.length ≤ 60) : (E.encB kind l).length ≤ 4019 := by
  have hf := E.fits_few h ho hl
  have h1 := E.fewB_len (kind := kind) (E.known_few hf)
  have h2 := E.marksB_len l
  have h3 := Lib.uvarint_length64 (x := l.length) (by omega)
  simp only [E.encB, List.length_append]
  omega
theorem write_len {l : List Col} {rows : List (List V)} (h : makeOk l rows = true) (h64 : All64 rows) : (writeB (l, groupsOf l rows)).length ≤ 400000 := by
  obtain ⟨hR, h1, h60, hrow⟩ := makeOk_iff.1 h
  have hok := rowsOk_of hrow h64
  have hn := nGr_le h60
  have h8 := hR.eight
  have a1 : (l.flatMap colBytes).length ≤ l.length * 20 := flat_len _ _ (fun c hc => by
    have hc' := right_col hR hc
    have x1 := Lib.uvarint_length64 (x := c.1.toNat) (by omega)
    have x2 := Lib.uvarint_length64 (x := (kd c).toNat) (by omega)
    simp only [colBytes, List.length_append]; omega)
  have a2 : ((groupsOf l rows).flatMap groupBytes).length ≤ (groupsOf l rows).length * 32242 := flat_len _ _ (fun g hg => by
    simp only [groupsOf, List.mem_map] at hg
    obtain ⟨p, hp, rfl⟩ := hg
    obtain ⟨p1, p6, pm⟩ := parts_mem hp
    have x1 := Lib.uvarint_length64 (x := p.length) (by omega)
    have x2 : ((groupOf l p).2.2.flatMap cellBytes).length ≤ (groupOf l p).2.2.length * 4029 := flat_len _ _ (fun b hb => by
      simp only [groupOf, List.mem_map, List.mem_range] at hb
      obtain ⟨i, hi, rfl⟩ := hb
      obtain ⟨y1, y2⟩ := colOf_ok (l := l) (rows := p) (fun r hr => hok r (pm r hr)) hi (hR.kinds i hi)
      have y3 := enc_len y1 y2 (by rw [colOf_len]; omega)
      have y4 := Lib.uvarint_length64 (x := (E.encB (kd (l[i]?.getD zC)) (colOf p i)).length) (by omega)
      simp only [cellBytes, List.length_append]; omega)
    have x3 : (groupOf l p).2.2.length = l.length := by simp [groupOf]
    rw [x3] at x2
    have x4 : (groupOf l p).1 = p.length := rfl
    simp only [groupBytes, List.length_append, x4]
    have : l.length * 4029 ≤ 8 * 4029 := Nat.mul_le_mul_right _ h8
    omega)
  have a3 : (groupsOf l rows).length = nGr rows.length := by rw [groupsOf, List.length_map, parts_len]
  have a4 := Lib.uvarint_length64 (x := l.length) (by omega)
  have a5 := Lib.uvarint_length64 (x := (groupsOf l rows).length) (by omega)
  rw [a3] at a2 a5
  simp only [writeB, List.length_append, a3]
  have b1 : l.length * 20 ≤ 8 * 20 := Nat.mul_le_mul_right _ h8
  have b2 : nGr rows.length * 32242 ≤ 10 * 32242 := Nat.mul_le_mul_right _ hn
  omega
/-- What a file is written as is that file. -/
theorem parse_write {l : List Col} {rows : List (List V)} (h : makeOk l rows = true) (h64 : All64 rows) : parseR (writeB (l, groupsOf l rows)) = some (stripC l, groupsOf l rows) := by
  obtain ⟨hR, h1, h60, hrow⟩ := makeOk_iff.1 h
  have hok := rowsOk_of hrow h64
  have hm := made_ok h (sameIK_refl l) h64
  have hb := made_bnd hm (by have := write_len h h64; omega)
  have e := rdFile_enc hb []
  rw [List.append_nil] at e
  have e2 : (groupsOf l rows).map (refill (stripC l)) = groupsOf l rows := by
    refine Eq.trans (List.map_congr_left (fun g hg => ?_)) (List.map_id' _)
    simp only [groupsOf, List.mem_map] at hg
    obtain ⟨p, hp, rfl⟩ := hg
    obtain ⟨p1, p6, pm⟩ := parts_mem hp
    exact refill_group (sameIK_strip l) (fun r hr => hok r (pm r hr)) hR.kinds (by omega)
  simp only [e2] at e
  unfold parseR
  rw [e]
  simp only [Bool.false_eq_true, if_false]
  have e3 : writeR (stripC l, groupsOf l rows) = some (writeB (l, groupsOf l rows)) := by
    unfold writeR
    rw [if_pos (made_ok h (sameIK_strip l) h64), write_strip]
  rw [if_pos e3]
/-- No beginning of it is a file. -/
theorem parse_cut {l : List Col} {rows : List (List V)} (h : makeOk l rows = true) (h64 : All64 rows) {k : Nat} (hk : k < (writeB (l, groupsOf l rows)).length) : parseR ((writeB (l, groupsOf l rows)).take k) = none := by
  have hm := made_ok h (sameIK_refl l) h64
  have hw := write_len h h64
  have hb := made_bnd hm (by omega)
  cases hp : parseR ((writeB (l, groupsOf l rows)).take k) with
  | none => rfl
  | some g =>
    exfalso
    unfold parseR at hp
    split at hp
    · cases hp
    · split at hp
      · rename_i hwr
        injection hp with hp
        rw [hp] at hwr
        unfold writeR at hwr
        by_cases hmg : madeB g = true
        · rw [if_pos hmg] at hwr
          injection hwr with hwr
          have hbg := made_bnd hmg (by rw [hwr]; simp; omega)
          have e1 := rdFile_enc hbg ((writeB (l, groupsOf l rows)).drop k)
          rw [hwr, List.take_append_drop] at e1
          have e2 := rdFile_enc hb []
          rw [List.append_nil, e1] at e2
          injection e2 with _ e2
          injection e2 with e2 _
          have := congrArg List.length e2
          simp at this
          omega
        · rw [if_neg hmg] at hwr; cases hwr
      · cases hp
theorem rows_sum (l : List Col) (rows : List (List V)) : ((groupsOf l rows).map (·.1)).sum = rows.length := by
  have e : (groupsOf l rows).map (·.1) = (parts rows).map List.length := by
    unfold groupsOf
    rw [List.map_map]
    rfl
  rw [e, ← List.length_flatten, parts_all]
theorem write_parse {s : List UInt8} {f : Fil} (h : parseR s = some f) : writeR f = some s := by
  unfold parseR at h
  split at h
  · cases h
  · split at h
    · rename_i h2
      injection h with h
      rw [← h]; exact h2
    · cases h
end Go.Proofs.YtodemklghajdeaaGreatDoor
