/- api.Tell at an error that a bucket tells; an error held against nil; millpondkeep.thrown. -/
import Derived.Test.YtfppidnfomelpaaGreatDoorW1
import Derived.Maps.StringElems
import Derived.Maps.RangeWalk
import Derived.Maps.OwnSet
import Derived.Maps.Ext
import Derived.Test.YtfppidnfomelpaaGreatDoorShelfG
import Derived.Shelf.SlicesE.Clone
import Derived.LaidEql
import Derived.Stop.Asserts
import Derived.RowKitTokens
import Derived.Lib.ReflectliteSlice
namespace Go.Proofs.YtfppidnfomelpaaGreatDoor.B
open Go.RowKit Go.Maps

/-- w' is w but for the blocks that S names, and new ones. -/
structure Only (S : Nat → Prop) (w w' : World) : Prop where
  os : w'.os = w.os
  tape : w'.tape = w.tape
  output : w'.output = w.output
  size : w.heap.size ≤ w'.heap.size
  block : ∀ k, k < w.heap.size → ¬ S k → w'.heap[k]? = w.heap[k]?

theorem Only.refl (S : Nat → Prop) (w : World) : Only S w w := ⟨rfl, rfl, rfl, Nat.le_refl _, fun _ _ _ => rfl⟩
theorem Only.trans {S T : Nat → Prop} {a b c : World} (h : Only S a b) (k : Only T b c) (hT : ∀ i, i < a.heap.size → T i → S i) : Only S a c :=
  ⟨k.os.trans h.os, k.tape.trans h.tape, k.output.trans h.output, Nat.le_trans h.size k.size, fun i hi hS => (k.block i (Nat.lt_of_lt_of_le hi h.size) (fun ht => hS (hT i hi ht))).trans (h.block i hi hS)⟩
theorem Only.mono {S T : Nat → Prop} {a b : World} (h : Only S a b) (hT : ∀ i, i < a.heap.size → S i → T i) : Only T a b :=
  ⟨h.os, h.tape, h.output, h.size, fun i hi hS => h.block i hi (fun hs => hS (hT i hi hs))⟩
theorem Only.of_below {S : Nat → Prop} {a b : World} (h : Below a.heap.size a b) : Only S a b := ⟨h.os, h.tape, h.output, h.size, fun i hi _ => h.block i hi⟩
theorem Only.below {S : Nat → Prop} {B : Nat} {w0 a b : World} (h0 : Below B w0 a) (h : Only S a b) (hB : B ≤ a.heap.size) (hS : ∀ i, S i → B ≤ i) : Below B w0 b :=
  h0.trans ⟨h.os, h.tape, h.output, h.size, fun i hi => h.block i (by omega) (fun hs => by have := hS i hs; omega)⟩
theorem Only.self {S : Nat → Prop} {a b : World} (h : Only S a b) (hS : ∀ i, i < a.heap.size → ¬ S i) : Below a.heap.size a b := ⟨h.os, h.tape, h.output, h.size, fun i hi => h.block i hi (hS i hi)⟩
theorem Only.cell {S : Nat → Prop} {a b : World} (h : Only S a b) {p : Addr} {v : Value} (hc : a.cell? p = some v) (hp : ¬ S p.block) : b.cell? p = some v :=
  (World.cell?_of_block (h.block p.block (World.block_lt_of_cell? a p hc) hp)).trans hc
theorem Only.frozen {S : Nat → Prop} {a b : World} (h : Only S a b) {p : Addr} (hc : p.block < a.heap.size) (hp : ¬ S p.block) : b.frozen? p = a.frozen? p :=
  World.frozen?_of_block (h.block p.block hc hp)
theorem Only.alloc {S : Nat → Prop} {a b : World} (h : Only S a b) (o : Obj) : Only S a (b.alloc o) :=
  h.trans (T := fun _ => False) ⟨rfl, rfl, rfl, by simp, fun k hk _ => Below.heap_alloc _ _ _ hk⟩ (fun _ _ h => h.elim)
theorem Only.drew {S : Nat → Prop} {a b : World} (h : Only S a b) : Only S a b.drew := ⟨h.os, h.tape, h.output, h.size, h.block⟩
theorem Only.setCell {S : Nat → Prop} {a b : World} (h : Only S a b) {p : Addr} (hp : p.block < a.heap.size → S p.block) (u : Value) : Only S a (b.setCell p u) :=
  h.trans (T := fun k => k = p.block) ⟨rfl, rfl, rfl, by simp [World.setCell], fun k _ hk => Below.heap_setCell _ _ _ _ hk⟩ (fun _ hi e => e ▸ hp (e ▸ hi))
theorem Only.turned {S : Nat → Prop} {a b c : World} {m : Nat} (h : Only S a b) (ht : b.mapTurned c m) (hm : m < a.heap.size → S m) : Only S a c := by
  have hg := ht.grown
  exact h.trans (T := fun k => k = m) ⟨hg.os, hg.tape, hg.output, hg.size, fun k hk hn => hg.block k hk (fun e => hn (Option.some.inj e))⟩ (fun i hi e => e ▸ hm (e ▸ hi))
theorem Only.grown {S : Nat → Prop} {a b c : World} {row : Option Nat} (h : Only S a b) (hg : b.grownBy c row) (hm : ∀ m, row = some m → m < a.heap.size → S m) : Only S a c :=
  h.trans (T := fun k => row = some k) ⟨hg.os, hg.tape, hg.output, hg.size, fun k hk hn => hg.block k hk (fun e => hn e.symm)⟩ (fun i hi e => hm i e hi)
theorem Only.map {S : Nat → Prop} {a b : World} {P : Program} {k : TypeId} {R : Value → Option (DataW Unit × List MemPlace)} {m n : Nat} {D : DataW Unit} (h : Only S a b) (ho : a.ownsMap P k R m n D) (hm : ¬ S m) : b.ownsMap P k R m n D := by
  obtain ⟨es, clock, hb, r⟩ := ho
  exact ⟨es, clock, (h.block m (Nat.lt_of_not_le fun hl => by rw [Array.getElem?_eq_none hl] at hb; cases hb) hm).trans hb, r⟩

/-- How a thing reads: as its text. -/
def thingE (v : Value) : Option (DataW Unit × List MemPlace) :=
  match v with
  | .agg cs => match cs.toList with
    | [.string s] => if s.size ≤ maxLen then some (.lit (.string s.data.toList), []) else none
    | _ => none
  | _ => none
theorem thingE_mk {s : ByteArray} (h : s.size ≤ maxLen) : thingE (.agg #[.string s]) = some (.lit (.string s.data.toList), []) := by simp [thingE, h]
theorem thingE_inv {v : Value} {z : DataW Unit × List MemPlace} (h : thingE v = some z) : ∃ s : ByteArray, v = .agg #[.string s] ∧ z = (.lit (.string s.data.toList), []) ∧ s.size ≤ maxLen := by
  unfold thingE at h
  split at h
  · rename_i cs
    split at h
    · rename_i s hs
      split at h
      · rename_i hl
        cases h
        exact ⟨s, by rw [← Array.toArray_toList (xs := cs), hs], rfl, hl⟩
      · cases h
    · cases h
  · cases h

/-- A key, as it is read. -/
def lit (b : ByteArray) : Lit := .string b.data.toList
/-- A text, as it is read. -/
def txt (b : ByteArray) : DataW Unit := .lit (.string b.data.toList)
theorem txt_inj {a b : ByteArray} (h : txt a = txt b) : a = b := by
  unfold txt at h
  injection h with h
  injection h with h
  cases a; cases b
  simp at h
  simp [h]
theorem lit_inj {a b : ByteArray} (h : lit a = lit b) : a = b := by
  unfold lit at h
  injection h with h
  cases a; cases b
  simp at h
  simp [h]
theorem law9 : Keyed Tryz.prog 9 := string_keyed Tryz.underlying9
theorem keyOf9 {b : ByteArray} (h : b.size ≤ maxLen) : keyOf Tryz.prog 9 (.string b) = some (lit b) := WideMaps.keyOf_string_mk Tryz.underlying9 h

/-- Things read as D. -/
def Th (w : World) (mv : Value) (n : Nat) (D : DataW Unit) : Prop := (mv = .map none ∧ D = .map []) ∨ ∃ m, mv = .map (some m) ∧ w.ownsMap Tryz.prog 9 thingE m n D
/-- Faults are fs. -/
def Fs (w : World) (fv : Value) (fs : List Int) : Prop := ∃ a cap, fv = .slice a fs.length cap ∧ fs.length ≤ cap ∧ (fs ≠ [] → ∃ b off, a = some ⟨b, off, none⟩ ∧ ∀ (j : Nat) x, fs[j]? = some x → w.cell? ⟨b, off + j, none⟩ = some (.int .i64 x))
/-- A bucket's two cells. -/
def Bk (w : World) (bb : Nat) (mv fv : Value) : Prop := w.heap[bb]? = some (.cells #[mv, fv] 42 (0, 0))

theorem Bk.c0 {w : World} {bb : Nat} {mv fv : Value} (h : Bk w bb mv fv) : w.cell? ⟨bb, 0, none⟩ = some mv := by unfold Bk at h; simp [World.cell?, h]
theorem Bk.c1 {w : World} {bb : Nat} {mv fv : Value} (h : Bk w bb mv fv) : w.cell? ⟨bb, 1, none⟩ = some fv := by unfold Bk at h; simp [World.cell?, h]
theorem Bk.f {w : World} {bb : Nat} {mv fv : Value} (h : Bk w bb mv fv) (i : Nat) : w.frozen? ⟨bb, i, none⟩ = false := by unfold Bk at h; simp [World.frozen?, h]
theorem Bk.lt {w : World} {bb : Nat} {mv fv : Value} (h : Bk w bb mv fv) : bb < w.heap.size := World.block_lt_of_cell? w ⟨bb, 0, none⟩ h.c0
theorem Bk.keep {w w' : World} {bb : Nat} {mv fv : Value} (h : Bk w bb mv fv) (hb : w'.heap[bb]? = w.heap[bb]?) : Bk w' bb mv fv := hb.trans h
theorem Bk.set0 {w : World} {bb : Nat} {mv fv : Value} (h : Bk w bb mv fv) (u : Value) : Bk (w.setCell ⟨bb, 0, none⟩ u) bb u fv := by
  unfold Bk at h ⊢
  simp [World.setCell, Array.getElem?_modify, h]
theorem Bk.set1 {w : World} {bb : Nat} {mv fv : Value} (h : Bk w bb mv fv) (u : Value) : Bk (w.setCell ⟨bb, 1, none⟩ u) bb mv u := by
  unfold Bk at h ⊢
  simp [World.setCell, Array.getElem?_modify, h]
theorem Bk.alloc {w : World} {bb : Nat} {mv fv : Value} (h : Bk w bb mv fv) (o : Obj) : Bk (w.alloc o) bb mv fv := h.keep (Below.heap_alloc _ _ _ h.lt)

theorem Fs.keep {w w' : World} {fv : Value} {fs : List Int} (h : Fs w fv fs) (hk : ∀ p v, (∃ x, v = Value.int .i64 x) → w.cell? p = some v → w'.cell? p = some v) : Fs w' fv fs := by
  obtain ⟨a, cap, e, hc, hl⟩ := h
  refine ⟨a, cap, e, hc, fun hn => ?_⟩
  obtain ⟨b, off, ea, hcell⟩ := hl hn
  exact ⟨b, off, ea, fun j x hx => hk _ _ ⟨x, rfl⟩ (hcell j x hx)⟩
theorem Fs.alloc {w : World} {fv : Value} {fs : List Int} (h : Fs w fv fs) (o : Obj) : Fs (w.alloc o) fv fs := h.keep fun p _ _ hc => (World.cell?_alloc_lt _ _ p (World.block_lt_of_cell? w p hc)).trans hc
theorem Th.alloc {w : World} {mv : Value} {n : Nat} {D : DataW Unit} (h : Th w mv n D) (o : Obj) : Th (w.alloc o) mv n D := by
  rcases h with h | ⟨m, e, hm⟩
  · exact .inl h
  · exact .inr ⟨m, e, hm.alloc _⟩
theorem Th.mono {w : World} {mv : Value} {n n' : Nat} {D : DataW Unit} (h : Th w mv n D) (hn : n ≤ n') : Th w mv n' D := by
  rcases h with h | ⟨m, e, hm⟩
  · exact .inl h
  · exact .inr ⟨m, e, hm.mono hn⟩
theorem Th.keep {w w' : World} {mv : Value} {n : Nat} {D : DataW Unit} (h : Th w mv n D) (hk : ∀ m, mv = .map (some m) → w'.heap[m]? = w.heap[m]?) : Th w' mv n D := by
  rcases h with h | ⟨m, e, hm⟩
  · exact .inl h
  · obtain ⟨es, clock, hb, r⟩ := hm
    exact .inr ⟨m, e, es, clock, (hk m e).trans hb, r⟩
theorem Th.lt {w : World} {mv : Value} {n : Nat} {D : DataW Unit} (h : Th w mv n D) {m : Nat} (e : mv = .map (some m)) : m < w.heap.size := by
  rcases h with ⟨h, _⟩ | ⟨m', e', hm⟩
  · rw [e] at h; cases h
  · rw [e] at e'; cases e'; exact hm.lt
theorem Th.canon {w : World} {mv : Value} {n : Nat} {D : DataW Unit} (h : Th w mv n D) : Canon D := by
  rcases h with ⟨_, rfl⟩ | ⟨m, e, hm⟩
  · exact canon_empty
  · exact hm.canon law9
theorem Th.tidy {w : World} {mv : Value} {n : Nat} {D : DataW Unit} (h : Th w mv n D) : Tidy D := by
  rcases h with ⟨_, rfl⟩ | ⟨m, e, hm⟩
  · exact tidy_empty
  · exact hm.tidy law9
theorem Th.isMap {w : World} {mv : Value} {n : Nat} {D : DataW Unit} (h : Th w mv n D) : IsMap D := h.tidy.isMap
theorem Th.size_le {w : World} {mv : Value} {n : Nat} {D : DataW Unit} (h : Th w mv n D) : Maps.size D ≤ n := by
  rcases h with ⟨_, rfl⟩ | ⟨m, e, hm⟩
  · exact Nat.zero_le _
  · exact hm.size_le
/-- A block of cells is not the map's, nor holds it a number where a bucket lies. -/
theorem Th.ne {w : World} {mv : Value} {n : Nat} {D : DataW Unit} (h : Th w mv n D) {p : Addr} {v : Value} (hc : w.cell? p = some v) : mv ≠ .map (some p.block) := by
  rcases h with ⟨h, _⟩ | ⟨m, e, es, clock, hb, _⟩
  · rw [h]; intro e; cases e
  · rw [e]; intro e2; cases e2; simp [World.cell?, hb] at hc

/-- A look into things, there or not. -/
theorem Th.look {w : World} {mv : Value} {n : Nat} {D : DataW Unit} (h : Th w mv n D) {key : ByteArray} (hk : key.size ≤ maxLen) :
    ∃ t : ByteArray, (Instr.lookup 40 mv (.string key) true).run Tryz.prog w = .ok (.tuple #[.agg #[.string t], .bool (Maps.has D (lit key))]) w ∧ D.atKey (lit key) (txt ByteArray.empty) = txt t := by
  have hz : ∀ W, (zeroValue 93).run Tryz.prog W = .ok (.agg #[.string ⟨#[]⟩]) W := fun W => by kernel_rfl
  rcases h with ⟨rfl, rfl⟩ | ⟨m, rfl, hm⟩
  · refine ⟨⟨#[]⟩, ?_, rfl⟩
    have := Maps.look_nil (w := w) true law9 Tryz.underlying40 (hz w) (keyOf9 hk)
    simpa [Maps.has] using this
  · obtain ⟨v, ps, hrun, hv⟩ := hm.look_ok law9 Tryz.underlying40 (hz w) (zd := txt ByteArray.empty) (thingE_mk (by decide)) (keyOf9 hk)
    obtain ⟨s, rfl, e, _⟩ := thingE_inv hv
    exact ⟨s, hrun, congrArg Prod.fst e⟩

section
variable (w : World) {ops : Array Oper} {rest : List Oper} {o : Oper} {a : Act} {Q : Exit → Act → World → Prop}
/-- 'v, ok := things[key]', at the operation. -/
theorem wpList_look (hg : o.guard = none) (m x : Operand) (hop : o.op = Op.lookup 40 m x true) (n : Nat) (D : DataW Unit) (mv : Value) (key : ByteArray)
    (hm : a.eval m = mv) (hx : a.eval x = .string key) (hth : Th w mv n D) (hk : key.size ≤ maxLen)
    (hK : ∀ t : ByteArray, D.atKey (lit key) (txt ByteArray.empty) = txt t → wpList Tryz.prog ops Q rest (a.put o.dst (.tuple #[.agg #[.string t], .bool (Maps.has D (lit key))])) w) :
    wpList Tryz.prog ops Q (o :: rest) a w := by
  refine wpList_plain hg fun K' hK' => ?_
  obtain ⟨t, hrun, hat⟩ := hth.look hk
  unfold Oper.wp
  simp [execOp, hop, hm, hx, hrun, Result.andThen]
  exact hK' _ _ (hK t hat)
end
end Go.Proofs.YtfppidnfomelpaaGreatDoor.B

namespace Go.Proofs.YtfppidnfomelpaaGreatDoor.B
open Go.RowKit Go.Maps

theorem all_any (bb : Nat) (mv : Value) (w : World) (h0 : w.cell? ⟨bb, 0, none⟩ = some mv) :
    Calls Tryz.prog 35 #[.pointer (some ⟨bb, 0, none⟩)] w fun e w' => e = .returned mv ∧ w' = w := by
  go_enter Tryz.func35, Tryz.ntmps35
  go_wp2
  go_ret
  exact ⟨rfl, rfl⟩

theorem next_nil (bb : Nat) (ao : Option Addr) (cap : Nat) (w : World) (h1 : w.cell? ⟨bb, 1, none⟩ = some (.slice ao 0 cap)) :
    Calls Tryz.prog 61 #[.pointer (some ⟨bb, 0, none⟩)] w fun e w' => e = .returned (.int .i64 0) ∧ w' = w := by
  go_enter Tryz.func61, Tryz.ntmps61
  go_wp2
  go_ret
  exact ⟨rfl, rfl⟩
theorem next_some (bb b off n cap : Nat) (x : Int) (w : World) (h1 : w.cell? ⟨bb, 1, none⟩ = some (.slice (some ⟨b, off, none⟩) (n + 1) cap)) (hf : w.frozen? ⟨bb, 1, none⟩ = false) (hn : n + 1 ≤ cap) (hc : w.cell? ⟨b, off, none⟩ = some (.int .i64 x)) :
    Calls Tryz.prog 61 #[.pointer (some ⟨bb, 0, none⟩)] w fun e w' => e = .returned (.int .i64 x) ∧ ∃ a', (n ≠ 0 → a' = some ⟨b, off + 1, none⟩) ∧ w' = w.setCell ⟨bb, 1, none⟩ (.slice a' n (cap - 1)) := by
  go_enter Tryz.func61, Tryz.ntmps61
  go_wp2
  · go_ret
    exact ⟨rfl, some ⟨b, off, none⟩, fun hn0 => by omega, rfl⟩
  · go_ret
    exact ⟨rfl, some ⟨b, off + 1, none⟩, fun _ => rfl, rfl⟩

/-- The blocks that are a bucket's own: itself, and its things. -/
def Own (bb : Nat) (mv : Value) (k : Nat) : Prop := k = bb ∨ mv = .map (some k)
/-- A bucket, its things and its faults. -/
def Bu (w : World) (bb n : Nat) (D : DataW Unit) (fs : List Int) (mv fv : Value) : Prop := Bk w bb mv fv ∧ Th w mv n D ∧ Fs w fv fs
theorem Fs.far {w : World} {bb : Nat} {mv fv : Value} {n : Nat} {D : DataW Unit} {fs : List Int} (hB : Bk w bb mv fv) (hT : Th w mv n D) (hF : Fs w fv fs) {p : Addr} {x : Int} (hc : w.cell? p = some (.int .i64 x)) : p.block ≠ bb := by
  intro e
  unfold Bk at hB
  obtain ⟨a, cap, rfl, _⟩ := hF
  have hmv : ∀ x, mv ≠ .int .i64 x := fun x e2 => by
    rcases hT with ⟨h, _⟩ | ⟨m, h, _⟩ <;> rw [h] at e2 <;> cases e2
  obtain ⟨pb, po, ps⟩ := p
  have hs : ps = none := World.cell?_spot hc
  subst hs
  simp only at e
  subst e
  simp only [World.cell?, hB] at hc
  match po with
  | 0 => simp at hc; exact hmv _ hc
  | 1 => simp at hc
  | k + 2 => simp at hc
/-- Faults that are left lie in the block in which they lay. -/
def SameB (fv fv' : Value) : Prop := ∀ b off l c, fv' = .slice (some ⟨b, off, none⟩) (l + 1) c → ∃ off0 l0 c0, fv = .slice (some ⟨b, off0, none⟩) (l0 + 1) c0
theorem SameB.refl (fv : Value) : SameB fv fv := fun _ off l c e => ⟨off, l, c, e⟩
theorem next_any (bb n : Nat) (D : DataW Unit) (fs : List Int) (mv fv : Value) (w : World) (hB : Bk w bb mv fv) (hT : Th w mv n D) (hF : Fs w fv fs) :
    Calls Tryz.prog 61 #[.pointer (some ⟨bb, 0, none⟩)] w fun e w' => e = .returned (.int .i64 (fs.headD 0)) ∧ ∃ fv', Bu w' bb n D fs.tail mv fv' ∧ Only (fun k => k = bb) w w' ∧ SameB fv fv' := by
  cases fs with
  | nil =>
    have hF0 := hF
    obtain ⟨a, cap, e, hc, hl⟩ := hF0
    refine (next_nil bb a cap w (e ▸ hB.c1)).mono ?_
    rintro e w' ⟨rfl, rfl⟩
    exact ⟨rfl, fv, ⟨hB, hT, hF⟩, Only.refl _ _, SameB.refl _⟩
  | cons x fs =>
    have hfar := @Fs.far w bb mv fv n D (x :: fs) hB hT hF
    obtain ⟨a, cap, rfl, hc, hl⟩ := hF
    obtain ⟨b, off, rfl, hcell⟩ := hl (by simp)
    refine (next_some bb b off fs.length cap x w hB.c1 (hB.f 1) hc (by simpa using hcell 0 x rfl)).mono ?_
    rintro e w' ⟨rfl, a', ha', rfl⟩
    refine ⟨rfl, _, ⟨hB.set1 _, hT.keep fun m hm => Below.heap_setCell _ _ _ _ ?_, a', cap - 1, rfl, by simp at hc ⊢; omega, fun hn => ⟨b, off + 1, ha' (by cases fs with | nil => exact absurd rfl hn | cons y l => simp), fun j y hy => ?_⟩⟩, (Only.refl (fun k => k = bb) w).setCell (p := ⟨bb, 1, none⟩) (fun _ => rfl) _, fun b1 off1 l1 c1 e => ?_⟩
    rotate_right
    · injection e with e2 e3
      have := ha' (by omega)
      rw [this] at e2
      injection e2 with e2
      injection e2 with e2
      subst e2
      exact ⟨off, fs.length, cap, rfl⟩
    · intro e
      exact hT.ne (hB.c0) (by rw [hm, e])
    · have h1 := hcell (j + 1) y (by simpa using hy)
      rw [show off + 1 + j = off + (j + 1) by omega, World.cell?_setCell_other _ _ _ _ (by intro e; exact hfar h1 (congrArg Addr.block e).symm)]
      exact h1

theorem eqlmap (w : World) (a : Option Nat) : (binOp .eql 40 (.map a) (.map none)).run Tryz.prog w = .ok (.bool a.isNone) w := by cases a <;> kernel_rfl
set_option maxRecDepth 100000 in
theorem lay_nil (bb : Nat) (fv : Value) (key s : ByteArray) (w : World) (hB : Bk w bb (.map none) fv) (hk : key.size ≤ maxLen) (hs : s.size ≤ maxLen) :
    Calls Tryz.prog 62 #[.pointer (some ⟨bb, 0, none⟩), .string key, .string s] w fun e w' => e = .returned (.tuple #[]) ∧ ∃ m, w.heap.size ≤ m ∧ Bk w' bb (.map (some m)) fv ∧ w'.ownsMap Tryz.prog 9 thingE m 1 (DataW.put (.map []) (lit key) (txt s)) ∧ Only (fun k => k = bb) w w' := by
  have hmm := @run_makeMap Tryz.prog
  have qm := eqlmap
  have c0 := hB.c0
  have f0 := hB.f 0
  have hne : w.heap.size ≠ bb := Nat.ne_of_gt hB.lt
  have hsz : (w.setCell ⟨bb, 0, none⟩ (.map (some w.heap.size))).heap.size = w.heap.size := by simp [World.setCell]
  have HO : Hid (((w.setCell ⟨bb, 0, none⟩ (.map (some w.heap.size))).alloc (.map #[] 0)).ownsMap Tryz.prog 9 thingE w.heap.size 0 (.map [])) := by
    have := World.ownsMap_made (w.setCell ⟨bb, 0, none⟩ (.map (some w.heap.size))) Tryz.prog 9 thingE
    rw [hsz] at this
    exact this
  have HB : Hid (Bk ((w.setCell ⟨bb, 0, none⟩ (.map (some w.heap.size))).alloc (.map #[] 0)) bb (.map (some w.heap.size)) fv) := (hB.set0 _).alloc _
  have HN : Hid (Only (fun k => k = bb) w ((w.setCell ⟨bb, 0, none⟩ (.map (some w.heap.size))).alloc (.map #[] 0))) := ((Only.refl (fun k => k = bb) w).setCell (p := ⟨bb, 0, none⟩) (fun _ => rfl) _).alloc _
  clear hsz
  have hlt := hB.lt
  clear hB hne
  go_enter Tryz.func62, Tryz.ntmps62
  go_wp2_with (first
    | (at_mapUpdate; (refine wpList_mapUpdate_in _ rfl _ _ _ 40 rfl 9 93 law9 Tryz.underlying40 thingE w.heap.size 0 (.map []) rfl HO.out (by decide) _ _ _ rfl rfl (keyOf9 hk) _ [] (thingE_mk hs) ?_); intro w1 hown1 hturn1))
  go_end0
  have hg := hturn1.grown
  exact ⟨rfl, w.heap.size, Nat.le_refl _, HB.out.keep (hg.block bb (HB.out.lt) (by intro e; cases e; omega)), hown1, HN.out.turned hturn1 (fun h => absurd h (Nat.lt_irrefl _))⟩

set_option maxRecDepth 100000 in
theorem lay_some (bb m n : Nat) (D : DataW Unit) (fv : Value) (key s : ByteArray) (w : World) (hB : Bk w bb (.map (some m)) fv) (hm : w.ownsMap Tryz.prog 9 thingE m n D) (hn : n < maxLen) (hk : key.size ≤ maxLen) (hs : s.size ≤ maxLen) :
    Calls Tryz.prog 62 #[.pointer (some ⟨bb, 0, none⟩), .string key, .string s] w fun e w' => e = .returned (.tuple #[]) ∧ w'.ownsMap Tryz.prog 9 thingE m (n + 1) (D.put (lit key) (txt s)) ∧ w.mapTurned w' m := by
  have qm := eqlmap
  have c0 := hB.c0
  have HO : Hid (w.ownsMap Tryz.prog 9 thingE m n D) := hm
  clear hB hm
  go_enter Tryz.func62, Tryz.ntmps62
  go_wp2_with (first
    | (at_mapUpdate; (refine wpList_mapUpdate_in _ rfl _ _ _ 40 rfl 9 93 law9 Tryz.underlying40 thingE m n D rfl HO.out hn _ _ _ rfl rfl (keyOf9 hk) _ [] (thingE_mk hs) ?_); intro w1 hown1 hturn1))
  go_end0
  exact ⟨rfl, hown1, hturn1⟩

theorem lay_any (bb n : Nat) (D : DataW Unit) (fs : List Int) (mv fv : Value) (key s : ByteArray) (w : World) (h : Bu w bb n D fs mv fv) (hn : n < maxLen) (hk : key.size ≤ maxLen) (hs : s.size ≤ maxLen) :
    Calls Tryz.prog 62 #[.pointer (some ⟨bb, 0, none⟩), .string key, .string s] w fun e w' => e = .returned (.tuple #[]) ∧ ∃ mv', Bu w' bb (n + 1) (D.put (lit key) (txt s)) fs mv' fv ∧ Only (Own bb mv) w w' ∧ ∀ k, mv' = .map (some k) → mv = .map (some k) ∨ w.heap.size ≤ k := by
  obtain ⟨hB, hT, hF⟩ := h
  have hfar := @Fs.far w bb mv fv n D fs hB hT hF
  have hTne := @Th.ne w mv n D hT
  have hkeep : ∀ w', Only (Own bb mv) w w' → Fs w' fv fs := fun w' ho => hF.keep fun p v ⟨x, hx⟩ hc => ho.cell hc (by
    rintro (e | e)
    · exact hfar (hx ▸ hc) e
    · exact hTne hc e)
  rcases hT with ⟨rfl, rfl⟩ | ⟨m, rfl, hm⟩
  · refine (lay_nil bb fv key s w hB hk hs).mono ?_
    rintro e w' ⟨rfl, m, hle, hB', hm', ho⟩
    have ho' : Only (Own bb (.map none)) w w' := ho.mono fun _ _ e => .inl e
    exact ⟨rfl, _, ⟨hB', .inr ⟨m, rfl, hm'.mono (by omega)⟩, hkeep _ ho'⟩, ho', fun k hk => .inr (by cases hk; exact hle)⟩
  · refine (lay_some bb m n D fv key s w hB hm hn hk hs).mono ?_
    rintro e w' ⟨rfl, hm', ht⟩
    have ho' : Only (Own bb (.map (some m))) w w' := (Only.refl _ w).turned ht (fun _ => .inr rfl)
    refine ⟨rfl, _, ⟨hB.keep (ht.grown.block bb hB.lt ?_), .inr ⟨m, rfl, hm'⟩, hkeep _ ho'⟩, ho', fun k hk => .inl hk⟩
    intro e
    cases e
    exact hTne hB.c0 rfl

theorem cell_list {w : World} {b off : Nat} {l : List Int} (h : ∀ (j : Nat) x, l[j]? = some x → w.cell? ⟨b, off + j, none⟩ = some (.int .i64 x)) : ∀ (j : Nat) u, (l.map (Value.int .i64))[j]? = some u → w.cell? ⟨b, off + j, none⟩ = some u := by
  intro j u hu
  rw [List.getElem?_map] at hu
  obtain ⟨x, hx, rfl⟩ := Option.map_eq_some_iff.1 hu
  exact h j x hx
/-- A row of numbers that is owned reads as they are. -/
theorem ownsRow_fs {w : World} {base : Nat} {v : Value} {l : List Int} (h : w.ownsRow base 3 1 v l.length (l.map (Value.int .i64))) : Fs w v l := by
  obtain ⟨_, ⟨rfl, h0⟩ | ⟨g, cap, cur, rfl, hg, hh, hc, hm, hs, ht⟩⟩ := h
  · rw [List.length_eq_zero_iff.1 h0]
    exact ⟨_, _, rfl, Nat.le_refl _, fun h => absurd rfl h⟩
  · refine ⟨_, cap, rfl, hc, fun _ => ⟨g, 0, rfl, fun j x hx => ?_⟩⟩
    have h1 : (cur.toList.take (l.length * 1))[j]? = some (.int .i64 x) := by rw [ht, List.getElem?_map, hx]; rfl
    have hj : j < l.length := by
      rcases Nat.lt_or_ge j l.length with h' | h'
      · exact h'
      · rw [List.getElem?_eq_none h'] at hx; cases hx
    rw [List.getElem?_take_of_lt (by omega)] at h1
    simp [World.cell?, hh]
    simpa using h1


set_option maxRecDepth 100000 in
theorem faults_step (bb : Nat) (l mv fv : Value) (w : World) (h : Bk w bb mv fv) (Q : Value → World → Prop)
    (hc : Calls Tryz.prog 30 #[l] w fun e w' => ∃ a n c, e = .returned (.slice a n c) ∧ Below w.heap.size w w' ∧ Q (.slice a n c) w') :
    Calls Tryz.prog 13 #[.pointer (some ⟨bb, 0, none⟩), l] w fun e w' => e = .returned (.tuple #[]) ∧ ∃ v' w1, Q v' w1 ∧ Below w.heap.size w w1 ∧ w' = w1.setCell ⟨bb, 1, none⟩ v' := by
  have H1 : Hid (∀ w1, Below w.heap.size w w1 → Bk w1 bb mv fv) := fun w1 hb => h.keep (hb.block bb h.lt)
  go_enter Tryz.func13, Tryz.ntmps13
  go_wp2_with (first
    | (go_at_call 30; refine hc.mono ?_; rintro e w1 ⟨a, n, c, rfl, hb1, hq⟩; have c1 := (H1.out _ hb1).c1; have f1 := (H1.out _ hb1).f 1))
  go_end0
  exact ⟨rfl, _, w1, hq, hb1, rfl⟩

theorem info3 : (Tryz.prog.info? 3).map (fun i => (i.zero, i.size, i.bytes)) = some (some (.int .i64 0), 1, 8) := by kernel_rfl
set_option maxRecDepth 100000 in
theorem clone_zero (ao : Option Addr) (cap : Nat) (w : World) :
    Calls Tryz.prog 30 #[.slice ao 0 cap] w fun e w' => ∃ a c, e = .returned (.slice a 0 c) ∧ Below w.heap.size w w' := by
  have q22 : ∀ (w : World) (a : Option Addr) (n c n' c' : Nat), (binOp .eql 38 (.slice a n c) (.slice none n' c')).run Tryz.prog w = .ok (.bool a.isNone) w := fun w a n c n' c' => Lib.run_eql_slice_nil w _ _ a n c n' c' Tryz.underlying38
  obtain ⟨i0, hi, hz0, hz1, hz2⟩ := info_parts info3
  cases ao with
  | none =>
    go_enter Tryz.func30, Tryz.ntmps30
    go_wp2
    go_ret
    exact ⟨_, _, rfl, Below.refl _ _⟩
  | some a =>
    go_enter Tryz.func30, Tryz.ntmps30
    go_wp2_with (at_builtin; refine wpList_append_own _ rfl _ _ 38 rfl w.heap.size 3 i0 (.int .i64 0) 1 8 Tryz.underlying38 hi hz0 hz1 hz2 rfl (by decide) _ _ _ rfl (World.ownsRow_made w #[] 0 (Nat.le_refl _) (Nat.zero_le _) (by simp)) a 0 cap [] rfl (by simp) (by simp) (by simp) (by decide) (by decide) (by simp) ?_)
    intro v' w1 hown hgrow hnil
    have hv : ∃ g c, v' = .slice g 0 c := by
      obtain ⟨_, ⟨h1, _⟩ | ⟨g, c, cur, h1, _⟩⟩ := hown
      · exact ⟨_, _, h1⟩
      · exact ⟨_, _, h1⟩
    obtain ⟨g, c, rfl⟩ := hv
    go_wp2
    go_ret
    exact ⟨_, _, rfl, ((Below.refl _ w).alloc (Nat.le_refl _) _).grown hgrow (by simp) (by intro k hk; simp [Value.ownBlock] at hk; omega)⟩
theorem clone_any (lv : Value) (fs : List Int) (w : World) (hF : Fs w lv fs) (h30 : fs.length ≤ 1000) :
    Calls Tryz.prog 30 #[lv] w fun e w' => ∃ a n c, e = .returned (.slice a n c) ∧ Below w.heap.size w w' ∧ Fs w' (.slice a n c) fs ∧ (fs ≠ [] → ∃ g, a = some ⟨g, 0, none⟩ ∧ w.heap.size ≤ g) := by
  obtain ⟨a, cap, rfl, hc, hl⟩ := hF
  cases fs with
  | nil =>
    refine (clone_zero a cap w).mono ?_
    rintro e w' ⟨a', c', rfl, hb⟩
    exact ⟨a', 0, c', rfl, hb, ⟨a', c', rfl, Nat.zero_le _, fun h => absurd rfl h⟩, fun h => absurd rfl h⟩
  | cons x fs =>
    obtain ⟨b, off, rfl, hcell⟩ := hl (by simp)
    obtain ⟨i0, hi, hz0, hz1, hz2⟩ := info_parts info3
    have hcon := AnyE.slices_Clone Tryz.layCloneI i0 (.int .i64 0) 1 8 hi hz0 hz1 hz2 rfl (by decide) Tryz.sizeOf3 b off (x :: fs).length cap ((x :: fs).map (Value.int .i64)) w (by simp) (by unfold maxLen; omega) (by omega) (cell_list hcell) (by intro u hu; simp only [List.mem_map] at hu; obtain ⟨y, _, rfl⟩ := hu; rfl)
    change Calls Tryz.prog 30 _ _ _ at hcon
    refine hcon.mono ?_
    rintro e w' ⟨v', rfl, hown, hnn, hb⟩
    have hF' := ownsRow_fs hown
    obtain ⟨_, ⟨h1, _⟩ | ⟨g, c, cur, rfl, hg, _⟩⟩ := hown
    · exact absurd h1 hnn
    · exact ⟨_, _, _, rfl, hb, hF', fun _ => ⟨g, rfl, hg⟩⟩

/-- Faults: these are the next ones. -/
theorem faults_any (bb n : Nat) (D : DataW Unit) (fs fs' : List Int) (mv fv lv : Value) (w : World) (h : Bu w bb n D fs mv fv) (hl : Fs w lv fs') (h30 : fs'.length ≤ 1000) :
    Calls Tryz.prog 13 #[.pointer (some ⟨bb, 0, none⟩), lv] w fun e w' => e = .returned (.tuple #[]) ∧ ∃ fv', Bu w' bb n D fs' mv fv' ∧ Only (fun k => k = bb) w w' := by
  obtain ⟨hB, hT, hF⟩ := h
  refine (faults_step bb lv mv fv w hB (fun v w' => Fs w' v fs' ∧ ∀ b off len cap, v = .slice (some ⟨b, off, none⟩) len cap → fs' ≠ [] → w.heap.size ≤ b) ((clone_any lv fs' w hl h30).mono ?_)).mono ?_
  · rintro e w' ⟨a, n, c, rfl, hb, hf, hg⟩
    refine ⟨a, n, c, rfl, hb, hf, fun b off len cap e hn => ?_⟩
    obtain ⟨g, rfl, hle⟩ := hg hn
    cases e
    exact hle
  · rintro e w' ⟨rfl, v', w1, ⟨hf, hg⟩, hb, rfl⟩
    refine ⟨rfl, v', ⟨(hB.keep (hb.block bb hB.lt)).set1 _, ?_, ?_⟩, (Only.of_below (S := fun k => k = bb) hb).setCell (p := ⟨bb, 1, none⟩) (fun _ => rfl) _⟩
    · refine hT.keep fun m hm => ?_
      rw [Below.heap_setCell _ _ _ _ (by intro e; exact hT.ne hB.c0 (by rw [hm, e]))]
      exact hb.block m (hT.lt hm)
    · obtain ⟨a, cap, rfl, hc, hl⟩ := hf
      refine ⟨a, cap, rfl, hc, fun hn => ?_⟩
      obtain ⟨b, off, rfl, hcell⟩ := hl hn
      refine ⟨b, off, rfl, fun j x hx => ?_⟩
      have := hg b off _ _ rfl hn
      have := hB.lt
      rw [World.cell?_setCell_other _ _ _ _ (by intro e; have := congrArg Addr.block e; simp only at this; omega)]
      exact hcell j x hx
end Go.Proofs.YtfppidnfomelpaaGreatDoor.B

namespace Go.Proofs.YtfppidnfomelpaaGreatDoor.B
open Go.RowKit Go.Maps

/-- A key has 1 to 60 bytes. -/
def okKey (key : ByteArray) : Bool := decide (1 ≤ key.size) && decide (key.size ≤ 60)
/-- What a Put comes to: its error's number, the things, the faults that are left. -/
def putR (D : DataW Unit) (fs : List Int) (key s : ByteArray) : Int × DataW Unit × List Int :=
  if okKey key = false then (1, D, fs) else if Maps.has D (lit key) = true then (9, D, fs) else if fs.headD 0 = 1 then (14, D, fs.tail) else if fs.headD 0 = 2 then (14, D.put (lit key) (txt s), fs.tail) else (0, D.put (lit key) (txt s), fs.tail)

/-- An error that is a number; 0: none. -/
def errV (x : Int) : Value := if x = 0 then .nilIface else .iface 73 (.int .i64 x)

/-- What a Get comes to. -/
def GetPost (D : DataW Unit) (key : ByteArray) (w : World) (e : Ending) (w' : World) : Prop := ∃ t : ByteArray, e = .returned (.tuple #[.string t, errV (if Maps.has D (lit key) = true then 0 else 7)]) ∧ (Maps.has D (lit key) = true → D.atKey (lit key) (txt ByteArray.empty) = txt t) ∧ (Maps.has D (lit key) = false → t = ByteArray.empty) ∧ Below w.heap.size w w'
set_option maxRecDepth 100000 in
theorem get_any (bb n : Nat) (D : DataW Unit) (mv : Value) (key : ByteArray) (w : World) (h0 : w.cell? ⟨bb, 0, none⟩ = some mv) (hT : Th w mv n D) (hk : key.size ≤ maxLen) :
    Calls Tryz.prog 16 #[.pointer (some ⟨bb, 0, none⟩), .string key] w (GetPost D key w) := by
  have hall := all_any bb mv w h0
  have HT : Hid (Th w mv n D) := hT
  clear hT
  go_enter Tryz.func16, Tryz.ntmps16
  go_wp2_with (first
    | (go_at_call 35; refine hall.mono ?_; rintro e w1 ⟨rfl, rfl⟩)
    | (at_lookup; refine wpList_look _ rfl _ _ rfl n D mv key rfl rfl HT.out hk ?_; intro t hat))
  · rename_i hh
    have hf := nt hh
    go_ret2
    exact ⟨ByteArray.empty, by rw [hf]; rfl, fun h => (by rw [hf] at h; cases h), fun _ => rfl, (Below.refl _ _).alloc (Nat.le_refl _) _⟩
  · rename_i hh
    have hf := nf hh
    go_ret2
    exact ⟨t, by rw [hf]; rfl, fun _ => hat, fun h => (by rw [hf] at h; cases h), (Below.refl _ _).alloc (Nat.le_refl _) _⟩

/-- A bucket keeps what it is where none of its blocks turns. -/
theorem Bu.only {S : Nat → Prop} {w w' : World} {bb n : Nat} {D : DataW Unit} {fs : List Int} {mv fv : Value} (h : Bu w bb n D fs mv fv) (ho : Only S w w') (hS : ¬ S bb) (hm : ∀ m, mv = .map (some m) → ¬ S m) (hf : ∀ p x, w.cell? p = some (.int .i64 x) → ¬ S p.block) : Bu w' bb n D fs mv fv := by
  obtain ⟨hB, hT, hF⟩ := h
  exact ⟨hB.keep (ho.block bb hB.lt hS), hT.keep fun m e => ho.block m (hT.lt e) (hm m e), hF.keep fun p v ⟨x, hx⟩ hc => ho.cell hc (hf p x (hx ▸ hc))⟩
theorem Bu.below {w w' : World} {bb n : Nat} {D : DataW Unit} {fs : List Int} {mv fv : Value} (h : Bu w bb n D fs mv fv) (hb : Below w.heap.size w w') : Bu w' bb n D fs mv fv :=
  h.only (S := fun _ => False) (Only.of_below hb) (fun h => h) (fun _ _ h => h) (fun _ _ _ h => h)
theorem Bu.mono {w : World} {bb n n' : Nat} {D : DataW Unit} {fs : List Int} {mv fv : Value} (h : Bu w bb n D fs mv fv) (hn : n ≤ n') : Bu w bb n' D fs mv fv := ⟨h.1, h.2.1.mono hn, h.2.2⟩

/-- What a Put comes to, and what it turns. -/
def PutPost (bb n : Nat) (r : Int × DataW Unit × List Int) (mv fv : Value) (w : World) (e : Ending) (w' : World) : Prop := e = .returned (errV r.1) ∧ ∃ mv' fv', Bu w' bb (n + 1) r.2.1 r.2.2 mv' fv' ∧ Only (Own bb mv) w w' ∧ (∀ k, mv' = .map (some k) → mv = .map (some k) ∨ w.heap.size ≤ k) ∧ SameB fv fv'
set_option maxRecDepth 100000 in
theorem put_any (bb n : Nat) (D : DataW Unit) (fs : List Int) (mv fv : Value) (key s : ByteArray) (w : World) (h : Bu w bb n D fs mv fv) (hn : n < maxLen) (hk : key.size ≤ maxLen) (hs : s.size ≤ maxLen) :
    Calls Tryz.prog 33 #[.pointer (some ⟨bb, 0, none⟩), .string key, .string s] w (PutPost bb n (putR D fs key s) mv fv w) := by
  have H : Hid (Bu w bb n D fs mv fv) := h
  have c0 := h.1.c0
  have hall := all_any bb mv w c0
  have HN : Hid (∀ o, Calls Tryz.prog 61 #[.pointer (some ⟨bb, 0, none⟩)] (w.alloc o) fun e w' => e = .returned (.int .i64 (fs.headD 0)) ∧ ∃ fv', Bu w' bb n D fs.tail mv fv' ∧ Only (fun k => k = bb) (w.alloc o) w' ∧ SameB fv fv') := fun o => next_any bb n D fs mv fv _ (h.1.alloc _) (h.2.1.alloc _) (h.2.2.alloc _)
  have HL : Hid (∀ w1 fv', Bu w1 bb n D fs.tail mv fv' → Calls Tryz.prog 62 #[.pointer (some ⟨bb, 0, none⟩), .string key, .string s] w1 fun e w' => e = .returned (.tuple #[]) ∧ ∃ mv', Bu w' bb (n + 1) (D.put (lit key) (txt s)) fs.tail mv' fv' ∧ Only (Own bb mv) w1 w' ∧ ∀ k, mv' = .map (some k) → mv = .map (some k) ∨ w1.heap.size ≤ k) := fun w1 fv' hb => lay_any bb n D fs.tail mv fv' key s w1 hb hn hk hs
  have HR : Hid (putR D fs key s = if okKey key = false then (1, D, fs) else if Maps.has D (lit key) = true then (9, D, fs) else if fs.headD 0 = 1 then (14, D, fs.tail) else if fs.headD 0 = 2 then (14, D.put (lit key) (txt s), fs.tail) else (0, D.put (lit key) (txt s), fs.tail)) := rfl
  have HK : Hid (okKey key = (decide (1 ≤ key.size) && decide (key.size ≤ 60))) := rfl
  clear h c0 hn
  generalize putR D fs key s = r at HR ⊢
  generalize fs.headD 0 = f at HN HR
  generalize fs.tail = tl at HN HR HL
  rcases Nat.lt_or_ge 0 key.size with h1 | h1
  · rcases Nat.lt_or_ge 60 key.size with h2 | h2
    · go_enter Tryz.func33, Tryz.ntmps33
      go_wp2
      go_ret
      have hr : r = (1, D, fs) := by rw [HR.out, if_pos (by rw [HK.out]; simp only [Bool.and_eq_false_iff, decide_eq_false_iff_not]; omega)]
      rw [hr]
      exact ⟨rfl, mv, fv, H.out.mono (by omega), Only.refl _ _, fun k hk => .inl hk, SameB.refl _⟩
    · have h1' : 1 ≤ key.size := h1
      have HKo : Hid (okKey key = true) := mkH (by rw [HK.out]; simp only [Bool.and_eq_true, decide_eq_true_eq]; omega)
      go_enter Tryz.func33, Tryz.ntmps33
      go_wp2_with (first
        | (go_at_call 35; refine hall.mono ?_; rintro e w1 ⟨rfl, rfl⟩)
        | (at_lookup; refine wpList_look _ rfl _ _ rfl n D mv key rfl rfl H.out.2.1 hk ?_; intro t hat)
        | (go_at_call 61; refine (HN.out _).mono ?_; rintro e w2 ⟨rfl, fv2, hu2, ho2, sb2⟩)
        | (go_at_call 62; refine (HL.out _ _ hu2).mono ?_; rintro e w3 ⟨rfl, mv3, hu3, ho3, hm3⟩))
      all_goals clear HN HL hall
      · rename_i hh
        go_ret
        have hr : r = (9, D, fs) := by rw [HR.out, if_neg (by rw [HKo.out]; simp), if_pos hh]
        rw [hr]
        exact ⟨rfl, mv, fv, (H.out.below ((Below.refl _ _).alloc (Nat.le_refl _) _)).mono (by omega), (Only.refl _ _).alloc _, fun k hk => .inl hk, SameB.refl _⟩
      · have hh : Maps.has D (lit key) = false := by assumption
        have h1 : (f == 1) = true := by assumption
        go_ret
        have hr : r = (14, D, tl) := by rw [HR.out, if_neg (by rw [HKo.out]; simp), if_neg (by rw [hh]; simp), if_pos (by simpa using h1)]
        rw [hr]
        exact ⟨rfl, mv, fv2, hu2.mono (by omega), ((Only.refl _ _).alloc _).trans ho2 (fun i _ e => .inl e), fun k hk => .inl hk, sb2⟩
      · have hh : Maps.has D (lit key) = false := by assumption
        have h1 : (f == 1) = false := by assumption
        have h2 : (f == 2) = true := by assumption
        go_ret
        have hr : r = (14, D.put (lit key) (txt s), tl) := by rw [HR.out, if_neg (by rw [HKo.out]; simp), if_neg (by rw [hh]; simp), if_neg (by simpa using h1), if_pos (by simpa using h2)]
        rw [hr]
        exact ⟨rfl, mv3, fv2, hu3, (((Only.refl _ _).alloc _).trans ho2 (fun i _ e => .inl e)).trans ho3 (fun i _ e => e), fun k hk => (hm3 k hk).imp id (fun h => Nat.le_trans (Nat.le_trans (by simp) ho2.size) h), sb2⟩
      · have hh : Maps.has D (lit key) = false := by assumption
        have h1 : (f == 1) = false := by assumption
        have h2 : (f == 2) = false := by assumption
        go_ret
        have hr : r = (0, D.put (lit key) (txt s), tl) := by rw [HR.out, if_neg (by rw [HKo.out]; simp), if_neg (by rw [hh]; simp), if_neg (by simpa using h1), if_neg (by simpa using h2)]
        rw [hr]
        exact ⟨rfl, mv3, fv2, hu3, (((Only.refl _ _).alloc _).trans ho2 (fun i _ e => .inl e)).trans ho3 (fun i _ e => e), fun k hk => (hm3 k hk).imp id (fun h => Nat.le_trans (Nat.le_trans (by simp) ho2.size) h), sb2⟩
  · go_enter Tryz.func33, Tryz.ntmps33
    go_wp2
    go_ret
    have hr : r = (1, D, fs) := by rw [HR.out, if_pos (by rw [HK.out]; simp only [Bool.and_eq_false_iff, decide_eq_false_iff_not]; omega)]
    rw [hr]
    exact ⟨rfl, mv, fv, H.out.mono (by omega), Only.refl _ _, fun k hk => .inl hk, SameB.refl _⟩

end Go.Proofs.YtfppidnfomelpaaGreatDoor.B

namespace Go.Proofs.YtfppidnfomelpaaGreatDoor.B
open Go.RowKit Go.Extern.Stop Go.Stop Go.Extern

/-- The package errors' own variable errorType, as its text lays it: the handle of the type error. -/
def EtB (w : World) : Prop := w.cell? ⟨0, 0, none⟩ = some (.iface 184 (.agg #[.pointer (some ⟨10, 28, none⟩)]))
theorem EtB.lt {w : World} (h : EtB w) : 0 < w.heap.size := by
  rcases Nat.lt_or_ge 0 w.heap.size with h' | h'
  · exact h'
  · unfold EtB at h; simp [World.cell?, Array.getElem?_eq_none h'] at h
theorem EtB.below {w W : World} (h : EtB w) (hb : Below w.heap.size w W) : EtB W := (hb.cell (p := ⟨0, 0, none⟩) h.lt).trans h

theorem valueOf102 (t : Addr) (w : World) : (ReflectliteValue.unpack (.iface 125 (.pointer (some t)))).run Tryz.prog w
    = .ok (.agg #[.pointer (some ⟨10, 125, none⟩), .pointer (some ⟨w.heap.size, 0, none⟩), .int .u64 150]) (w.alloc (.cells #[.pointer (some t)] 125)) := by kernel_rfl
theorem type102 (a : Addr) (w : World) : (ReflectliteValue.methodAny (ReflectliteValue.valueError "reflectlite.Value.Type" 0) (fun t _ _ _ => ReflectliteType.toType t) #[.agg #[.pointer (some ⟨10, 125, none⟩), .pointer (some a), .int .u64 150]]).run Tryz.prog w
    = .ok (.iface 184 (.agg #[.pointer (some ⟨10, 125, none⟩)])) w := by kernel_rfl
theorem methodKind (h : Value) (w : World) : (Go.method 394 184 (.agg #[h]) "Kind").run Tryz.prog w = .ok (206, h) w := by kernel_rfl
theorem kind102 (w : World) : ((ReflectliteType.abiMethod fun t => (fun a : Nat => Value.int IntKind.u8 (a : Int)) <$> Rtype.kind t) #[.pointer (some ⟨10, 125, none⟩)]).run Tryz.prog w = .ok (.int .u8 22) w := by kernel_rfl
theorem kind87 (w : World) : ((ReflectliteType.abiMethod fun t => (fun a : Nat => Value.int IntKind.u8 (a : Int)) <$> Rtype.kind t) #[.pointer (some ⟨10, 73, none⟩)]).run Tryz.prog w = .ok (.int .u8 2) w := by kernel_rfl
theorem parts102 (a : Addr) (w : World) : (ReflectliteValue.parts (.agg #[.pointer (some ⟨10, 125, none⟩), .pointer (some a), .int .u64 150])).run Tryz.prog w = .ok (some (125, a, 150)) w := by kernel_rfl
theorem isNil102 (a p : Addr) (W : World) (ha : W.cell? a = some (.pointer (some p))) :
    (ReflectliteValue.method (ReflectliteValue.valueError "reflectlite.Value.IsNil" 0) ReflectliteValue.isNil #[.agg #[.pointer (some ⟨10, 125, none⟩), .pointer (some a), .int .u64 150]]).run Tryz.prog W = .ok (.bool false) W := by
  rw [Lib.rl_method]
  simp only [Sem.run_bind, parts102, Result.andThen]
  simp [ReflectliteValue.isNil, loadVar, isAgg, underlying, Tryz.underlying125, ha, Result.andThen]
theorem methodElem (h : Value) (w : World) : (Go.method 394 184 (.agg #[h]) "Elem").run Tryz.prog w = .ok (219, .agg #[h]) w := by kernel_rfl
theorem methodImplements (h : Value) (w : World) : (Go.method 394 184 (.agg #[h]) "Implements").run Tryz.prog w = .ok (220, .agg #[h]) w := by kernel_rfl
theorem methodAssignableTo (h : Value) (w : World) : (Go.method 394 184 (.agg #[h]) "AssignableTo").run Tryz.prog w = .ok (217, .agg #[h]) w := by kernel_rfl
theorem elem102 (w : World) : (ReflectliteType.method ReflectliteType.elem #[.agg #[.pointer (some ⟨10, 125, none⟩)]]).run Tryz.prog w = .ok (.iface 184 (.agg #[.pointer (some ⟨10, 73, none⟩)])) w := by kernel_rfl
theorem implements87 (w : World) : (ReflectliteType.relation "Implements" ReflectliteType.implements_ #[.agg #[.pointer (some ⟨10, 73, none⟩)], .iface 184 (.agg #[.pointer (some ⟨10, 28, none⟩)])]).run Tryz.prog w = .ok (.bool true) w := by kernel_rfl
theorem typeOf87 (v : Value) (w : World) : (ReflectliteType.typeOf #[.iface 73 v]).run Tryz.prog w = .ok (.iface 184 (.agg #[.pointer (some ⟨10, 73, none⟩)])) w := by kernel_rfl
theorem assignable87 (w : World) : (ReflectliteType.relation "AssignableTo" ReflectliteType.assignableTo #[.agg #[.pointer (some ⟨10, 73, none⟩)], .iface 184 (.agg #[.pointer (some ⟨10, 73, none⟩)])]).run Tryz.prog w = .ok (.bool true) w := by kernel_rfl
theorem valueOf87 (x : Int) (w : World) : (ReflectliteValue.unpack (.iface 73 (.int .i64 x))).run Tryz.prog w
    = .ok (.agg #[.pointer (some ⟨10, 73, none⟩), .pointer (some ⟨w.heap.size, 0, none⟩), .int .u64 130]) (w.alloc (.cells #[.int .i64 x] 73)) := by kernel_rfl
theorem elemOf102 (w : World) : (Rtype.elem? 125).run Tryz.prog w = .ok (some 73) w := by kernel_rfl
theorem mk87 (p : Addr) (w : World) : (ReflectliteValue.mk 73 p ReflectliteValue.flagAddr).run Tryz.prog w = .ok (.agg #[.pointer (some ⟨10, 73, none⟩), .pointer (some p), .int .u64 386]) w := by kernel_rfl
theorem elemV102 (a p : Addr) (W : World) (ha : W.cell? a = some (.pointer (some p))) :
    (ReflectliteValue.method (ReflectliteValue.valueError "reflectlite.Value.Elem" 0) ReflectliteValue.elem #[.agg #[.pointer (some ⟨10, 125, none⟩), .pointer (some a), .int .u64 150]]).run Tryz.prog W
      = .ok (.agg #[.pointer (some ⟨10, 73, none⟩), .pointer (some p), .int .u64 386]) W := by
  rw [Lib.rl_method]
  simp only [Sem.run_bind, parts102, Result.andThen]
  simp [ReflectliteValue.elem, loadVar, isAgg, underlying, Tryz.underlying125, ha, Result.andThen, elemOf102, mk87]
theorem set_match {m : Array Value → Type} (a b : Value) (h1 : (v x : Value) → m #[v, x]) (h2 : (x : Array Value) → m x) : ReflectliteValue.set.match_3 m #[a, b] h1 h2 = h1 a b := rfl
theorem parts87a (a : Addr) (w : World) : (ReflectliteValue.parts (.agg #[.pointer (some ⟨10, 73, none⟩), .pointer (some a), .int .u64 386])).run Tryz.prog w = .ok (some (73, a, 386)) w := by kernel_rfl
theorem parts87 (a : Addr) (w : World) : (ReflectliteValue.parts (.agg #[.pointer (some ⟨10, 73, none⟩), .pointer (some a), .int .u64 130])).run Tryz.prog w = .ok (some (73, a, 130)) w := by kernel_rfl
theorem direct87 (w : World) : (Rtype.directlyAssignable 73 73).run Tryz.prog w = .ok true w := by kernel_rfl
theorem set87 (ta b : Addr) (x : Int) (old : Value) (W : World) (hb : W.cell? b = some (.int .i64 x)) (ht : W.cell? ta = some old) (hf : W.frozen? ta = false) :
    (ReflectliteValue.set #[.agg #[.pointer (some ⟨10, 73, none⟩), .pointer (some ta), .int .u64 386], .agg #[.pointer (some ⟨10, 73, none⟩), .pointer (some b), .int .u64 130]]).run Tryz.prog W
      = .ok (.tuple #[]) (W.setCell ta (.int .i64 x)) := by
  delta ReflectliteValue.set
  rw [set_match]
  simp only [Sem.run_bind, parts87a, parts87, Result.andThen]
  simp [ReflectliteValue.flagAddr, loadVar, isAgg, underlying, Tryz.underlying73, hb, Result.andThen, direct87, storeVar, Value.cells, storeCells, Addr.add]
  rw [run_store Tryz.prog W ta _ _ (by rfl)]
  simp [ht, hf]

set_option maxHeartbeats 4000000 in
set_option maxRecDepth 100000 in
theorem as_hit (x : Int) (t : Addr) (old : Value) (w : World) (hg : EtB w) (ht0 : w.cell? t = some old) (hf0 : w.frozen? t = false) :
    Calls Tryz.prog 59 #[.iface 73 (.int .i64 x), .iface 125 (.pointer (some t))] w fun ev w' => ev = .returned (.bool true) ∧ w' = ((((w.alloc (.cells #[.pointer (some t)] 125)).alloc (.cells #[.pointer (some ⟨10, 125, none⟩), .pointer (some ⟨w.heap.size, 0, none⟩), .int .u64 150] 151)).alloc (.cells #[.pointer (some ⟨10, 125, none⟩), .pointer (some ⟨w.heap.size, 0, none⟩), .int .u64 150] 151)).alloc (.cells #[.int .i64 x] 73)).setCell t (.int .i64 x) := by
  have h6 := @run_callFunc_extern Tryz.prog 91 _ (fun args => ReflectliteValue.unpack (args.getD 0 (.tuple #[]))) Tryz.func91 (by kernel_rfl) (by kernel_rfl) (by kernel_rfl) (by kernel_rfl)
  have h7 := @run_callFunc_extern Tryz.prog 92 _ (ReflectliteValue.methodAny (ReflectliteValue.valueError "reflectlite.Value.Type" 0) (fun t _ _ _ => ReflectliteType.toType t)) Tryz.func92 (by kernel_rfl) (by kernel_rfl) (by kernel_rfl) (by kernel_rfl)
  have h8 := @run_callFunc_extern Tryz.prog 93 _ (ReflectliteValue.method (ReflectliteValue.valueError "reflectlite.Value.IsNil" 0) ReflectliteValue.isNil) Tryz.func93 (by kernel_rfl) (by kernel_rfl) (by kernel_rfl) (by kernel_rfl)
  have h27 := @run_callFunc_extern Tryz.prog 206 _ (ReflectliteType.abiMethod fun t => do pure (.int .u8 (← Rtype.kind t))) Tryz.func206 (by kernel_rfl) (by kernel_rfl) (by kernel_rfl) (by kernel_rfl)
  have h37 := @run_callFunc_extern Tryz.prog 219 _ (ReflectliteType.method ReflectliteType.elem) Tryz.func219 (by kernel_rfl) (by kernel_rfl) (by kernel_rfl) (by kernel_rfl)
  have h38 := @run_callFunc_extern Tryz.prog 220 _ (ReflectliteType.relation "Implements" ReflectliteType.implements_) Tryz.func220 (by kernel_rfl) (by kernel_rfl) (by kernel_rfl) (by kernel_rfl)
  have h10 := @run_callFunc_extern Tryz.prog 120 _ ReflectliteType.typeOf Tryz.func120 (by kernel_rfl) (by kernel_rfl) (by kernel_rfl) (by kernel_rfl)
  have h35 := @run_callFunc_extern Tryz.prog 217 _ (ReflectliteType.relation "AssignableTo" ReflectliteType.assignableTo) Tryz.func217 (by kernel_rfl) (by kernel_rfl) (by kernel_rfl) (by kernel_rfl)
  have h11 := @run_callFunc_extern Tryz.prog 121 _ (ReflectliteValue.method (ReflectliteValue.valueError "reflectlite.Value.Elem" 0) ReflectliteValue.elem) Tryz.func121 (by kernel_rfl) (by kernel_rfl) (by kernel_rfl) (by kernel_rfl)
  have h12 := @run_callFunc_extern Tryz.prog 122 _ ReflectliteValue.set Tryz.func122 (by kernel_rfl) (by kernel_rfl) (by kernel_rfl) (by kernel_rfl)
  have tO := typeOf87
  have mA := methodAssignableTo
  have a25 := assignable87
  have v25 := valueOf87
  have f6 := valueOf102
  have f7 := type102
  have mK := methodKind
  have mE := methodElem
  have mI := methodImplements
  have k27 := kind102
  have k25 := kind87
  have e27 := elem102
  have i25 := implements87
  have n8 := isNil102 ⟨w.heap.size, 0, none⟩ t ((w.alloc (.cells #[.pointer (some t)] 125)).alloc (.cells #[.pointer (some ⟨10, 125, none⟩), .pointer (some ⟨w.heap.size, 0, none⟩), .int .u64 150] 151)) (by simp)
  have hlt : 0 < w.heap.size := hg.lt
  have hg : w.cell? ⟨0, 0, none⟩ = some (.iface 184 (.agg #[.pointer (some ⟨10, 28, none⟩)])) := hg
  have hg2 : ((w.alloc (.cells #[.pointer (some t)] 125)).alloc (.cells #[.pointer (some ⟨10, 125, none⟩), .pointer (some ⟨w.heap.size, 0, none⟩), .int .u64 150] 151)).cell? ⟨0, 0, none⟩ = some (.iface 184 (.agg #[.pointer (some ⟨10, 28, none⟩)])) := by
    rw [World.cell?_alloc_lt _ _ ⟨0, 0, none⟩ (by simp), World.cell?_alloc_lt _ _ ⟨0, 0, none⟩ hlt]; exact hg
  have htl : t.block < w.heap.size := by
    rcases Nat.lt_or_ge t.block w.heap.size with h | h
    · exact h
    · simp [World.cell?, Array.getElem?_eq_none h] at ht0
  have el := elemV102 ⟨w.heap.size, 0, none⟩ t (((w.alloc (.cells #[.pointer (some t)] 125)).alloc (.cells #[.pointer (some ⟨10, 125, none⟩), .pointer (some ⟨w.heap.size, 0, none⟩), .int .u64 150] 151)).alloc (.cells #[.pointer (some ⟨10, 125, none⟩), .pointer (some ⟨w.heap.size, 0, none⟩), .int .u64 150] 151)) (by rw [World.cell?_alloc_lt _ _ ⟨w.heap.size, 0, none⟩ (by simp; omega)]; simp)
  have st := set87 t ⟨w.heap.size + 1 + 1 + 1, 0, none⟩ x old ((((w.alloc (.cells #[.pointer (some t)] 125)).alloc (.cells #[.pointer (some ⟨10, 125, none⟩), .pointer (some ⟨w.heap.size, 0, none⟩), .int .u64 150] 151)).alloc (.cells #[.pointer (some ⟨10, 125, none⟩), .pointer (some ⟨w.heap.size, 0, none⟩), .int .u64 150] 151)).alloc (.cells #[.int .i64 x] 73))
    (by rw [World.cell?_alloc_at _ _ _ _ (by simp)]; rfl)
    (by rw [World.cell?_alloc_lt _ _ t (by simp; omega), World.cell?_alloc_lt _ _ t (by simp; omega), World.cell?_alloc_lt _ _ t (by simp; omega), World.cell?_alloc_lt _ _ t htl]; exact ht0)
    (by rw [World.frozen?_alloc_old _ _ t (by simp; omega), World.frozen?_alloc_old _ _ t (by simp; omega), World.frozen?_alloc_old _ _ t (by simp; omega), World.frozen?_alloc_old _ _ t (Nat.ne_of_lt htl)]; exact hf0)
  go_enter Tryz.func59, Tryz.ntmps59
  go_wp2
  refine wp_loop_rounds 1 ?_
  rw [rounds_succ]
  go_wp2
  go_ret
  exact ⟨rfl, rfl⟩

set_option maxHeartbeats 1000000 in
set_option maxRecDepth 100000 in
/-- api.Tell at an error that is an Errno. -/
theorem tell_any (x : Int) (w : World) (hg : EtB w) : Calls Tryz.prog 29 #[.iface 73 (.int .i64 x)] w fun e w' => e = .returned (.int .i64 x) ∧ Below w.heap.size w w' := by
  have HC : Hid (∀ W t, EtB W → W.cell? t = some (.int .i64 0) → W.frozen? t = false → w.heap.size ≤ t.block → Below w.heap.size w W → Calls Tryz.prog 59 #[.iface 73 (.int .i64 x), .iface 125 (.pointer (some t))] W fun e w' => e = .returned (.bool true) ∧ w'.cell? t = some (.int .i64 x) ∧ Below w.heap.size w w') := by
    intro W t h1 h2 h3 h4 h6
    have htl : t.block < W.heap.size := by
      rcases Nat.lt_or_ge t.block W.heap.size with h | h
      · exact h
      · simp [World.cell?, Array.getElem?_eq_none h] at h2
    refine (as_hit x t _ W h1 h2 h3).mono ?_
    rintro e w' ⟨rfl, rfl⟩
    refine ⟨rfl, ?_, ?_⟩
    · refine World.cell?_setCell_same _ _ _ (u := .int .i64 0) ?_
      rw [World.cell?_alloc_lt _ _ t (by simp; omega), World.cell?_alloc_lt _ _ t (by simp; omega), World.cell?_alloc_lt _ _ t (by simp; omega), World.cell?_alloc_lt _ _ t htl]
      exact h2
    · exact ((((h6.alloc (by have := h6.size; omega) _).alloc (by have := h6.size; simp; omega) _).alloc (by have := h6.size; simp; omega) _).alloc (by have := h6.size; simp; omega) _).setCell h4 _
  have HG : Hid (∀ o, EtB (w.alloc o)) := fun o => hg.below ((Below.refl _ _).alloc (Nat.le_refl _) _)
  clear hg
  go_enter Tryz.func29, Tryz.ntmps29
  go_wp2_with (first
    | (go_at_call 59; refine (HC.out _ ⟨w.heap.size, 0, none⟩ (HG.out _) (by simp) (by simp) (Nat.le_refl _) ((Below.refl _ _).alloc (Nat.le_refl _) _)).mono ?_; rintro e w1 ⟨rfl, hc1, hb1⟩))
  go_ret
  exact ⟨rfl, hb1⟩
end Go.Proofs.YtfppidnfomelpaaGreatDoor.B

namespace Go.Proofs.YtfppidnfomelpaaGreatDoor.B
open Go.RowKit Go.Maps Go.Sort Go.Shelf Go.Lib

theorem tell_nil (w : World) : Calls Tryz.prog 29 #[.nilIface] w fun e w' => e = .returned (.int .i64 0) ∧ w' = w := by
  go_enter Tryz.func29, Tryz.ntmps29
  go_wp2
  go_ret
  exact ⟨rfl, rfl⟩
theorem tell_err (x : Int) (w : World) (hg : EtB w) : Calls Tryz.prog 29 #[errV x] w fun e w' => e = .returned (.int .i64 x) ∧ Below w.heap.size w w' := by
  unfold errV
  split
  · rename_i h
    subst h
    refine (tell_nil w).mono ?_
    rintro e w' ⟨rfl, rfl⟩
    exact ⟨rfl, Below.refl _ _⟩
  · exact tell_any x w hg
theorem eql_err (x : Int) (w : World) : (binOp .eql 28 (errV x) .nilIface).run Tryz.prog w = .ok (.bool (decide (x = 0))) w := by
  unfold errV
  split
  · rename_i h
    subst h
    kernel_rfl
  · rename_i h
    rw [decide_eq_false h]
    kernel_rfl
theorem neq_err (x : Int) (w : World) : (binOp .neq 28 (errV x) .nilIface).run Tryz.prog w = .ok (.bool (decide (x ≠ 0))) w := by
  unfold errV
  split
  · rename_i h
    subst h
    kernel_rfl
  · rename_i h
    rw [decide_eq_true h]
    kernel_rfl
theorem guard_eql (x : Int) (k : Nat) (w : World) : (eqGuard .eql 28 (.tmp k) (.const .nilIface) (errV x) .nilIface).run Tryz.prog w = .ok () w := by
  unfold errV
  split
  · kernel_rfl
  · kernel_rfl
theorem guard_neq (x : Int) (k : Nat) (w : World) : (eqGuard .neq 28 (.tmp k) (.const .nilIface) (errV x) .nilIface).run Tryz.prog w = .ok () w := by
  unfold errV
  split
  · kernel_rfl
  · kernel_rfl
theorem bu_new (w : World) : Bu (w.alloc (.cells #[.map none, .slice none 0 0] 42)) w.heap.size 0 (.map []) [] (.map none) (.slice none 0 0) :=
  ⟨heap_alloc_new w _, .inl ⟨rfl, rfl⟩, _, _, rfl, Nat.le_refl _, fun h => absurd rfl h⟩

/-- Where a law stands: a bucket of its own, from base on; nothing below base has turned. -/
def Z (w0 : World) (bb n : Nat) (D : DataW Unit) (fs : List Int) (w : World) : Prop := ∃ mv fv, Bu w bb n D fs mv fv ∧ Below w0.heap.size w0 w ∧ w0.heap.size ≤ bb ∧ ∀ k, mv = .map (some k) → w0.heap.size ≤ k
theorem Z.put {w0 w : World} {bb n : Nat} {D : DataW Unit} {fs : List Int} (h : Z w0 bb n D fs w) (key s : ByteArray) (hn : n < maxLen) (hk : key.size ≤ maxLen) (hs : s.size ≤ maxLen) :
    Calls Tryz.prog 33 #[.pointer (some ⟨bb, 0, none⟩), .string key, .string s] w fun e w' => e = .returned (errV (putR D fs key s).1) ∧ Z w0 bb (n + 1) (putR D fs key s).2.1 (putR D fs key s).2.2 w' := by
  obtain ⟨mv, fv, hb, hB, hbb, hm⟩ := h
  refine (put_any bb n D fs mv fv key s w hb hn hk hs).mono ?_
  rintro e w' ⟨rfl, mv', fv', hb', ho, hm', _⟩
  refine ⟨rfl, mv', fv', hb', ho.below hB hB.size ?_, hbb, fun k hk => ?_⟩
  · rintro i (rfl | h)
    · exact hbb
    · exact hm i h
  · rcases hm' k hk with h | h
    · exact hm k h
    · exact Nat.le_trans hB.size h
theorem Z.below {w0 w w' : World} {bb n : Nat} {D : DataW Unit} {fs : List Int} (h : Z w0 bb n D fs w) (hb : Below w.heap.size w w') : Z w0 bb n D fs w' := by
  obtain ⟨mv, fv, hu, hB, hbb, hm⟩ := h
  exact ⟨mv, fv, hu.below hb, hB.trans (hb.mono hB.size), hbb, hm⟩
theorem Z.low {w0 w : World} {bb n : Nat} {D : DataW Unit} {fs : List Int} (h : Z w0 bb n D fs w) : Below w0.heap.size w0 w := by
  obtain ⟨mv, fv, hu, hB, hbb, hm⟩ := h
  exact hB
theorem Z.get {w0 w : World} {bb n : Nat} {D : DataW Unit} {fs : List Int} (h : Z w0 bb n D fs w) (key : ByteArray) (hk : key.size ≤ maxLen) :
    Calls Tryz.prog 16 #[.pointer (some ⟨bb, 0, none⟩), .string key] w fun e w' => GetPost D key w e w' ∧ Z w0 bb n D fs w' := by
  have h' := h
  obtain ⟨mv, fv, hu, hB, hbb, hm⟩ := h'
  refine (get_any bb n D mv key w hu.1.c0 hu.2.1 hk).mono fun e w' hp => ⟨hp, ?_⟩
  obtain ⟨t, _, _, _, hb⟩ := hp
  exact h.below hb
theorem Z.tell {w0 w : World} {bb n : Nat} {D : DataW Unit} {fs : List Int} (h : Z w0 bb n D fs w) (hg : EtB w0) (x : Int) :
    Calls Tryz.prog 29 #[errV x] w fun e w' => e = .returned (.int .i64 x) ∧ Z w0 bb n D fs w' :=
  (tell_err x w (hg.below h.low)).mono fun _ _ ⟨he, hb⟩ => ⟨he, h.below hb⟩

theorem Z.get1 {w0 w : World} {bb n : Nat} {D : DataW Unit} {fs : List Int} (h : Z w0 bb n D fs w) (key s : ByteArray) (hk : key.size ≤ maxLen) (hh : Maps.has D (lit key) = true) (ha : D.atKey (lit key) (txt ByteArray.empty) = txt s) :
    Calls Tryz.prog 16 #[.pointer (some ⟨bb, 0, none⟩), .string key] w fun e w' => e = .returned (.tuple #[.string s, errV 0]) ∧ Z w0 bb n D fs w' := by
  refine (h.get key hk).mono ?_
  rintro e w' ⟨⟨t, rfl, ht, _, _⟩, hz⟩
  rw [hh]
  have : t = s := txt_inj ((ht hh).symm.trans ha)
  subst this
  exact ⟨rfl, hz⟩
theorem Z.get0 {w0 w : World} {bb n : Nat} {D : DataW Unit} {fs : List Int} (h : Z w0 bb n D fs w) (key : ByteArray) (hk : key.size ≤ maxLen) (hh : Maps.has D (lit key) = false) :
    Calls Tryz.prog 16 #[.pointer (some ⟨bb, 0, none⟩), .string key] w fun e w' => e = .returned (.tuple #[.string ByteArray.empty, errV 7]) ∧ Z w0 bb n D fs w' := by
  refine (h.get key hk).mono ?_
  rintro e w' ⟨⟨t, rfl, _, ht, _⟩, hz⟩
  rw [hh, ht hh]
  exact ⟨rfl, hz⟩
end Go.Proofs.YtfppidnfomelpaaGreatDoor.B
