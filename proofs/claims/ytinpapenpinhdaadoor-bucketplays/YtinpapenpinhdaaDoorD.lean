/- How a bucket lies in memory; which blocks a call may turn. -/
import Derived.Test.YtinpapenpinhdaaDoorK
import Derived.Maps.StringElems
import Derived.Maps.RangeWalk
import Derived.Maps.OwnSet
import Derived.Maps.Ext
namespace Go.Proofs.YtinpapenpinhdaaDoor
open Go.RowKit Go.Maps

/-- w' is w but for the blocks that S names, and new ones. -/
structure Only (S : Nat → Prop) (w w' : World) : Prop where
  os : w'.os = w.os
  tape : w'.tape = w.tape
  output : w'.output = w.output
  size : w.heap.size ≤ w'.heap.size
  block : ∀ k, k < w.heap.size → ¬ S k → w'.heap[k]? = w.heap[k]?

theorem Only.refl (S : Nat → Prop) (w : World) : Only S w w := ⟨rfl, rfl, rfl, Nat.le_refl _, fun _ _ _ => rfl⟩
theorem Only.trans {S T : Nat → Prop} {a b c : World} (h : Only S a b) (k : Only T b c) (hT : ∀ i, i < a.heap.size → T i → S i) : Only S a c :=
  ⟨k.os.trans h.os, k.tape.trans h.tape, k.output.trans h.output, Nat.le_trans h.size k.size, fun i hi hS => (k.block i (Nat.lt_of_lt_of_le hi h.size) (fun ht => hS (hT i hi ht))).trans (h.block i hi hS)⟩
theorem Only.mono {S T : Nat → Prop} {a b : World} (h : Only S a b) (hT : ∀ i, i < a.heap.size → S i → T i) : Only T a b :=
  ⟨h.os, h.tape, h.output, h.size, fun i hi hS => h.block i hi (fun hs => hS (hT i hi hs))⟩
theorem Only.of_below {S : Nat → Prop} {a b : World} (h : Below a.heap.size a b) : Only S a b := ⟨h.os, h.tape, h.output, h.size, fun i hi _ => h.block i hi⟩
theorem Only.below {S : Nat → Prop} {B : Nat} {w0 a b : World} (h0 : Below B w0 a) (h : Only S a b) (hB : B ≤ a.heap.size) (hS : ∀ i, S i → B ≤ i) : Below B w0 b :=
  h0.trans ⟨h.os, h.tape, h.output, h.size, fun i hi => h.block i (by omega) (fun hs => by have := hS i hs; omega)⟩
theorem Only.self {S : Nat → Prop} {a b : World} (h : Only S a b) (hS : ∀ i, i < a.heap.size → ¬ S i) : Below a.heap.size a b := ⟨h.os, h.tape, h.output, h.size, fun i hi => h.block i hi (hS i hi)⟩
theorem Only.cell {S : Nat → Prop} {a b : World} (h : Only S a b) {p : Addr} {v : Value} (hc : a.cell? p = some v) (hp : ¬ S p.block) : b.cell? p = some v :=
  (World.cell?_of_block (h.block p.block (World.block_lt_of_cell? a p hc) hp)).trans hc
theorem Only.frozen {S : Nat → Prop} {a b : World} (h : Only S a b) {p : Addr} (hc : p.block < a.heap.size) (hp : ¬ S p.block) : b.frozen? p = a.frozen? p :=
  World.frozen?_of_block (h.block p.block hc hp)
theorem Only.alloc {S : Nat → Prop} {a b : World} (h : Only S a b) (o : Obj) : Only S a (b.alloc o) :=
  h.trans (T := fun _ => False) ⟨rfl, rfl, rfl, by simp, fun k hk _ => Below.heap_alloc _ _ _ hk⟩ (fun _ _ h => h.elim)
theorem Only.drew {S : Nat → Prop} {a b : World} (h : Only S a b) : Only S a b.drew := ⟨h.os, h.tape, h.output, h.size, h.block⟩
theorem Only.setCell {S : Nat → Prop} {a b : World} (h : Only S a b) {p : Addr} (hp : p.block < a.heap.size → S p.block) (u : Value) : Only S a (b.setCell p u) :=
  h.trans (T := fun k => k = p.block) ⟨rfl, rfl, rfl, by simp [World.setCell], fun k _ hk => Below.heap_setCell _ _ _ _ hk⟩ (fun _ hi e => e ▸ hp (e ▸ hi))
theorem Only.turned {S : Nat → Prop} {a b c : World} {m : Nat} (h : Only S a b) (ht : b.mapTurned c m) (hm : m < a.heap.size → S m) : Only S a c := by
  have hg := ht.grown
  exact h.trans (T := fun k => k = m) ⟨hg.os, hg.tape, hg.output, hg.size, fun k hk hn => hg.block k hk (fun e => hn (Option.some.inj e))⟩ (fun i hi e => e ▸ hm (e ▸ hi))
theorem Only.grown {S : Nat → Prop} {a b c : World} {row : Option Nat} (h : Only S a b) (hg : b.grownBy c row) (hm : ∀ m, row = some m → m < a.heap.size → S m) : Only S a c :=
  h.trans (T := fun k => row = some k) ⟨hg.os, hg.tape, hg.output, hg.size, fun k hk hn => hg.block k hk (fun e => hn e.symm)⟩ (fun i hi e => hm i e hi)
theorem Only.map {S : Nat → Prop} {a b : World} {P : Program} {k : TypeId} {R : Value → Option (DataW Unit × List MemPlace)} {m n : Nat} {D : DataW Unit} (h : Only S a b) (ho : a.ownsMap P k R m n D) (hm : ¬ S m) : b.ownsMap P k R m n D := by
  obtain ⟨es, clock, hb, r⟩ := ho
  exact ⟨es, clock, (h.block m (Nat.lt_of_not_le fun hl => by rw [Array.getElem?_eq_none hl] at hb; cases hb) hm).trans hb, r⟩

/-- How a thing reads: as its text. -/
def thingE (v : Value) : Option (DataW Unit × List MemPlace) :=
  match v with
  | .agg cs => match cs.toList with
    | [.string s] => if s.size ≤ maxLen then some (.lit (.string s.data.toList), []) else none
    | _ => none
  | _ => none
theorem thingE_mk {s : ByteArray} (h : s.size ≤ maxLen) : thingE (.agg #[.string s]) = some (.lit (.string s.data.toList), []) := by simp [thingE, h]
theorem thingE_inv {v : Value} {z : DataW Unit × List MemPlace} (h : thingE v = some z) : ∃ s : ByteArray, v = .agg #[.string s] ∧ z = (.lit (.string s.data.toList), []) ∧ s.size ≤ maxLen := by
  unfold thingE at h
  split at h
  · rename_i cs
    split at h
    · rename_i s hs
      split at h
      · rename_i hl
        cases h
        exact ⟨s, by rw [← Array.toArray_toList (xs := cs), hs], rfl, hl⟩
      · cases h
    · cases h
  · cases h

/-- A key, as it is read. -/
def lit (b : ByteArray) : Lit := .string b.data.toList
/-- A text, as it is read. -/
def txt (b : ByteArray) : DataW Unit := .lit (.string b.data.toList)
theorem txt_inj {a b : ByteArray} (h : txt a = txt b) : a = b := by
  unfold txt at h
  injection h with h
  injection h with h
  cases a; cases b
  simp at h
  simp [h]
theorem lit_inj {a b : ByteArray} (h : lit a = lit b) : a = b := by
  unfold lit at h
  injection h with h
  cases a; cases b
  simp at h
  simp [h]
theorem law9 : Keyed Tryd.prog 9 := string_keyed Tryd.underlying9
theorem keyOf9 {b : ByteArray} (h : b.size ≤ maxLen) : keyOf Tryd.prog 9 (.string b) = some (lit b) := WideMaps.keyOf_string_mk Tryd.underlying9 h

/-- Things read as D. -/
def Th (w : World) (mv : Value) (n : Nat) (D : DataW Unit) : Prop := (mv = .map none ∧ D = .map []) ∨ ∃ m, mv = .map (some m) ∧ w.ownsMap Tryd.prog 9 thingE m n D
/-- Faults are fs. -/
def Fs (w : World) (fv : Value) (fs : List Int) : Prop := ∃ a cap, fv = .slice a fs.length cap ∧ fs.length ≤ cap ∧ (fs ≠ [] → ∃ b off, a = some ⟨b, off, none⟩ ∧ ∀ (j : Nat) x, fs[j]? = some x → w.cell? ⟨b, off + j, none⟩ = some (.int .i64 x))
/-- A bucket's two cells. -/
def Bk (w : World) (bb : Nat) (mv fv : Value) : Prop := w.heap[bb]? = some (.cells #[mv, fv] 26 (0, 0))

theorem Bk.c0 {w : World} {bb : Nat} {mv fv : Value} (h : Bk w bb mv fv) : w.cell? ⟨bb, 0, none⟩ = some mv := by unfold Bk at h; simp [World.cell?, h]
theorem Bk.c1 {w : World} {bb : Nat} {mv fv : Value} (h : Bk w bb mv fv) : w.cell? ⟨bb, 1, none⟩ = some fv := by unfold Bk at h; simp [World.cell?, h]
theorem Bk.f {w : World} {bb : Nat} {mv fv : Value} (h : Bk w bb mv fv) (i : Nat) : w.frozen? ⟨bb, i, none⟩ = false := by unfold Bk at h; simp [World.frozen?, h]
theorem Bk.lt {w : World} {bb : Nat} {mv fv : Value} (h : Bk w bb mv fv) : bb < w.heap.size := World.block_lt_of_cell? w ⟨bb, 0, none⟩ h.c0
theorem Bk.keep {w w' : World} {bb : Nat} {mv fv : Value} (h : Bk w bb mv fv) (hb : w'.heap[bb]? = w.heap[bb]?) : Bk w' bb mv fv := hb.trans h
theorem Bk.set0 {w : World} {bb : Nat} {mv fv : Value} (h : Bk w bb mv fv) (u : Value) : Bk (w.setCell ⟨bb, 0, none⟩ u) bb u fv := by
  unfold Bk at h ⊢
  simp [World.setCell, Array.getElem?_modify, h]
theorem Bk.set1 {w : World} {bb : Nat} {mv fv : Value} (h : Bk w bb mv fv) (u : Value) : Bk (w.setCell ⟨bb, 1, none⟩ u) bb mv u := by
  unfold Bk at h ⊢
  simp [World.setCell, Array.getElem?_modify, h]
theorem Bk.alloc {w : World} {bb : Nat} {mv fv : Value} (h : Bk w bb mv fv) (o : Obj) : Bk (w.alloc o) bb mv fv := h.keep (Below.heap_alloc _ _ _ h.lt)

theorem Fs.keep {w w' : World} {fv : Value} {fs : List Int} (h : Fs w fv fs) (hk : ∀ p v, (∃ x, v = Value.int .i64 x) → w.cell? p = some v → w'.cell? p = some v) : Fs w' fv fs := by
  obtain ⟨a, cap, e, hc, hl⟩ := h
  refine ⟨a, cap, e, hc, fun hn => ?_⟩
  obtain ⟨b, off, ea, hcell⟩ := hl hn
  exact ⟨b, off, ea, fun j x hx => hk _ _ ⟨x, rfl⟩ (hcell j x hx)⟩
theorem Fs.alloc {w : World} {fv : Value} {fs : List Int} (h : Fs w fv fs) (o : Obj) : Fs (w.alloc o) fv fs := h.keep fun p _ _ hc => (World.cell?_alloc_lt _ _ p (World.block_lt_of_cell? w p hc)).trans hc
theorem Th.alloc {w : World} {mv : Value} {n : Nat} {D : DataW Unit} (h : Th w mv n D) (o : Obj) : Th (w.alloc o) mv n D := by
  rcases h with h | ⟨m, e, hm⟩
  · exact .inl h
  · exact .inr ⟨m, e, hm.alloc _⟩
theorem Th.mono {w : World} {mv : Value} {n n' : Nat} {D : DataW Unit} (h : Th w mv n D) (hn : n ≤ n') : Th w mv n' D := by
  rcases h with h | ⟨m, e, hm⟩
  · exact .inl h
  · exact .inr ⟨m, e, hm.mono hn⟩
theorem Th.keep {w w' : World} {mv : Value} {n : Nat} {D : DataW Unit} (h : Th w mv n D) (hk : ∀ m, mv = .map (some m) → w'.heap[m]? = w.heap[m]?) : Th w' mv n D := by
  rcases h with h | ⟨m, e, hm⟩
  · exact .inl h
  · obtain ⟨es, clock, hb, r⟩ := hm
    exact .inr ⟨m, e, es, clock, (hk m e).trans hb, r⟩
theorem Th.lt {w : World} {mv : Value} {n : Nat} {D : DataW Unit} (h : Th w mv n D) {m : Nat} (e : mv = .map (some m)) : m < w.heap.size := by
  rcases h with ⟨h, _⟩ | ⟨m', e', hm⟩
  · rw [e] at h; cases h
  · rw [e] at e'; cases e'; exact hm.lt
theorem Th.canon {w : World} {mv : Value} {n : Nat} {D : DataW Unit} (h : Th w mv n D) : Canon D := by
  rcases h with ⟨_, rfl⟩ | ⟨m, e, hm⟩
  · exact canon_empty
  · exact hm.canon law9
theorem Th.tidy {w : World} {mv : Value} {n : Nat} {D : DataW Unit} (h : Th w mv n D) : Tidy D := by
  rcases h with ⟨_, rfl⟩ | ⟨m, e, hm⟩
  · exact tidy_empty
  · exact hm.tidy law9
theorem Th.isMap {w : World} {mv : Value} {n : Nat} {D : DataW Unit} (h : Th w mv n D) : IsMap D := h.tidy.isMap
theorem Th.size_le {w : World} {mv : Value} {n : Nat} {D : DataW Unit} (h : Th w mv n D) : Maps.size D ≤ n := by
  rcases h with ⟨_, rfl⟩ | ⟨m, e, hm⟩
  · exact Nat.zero_le _
  · exact hm.size_le
/-- A block of cells is not the map's, nor holds it a number where a bucket lies. -/
theorem Th.ne {w : World} {mv : Value} {n : Nat} {D : DataW Unit} (h : Th w mv n D) {p : Addr} {v : Value} (hc : w.cell? p = some v) : mv ≠ .map (some p.block) := by
  rcases h with ⟨h, _⟩ | ⟨m, e, es, clock, hb, _⟩
  · rw [h]; intro e; cases e
  · rw [e]; intro e2; cases e2; simp [World.cell?, hb] at hc

/-- A look into things, there or not. -/
theorem Th.look {w : World} {mv : Value} {n : Nat} {D : DataW Unit} (h : Th w mv n D) {key : ByteArray} (hk : key.size ≤ maxLen) :
    ∃ t : ByteArray, (Instr.lookup 23 mv (.string key) true).run Tryd.prog w = .ok (.tuple #[.agg #[.string t], .bool (Maps.has D (lit key))]) w ∧ D.atKey (lit key) (txt ByteArray.empty) = txt t := by
  have hz : ∀ W, (zeroValue 61).run Tryd.prog W = .ok (.agg #[.string ⟨#[]⟩]) W := fun W => by kernel_rfl
  rcases h with ⟨rfl, rfl⟩ | ⟨m, rfl, hm⟩
  · refine ⟨⟨#[]⟩, ?_, rfl⟩
    have := Maps.look_nil (w := w) true law9 Tryd.underlying23 (hz w) (keyOf9 hk)
    simpa [Maps.has] using this
  · obtain ⟨v, ps, hrun, hv⟩ := hm.look_ok law9 Tryd.underlying23 (hz w) (zd := txt ByteArray.empty) (thingE_mk (by decide)) (keyOf9 hk)
    obtain ⟨s, rfl, e, _⟩ := thingE_inv hv
    exact ⟨s, hrun, congrArg Prod.fst e⟩

section
variable (w : World) {ops : Array Oper} {rest : List Oper} {o : Oper} {a : Act} {Q : Exit → Act → World → Prop}
/-- 'v, ok := things[key]', at the operation. -/
theorem wpList_look (hg : o.guard = none) (m x : Operand) (hop : o.op = Op.lookup 23 m x true) (n : Nat) (D : DataW Unit) (mv : Value) (key : ByteArray)
    (hm : a.eval m = mv) (hx : a.eval x = .string key) (hth : Th w mv n D) (hk : key.size ≤ maxLen)
    (hK : ∀ t : ByteArray, D.atKey (lit key) (txt ByteArray.empty) = txt t → wpList Tryd.prog ops Q rest (a.put o.dst (.tuple #[.agg #[.string t], .bool (Maps.has D (lit key))])) w) :
    wpList Tryd.prog ops Q (o :: rest) a w := by
  refine wpList_plain hg fun K' hK' => ?_
  obtain ⟨t, hrun, hat⟩ := hth.look hk
  unfold Oper.wp
  simp [execOp, hop, hm, hx, hrun, Result.andThen]
  exact hK' _ _ (hK t hat)
/-- 'v, ok := m[key]' of a map of texts, at the operation. -/
theorem wpList_looks (hg : o.guard = none) (m x : Operand) (hop : o.op = Op.lookup 32 m x true) (b n : Nat) (D : DataW Unit) (key : ByteArray)
    (hm : a.eval m = .map (some b)) (hx : a.eval x = .string key) (hown : w.ownsMap Tryd.prog 9 (plainElem Tryd.prog 9) b n D) (hk : key.size ≤ maxLen)
    (hK : ∀ t : ByteArray, D.atKey (lit key) (txt ByteArray.empty) = txt t → wpList Tryd.prog ops Q rest (a.put o.dst (.tuple #[.string t, .bool (Maps.has D (lit key))])) w) :
    wpList Tryd.prog ops Q (o :: rest) a w := by
  have hz : ∀ W, (zeroValue 9).run Tryd.prog W = .ok (.string ⟨#[]⟩) W := fun W => by kernel_rfl
  exact wpList_lookup_own_ok w hg m x _ hop _ _ law9 Tryd.underlying32 _ (hz w) (txt ByteArray.empty) [] (plainElem_string Tryd.underlying9 (by decide)) b n D hm hown _ _ hx (keyOf9 hk) (fun v ps hv => by
    obtain ⟨s, rfl, e, _⟩ := plainElem_string_inv Tryd.underlying9 hv
    exact hK s (congrArg Prod.fst e))
end
end Go.Proofs.YtinpapenpinhdaaDoor
