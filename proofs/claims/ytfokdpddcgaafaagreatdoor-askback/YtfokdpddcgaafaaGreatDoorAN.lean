/- What a reader's value does, said of every call. -/
import Derived.Test.YtfokdpddcgaafaaGreatDoorAM
namespace Go.Proofs.YtfokdpddcgaafaaGreatDoor
open Go.RowKit Go.Proofs Go.Lib Go.Proofs.YtfokdpddcgaafaaGreatDoor.Ask

def valV (k n : Int) (t : ByteArray) : Value := .agg #[.int .i64 k, .int .i64 n, .string t]
def oVal (k n : Int) (t : ByteArray) : Obj := .cells #[.int .i64 k, .int .i64 n, .string t] 23
def vlV : Vl → Value
  | .null => valV 0 0 ⟨#[]⟩
  | .num n => valV 1 n ⟨#[]⟩
  | .text l => valV 2 0 (bA l)
def rtL (l : List UInt8) : Bool := rtB (bA l)
/-- What value should be read off the first token. -/
def vlOf (t : Tok) : Option Vl := if isT 1 wNull t then some .null else if t.kind = 3 then (if rtL t.text then some (.text t.text) else none) else if t.kind = 2 then (numT t.text).map .num else none
def VlPost (B : Nat) (ts : List Tok) (w : World) (e : Ending) (w' : World) : Prop :=
  Past B w w' ∧ ((∃ v, vlOf (hdTok ts) = some v ∧ e = .returned (vlV v) ∧ Rd w' B (ts.drop 1)) ∨ (vlOf (hdTok ts) = none ∧ Thrown e))
theorem keepV {B R : Nat} {W V : World} {o : Obj} (h : Past B W V) (hk : W.heap[R]? = some o) (hn : R ≠ B) : V.heap[R]? = some o := (h.keep R (blk_lt hk) hn).trans hk
def set3 (W : World) (R : Nat) (a b c : Value) : World := ((W.setCell ⟨R, 0, none⟩ a).setCell ⟨R, 1, none⟩ b).setCell ⟨R, 2, none⟩ c
theorem set3_cell {W : World} {R g i : Nat} {a b c : Value} (h : g ≠ R) : (set3 W R a b c).cell? ⟨g, i, none⟩ = W.cell? ⟨g, i, none⟩ := by
  have ne : ∀ j, (⟨R, j, none⟩ : Addr) ≠ ⟨g, i, none⟩ := fun j e => h (by cases e; rfl)
  unfold set3
  rw [World.cell?_setCell_other _ _ _ _ (ne 2), World.cell?_setCell_other _ _ _ _ (ne 1), World.cell?_setCell_other _ _ _ _ (ne 0)]
theorem set3_block {W : World} {R g : Nat} {a b c : Value} (h : g ≠ R) : (set3 W R a b c).heap[g]? = W.heap[g]? := by
  unfold set3
  rw [Below.heap_setCell _ ⟨R, 2, none⟩ _ g h, Below.heap_setCell _ ⟨R, 1, none⟩ _ g h, Below.heap_setCell _ ⟨R, 0, none⟩ _ g h]
theorem Rd.setR {W : World} {B R : Nat} {ts : List Tok} {cs : Array Value} {t : TypeId} (h : Rd W B ts) (hk : W.heap[R]? = some (.cells cs t)) (hs : t ≠ 41) (hn : R ≠ B) (i : Nat) (a : Value) : Rd (W.setCell ⟨R, i, none⟩ a) B ts := by
  obtain ⟨g, o, cp, h1, h2, h3, h4⟩ := h.it
  have hg : g ≠ R := by
    intro e
    subst e
    obtain ⟨_, _, q, _⟩ := h4.head
    rw [hk] at q
    injection q with q
    injection q with _ q
    exact hs q
  refine ⟨⟨g, o, cp, (World.cell?_setCell_other _ _ _ _ (fun e => hn (by cases e; rfl))).trans h1, h2, h3, h4.same (Below.heap_setCell W ⟨R, i, none⟩ _ g hg)⟩, ?_⟩
  rw [World.frozen?_setCell]; exact h.fro
theorem heap_setR {W : World} {R : Nat} {cs : Array Value} {t : TypeId} (hk : W.heap[R]? = some (.cells cs t)) (i : Nat) (a : Value) : (W.setCell ⟨R, i, none⟩ a).heap[R]? = some (.cells (cs.setIfInBounds i a) t) := by
  simp [World.setCell, Array.getElem?_modify, hk]
theorem Rd.set3 {W : World} {B R : Nat} {ts : List Tok} {cs : Array Value} {t : TypeId} (h : Rd W B ts) (hk : W.heap[R]? = some (.cells cs t)) (hs : t ≠ 41) (hn : R ≠ B) (a b c : Value) : Rd (set3 W R a b c) B ts := by
  exact ((h.setR hk hs hn 0 a).setR (heap_setR hk 0 a) hs hn 1 b).setR (heap_setR (heap_setR hk 0 a) 1 b) hs hn 2 c
theorem Past.set3 {w W : World} {B : Nat} {o : Obj} (hB : B < w.heap.size) (h : Past B (w.alloc o) W) (a b c : Value) : Past B w (set3 W w.heap.size a b c) := by
  have h0 := (Past.of (Nat.le_of_lt hB) ((Below.refl _ w).alloc (Nat.le_refl _) o)).trans h
  refine ⟨((h0.low.setCell (Nat.le_of_lt hB) _).setCell (Nat.le_of_lt hB) _).setCell (Nat.le_of_lt hB) _, fun b' hb hn => ?_⟩
  rw [set3_block (by omega)]; exact h0.keep b' hb hn
set_option maxHeartbeats 4000000 in
set_option maxRecDepth 100000 in
theorem rvalue_null (B : Nat) (ts : List Tok) (w : World) (hr : Rd w B ts) (hn : ts.length ≤ 1000) (hq : isT 1 wNull (hdTok ts) = true) :
    Calls Tryz.prog 87 #[.pointer (some ⟨B, 0, none⟩)] w (VlPost B ts w) := by
  have hr0 : Rd (w.alloc (oVal 0 0 ⟨#[]⟩)) B ts := hr.up ((Below.refl _ _).alloc (Nat.le_refl _) _)
  have HT := mkH (takes_any B 1 wNull ts _ hr0 hn)
  have HB : Hid (B < w.heap.size) := hr.lt
  have HV : Hid (vlOf (hdTok ts) = some .null) := by show _ = _; unfold vlOf; rw [if_pos hq]
  unfold TkPost at HT
  rw [hq] at HT
  unfold VlPost
  clear hr hn hq hr0
  go_enter Tryz.func87, Tryz.ntmps87
  go_wp2_with fail
  refine HT.out.mono ?_
  rintro e w1 ⟨hp1, ⟨_, rfl, hr1⟩ | ⟨h, _⟩⟩
  rotate_left
  · cases h
  have hk := keepV hp1 (heap_alloc_new w (oVal 0 0 ⟨#[]⟩)) (by have := HB.out; omega)
  have k0 := cell_of_heap hk 0
  have k1 := cell_of_heap hk 1
  have k2 := cell_of_heap hk 2
  simp at k0 k1 k2
  have f0 : ∀ i, w1.frozen? ⟨w.heap.size, i, none⟩ = false := fun i => by simp [World.frozen?, hk, oVal]
  go_wp2
  exact bodyPost_ret (v := valV 0 0 ⟨#[]⟩) (by simp [results, Tryz.results87, go_sem, k0, k1, k2, valV]) rfl ⟨hp1.set3 HB.out _ _ _, .inl ⟨_, HV.out, rfl, hr1.set3 hk (by simp) (by have := HB.out; omega) _ _ _⟩⟩
end Go.Proofs.YtfokdpddcgaafaaGreatDoor
