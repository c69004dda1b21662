/- The parts of LogWhole's text, and what they want of a table. -/
import Derived.Test.YtgpdojaehmdlpaaGreatDoorS4
namespace Go.Proofs.YtgpdojaehmdlpaaGreatDoor
open Go.RowKit Go.Proofs Go.Lib Go.Joins Go.Maps

/-- Of names each once, all among others: no more of them. -/
theorem nodup_len {α : Type} [DecidableEq α] : ∀ {l m : List α}, l.Nodup → (∀ x ∈ l, x ∈ m) → l.length ≤ m.length
  | [], _, _, _ => Nat.zero_le _
  | a :: l, m, hn, hs => by
    have ha : a ∈ m := hs a (by simp)
    have h1 : l.length ≤ (m.erase a).length := nodup_len (List.nodup_cons.1 hn).2 (fun x hx => by
      have hne : x ≠ a := fun e => (List.nodup_cons.1 hn).1 (e ▸ hx)
      exact (List.mem_erase_of_ne hne).2 (hs x (by simp [hx])))
    rw [List.length_erase_of_mem ha] at h1
    have : 0 < m.length := List.length_pos_of_mem ha
    simp only [List.length_cons]
    omega

/-- Where a table's cells lie: version, columns, next, files. -/
abbrev V4 := Int × Sv × Int × Sv
def encS (x : V4) : List Value := [.int .i64 x.1, sv x.2.1, .int .i64 x.2.2.1, sv x.2.2.2]
abbrev aggS (x : V4) : Value := .agg #[.int .i64 x.1, sv x.2.1, .int .i64 x.2.2.1, sv x.2.2.2]
/-- Files of a table, in a map of their own, with masks of their own. -/
def KeptAt (W : World) (s : Snap) (m : Nat) : Prop := ∃ n L, SetAt W m n L ∧ n ≤ 1000 ∧ L.length = s.files.length ∧ (∀ e ∈ L, e.1 ∈ s.files) ∧ ∀ e ∈ L, W.ownsRow 0 3 1 (sv e.2) e.1.2.2.length (e.1.2.2.map (.int .i64))
theorem KeptAt.up {w W : World} {s : Snap} {m : Nat} (h : KeptAt w s m) (hb : Below w.heap.size w W) : KeptAt W s m := by
  obtain ⟨n, L, h1, h2, h3, h4, h5⟩ := h
  exact ⟨n, L, h1.below hb, h2, h3, h4, fun e he => own_up (h5 e he) hb⟩
theorem setAt_keep {w W : World} {m n b : Nat} {L : List EntV} {cs : Array Value} {t : TypeId} (h : SetAt w m n L) (hb : w.heap[b]? = some (.cells cs t (0, 0))) (hg : w.grownBy W (some b)) : SetAt W m n L := by
  obtain ⟨D, ⟨es, clock, h1, h2⟩, h3⟩ := h
  refine ⟨D, ⟨es, clock, (hg.block m (blk_lt h1) (fun e => ?_)).trans h1, h2⟩, h3⟩
  injection e with e
  subst e
  rw [h1] at hb
  cases hb
theorem KeptAt.put {w W : World} {s : Snap} {m b : Nat} {cs : Array Value} {t : TypeId} (h : KeptAt w s m) (hb : w.heap[b]? = some (.cells cs t (0, 0))) (ht : 3 ≠ t) (hg : w.grownBy W (some b)) : KeptAt W s m := by
  obtain ⟨n, L, h1, h2, h3, h4, h5⟩ := h
  exact ⟨n, L, setAt_keep h1 hb hg, h2, h3, h4, fun e he => own_keep (h5 e he) hg (fun k hk e' => own_box (h5 e he) hb ht (by rw [hk]; exact e'.symm))⟩
theorem SnapW.put' {w W : World} {s : Snap} {v : Value} {b : Nat} {cs : Array Value} {t : TypeId} (h : SnapW w s v) (hb : w.heap[b]? = some (.cells cs t (0, 0))) (t1 : (3 : TypeId) ≠ t) (t2 : (80 : TypeId) ≠ t) (t3 : (53 : TypeId) ≠ t) (hg : w.grownBy W (some b)) : SnapW W s v := by
  obtain ⟨a1, c1, a2, c2, L, e, hV⟩ := h
  refine ⟨a1, c1, a2, c2, L, e, ?_, hV.files, ?_, fun x hx => ?_⟩
  · exact own_keep hV.cols hg (fun k hk e => own_box hV.cols hb t2 (by rw [hk]; exact e.symm))
  · exact own_keep hV.row hg (fun k hk e => own_box hV.row hb t3 (by rw [hk]; exact e.symm))
  · exact own_keep (hV.masks x hx) hg (fun k hk e => own_box (hV.masks x hx) hb t1 (by rw [hk]; exact e.symm))
/-- A table that was. -/
abbrev Was := Snap × V4 × Nat
structure Past (W : World) (h : Was) : Prop where
  snap : SnapW W h.1 (aggS h.2.1)
  good : Good colB fitB h.1
  named : Named h.1
  kept : KeptAt W h.1 h.2.2
theorem Past.up {w W : World} {h : Was} (p : Past w h) (hb : Below w.heap.size w W) : Past W h := ⟨p.snap.up hb, p.good, p.named, p.kept.up hb⟩
theorem Past.put {w W : World} {h : Was} (p : Past w h) {b : Nat} {cs : Array Value} {t : TypeId} (hb : w.heap[b]? = some (.cells cs t (0, 0))) (t1 : (3 : TypeId) ≠ t) (t2 : (80 : TypeId) ≠ t) (t3 : (53 : TypeId) ≠ t) (hg : w.grownBy W (some b)) : Past W h :=
  ⟨p.snap.put' hb t1 t2 t3 hg, p.good, p.named, p.kept.put hb t1 hg⟩
def cellsW (l : List Was) : List Value := l.flatMap (fun h => encS h.2.1)
def cellsM (l : List Was) : List Value := l.map (fun h => .map (some h.2.2))
/-- All that was: two rows, and what they hold. -/
structure Hist (base : Nat) (W : World) (vw vs : Value) (H : List Was) : Prop where
  was : W.ownsRow base 41 4 vw H.length (cellsW H)
  seen : W.ownsRow base 47 1 vs H.length (cellsM H)
  past : ∀ h ∈ H, Past W h
theorem Hist.up {base : Nat} {w W : World} {vw vs : Value} {H : List Was} (h : Hist base w vw vs H) (hb : Below w.heap.size w W) : Hist base W vw vs H := ⟨own_up h.was hb, own_up h.seen hb, fun x hx => (h.past x hx).up hb⟩
/-- A store into a table's box that lies before the rows. -/
theorem Hist.put {base b : Nat} {w W : World} {vw vs : Value} {H : List Was} {cs : Array Value} (h : Hist base w vw vs H) (hb : w.heap[b]? = some (.cells cs 41 (0, 0))) (hlt : b < base) (hg : w.grownBy W (some b)) : Hist base W vw vs H := by
  refine ⟨own_keep h.was hg (fun k hk e => ?_), own_keep h.seen hg (fun k hk e => own_box h.seen hb (by decide) (by rw [hk]; exact e.symm)), fun x hx => (h.past x hx).put hb (by decide) (by decide) (by decide) hg⟩
  rcases own_forms h.was with ⟨e1, _⟩ | ⟨g, c, e1, hg1, _⟩
  · rw [e1] at hk; cases hk
  · rw [e1] at hk
    injection hk with hk
    injection e with e
    have : g = k := hk
    omega
theorem SnapW.vals {W : World} {s : Snap} {x0 x2 : Int} {a1 a2 : Option Addr} {n1 c1 n2 c2 : Nat} (h : SnapW W s (.agg #[.int .i64 x0, .slice a1 n1 c1, .int .i64 x2, .slice a2 n2 c2])) : x0 = s.ver ∧ n1 = s.cols.length ∧ x2 = s.next ∧ n2 = s.files.length ∧ ∃ L : List EntV, L.length = n2 ∧ SnapV W s (.slice a1 n1 c1) (.slice a2 n2 c2) L := by
  obtain ⟨_, _, _, _, L, e, hV⟩ := h
  simp only [Value.agg.injEq, Array.mk.injEq, List.cons.injEq, Value.slice.injEq, Value.int.injEq, true_and, and_true] at e
  obtain ⟨rfl, ⟨rfl, rfl, rfl⟩, rfl, rfl, rfl, rfl⟩ := e
  exact ⟨rfl, rfl, rfl, by rw [hV.files, List.length_map], L, rfl, hV⟩
theorem right_yes {W : World} {t : Snap} {a : Option Addr} {c : Nat} {fv : Value} {L : List EntV} (h : SnapV W t (.slice a t.cols.length c) fv L) (g : Good colB fitB t) (h0 : 0 < t.cols.length) (hw : NcB W) :
    Calls Tryz.prog 18 #[.slice a t.cols.length c, .int .i64 t.next] W fun e w' => e = .returned (.bool true) ∧ Below W.heap.size W w' := by
  have hr : RightP colB fitB t.cols t.next := by
    rcases g.cols with e | e
    · rw [e] at h0; simp at h0
    · exact e
  have hl : LiC W (.slice a t.cols.length c) t.cols := by
    rcases own_forms h.cols with ⟨_, e0⟩ | ⟨g', c', e, _, _, hc, _⟩
    · omega
    · cases e
      exact .inr ⟨g', 0, c, rfl, hc, SlC.of_own h.cols rfl⟩
  have := right_any a _ c t.cols t.next W hl hw (fun x hx => ⟨col_small (hr.2.2.1 x hx).1.2.2.1, fit_small (hr.2.2.1 x hx).1.2.2.2⟩)
  rwa [(rightB_iff _ _).2 hr] at this
/-- Behind Apply: its answer in a box of its own. -/
def Mid (w6 : World) (s : Snap) (c : Com) (v7 v8 : Value) (wx : World) : Prop :=
  ∃ y0 b1 m1 d1 y2 b2 m2 d2 b7, v7 = .pointer (some ⟨b7, 0, none⟩) ∧ Hid (w6.heap.size ≤ b7 ∧ wx.heap[b7]? = some (.cells #[.int .i64 y0, .slice b1 m1 d1, .int .i64 y2, .slice b2 m2 d2] 41 (0, 0)) ∧ ApOut s c y0 b1 m1 d1 y2 b2 m2 d2 v8 wx ∧ Below w6.heap.size w6 wx)
theorem ApOut.move {s : Snap} {c : Com} {y0 y2 : Int} {b1 b2 : Option Addr} {m1 d1 m2 d2 : Nat} {er : Value} {w W : World} (h : ApOut s c y0 b1 m1 d1 y2 b2 m2 d2 er w) (hs : ∀ t v, SnapW w t v → SnapW W t v) : ApOut s c y0 b1 m1 d1 y2 b2 m2 d2 er W := by
  rcases h with ⟨h1, t, h2, h3⟩ | h
  · exact .inl ⟨h1, t, h2, hs _ _ h3⟩
  · exact .inr h
theorem own_lit {W : World} {base g n : Nat} {e : TypeId} {z : Nat} {cs : Array Value} (h : W.heap[g]? = some (.cells cs e (0, 0))) (hb : base ≤ g) (hc : cs.size = n * z) (hn : n ≤ maxLen) : W.ownsRow base e z (.slice (some ⟨g, 0, none⟩) n n) n cs.toList :=
  ⟨by rw [Array.length_toList]; exact hc, .inr ⟨g, n, cs, rfl, hb, h, Nat.le_refl _, hn, hc, by rw [← hc, ← Array.length_toList, List.take_length]⟩⟩
end Go.Proofs.YtgpdojaehmdlpaaGreatDoor

namespace Go.Proofs.YtgpdojaehmdlpaaGreatDoor
open Go.RowKit Go.Proofs Go.Lib Go.Joins Go.Maps

def firstLoop : Code → Option Code
  | .loop c => some c
  | .seq a b => match firstLoop a with
    | some c => some c
    | none => firstLoop b
  | .block _ c => firstLoop c
  | .scope c => firstLoop c
  | .cond _ a b => match firstLoop a with
    | some c => some c
    | none => firstLoop b
  | _ => none
def seqL : Code → Code
  | .seq a _ => a
  | _ => .skip
def seqR : Code → Code
  | .seq _ b => b
  | _ => .skip
def inB : Code → Code
  | .block _ c => c
  | _ => .skip
noncomputable def wholeRound : Code := (Tryz.f5.body.bind firstLoop).getD .skip
noncomputable def wX : Code := inB (seqL (seqR wholeRound))
noncomputable def wT4 : Code := seqR (seqR (seqR (seqR wX)))
noncomputable def wP5 : Code := seqL wT4
noncomputable def wT5 : Code := seqR wT4
noncomputable def wP6 : Code := seqL wT5
noncomputable def wT6 : Code := seqR wT5
noncomputable def wP7 : Code := seqL wT6
noncomputable def wT7 : Code := seqR wT6
noncomputable def wP8 : Code := seqL wT7
noncomputable def wT8 : Code := seqR wT7
noncomputable def wP9 : Code := seqL wT8
noncomputable def wT9 : Code := seqR wT8

theorem below_drewN {b : Nat} {w W : World} (h : Below b w W) (n : Nat) : Below b w (W.drewN n) := ⟨h.os, h.tape, h.output, h.size, h.block⟩
/-- It goes on, and nothing else. -/
def onlyN (Q : Exit → Act → World → Prop) : Exit → Act → World → Prop
  | .normal, a, w => Q .normal a w
  | _, _, _ => False
theorem onlyN_up {Q : Exit → Act → World → Prop} : ∀ e a w, onlyN Q e a w → Q e a w
  | .normal, _, _, h => h
  | .ret, _, _, h => h.elim
  | .exit _, _, _, h => h.elim
  | .goto _, _, _, h => h.elim
  | .panic _, _, _, h => h.elim
  | .outgrown, _, _, h => h.elim
/-- A table's box. -/
abbrev BoxS (W : World) (B : Nat) (x0 : Int) (a1 : Option Addr) (n1 c1 : Nat) (x2 : Int) (a2 : Option Addr) (n2 c2 : Nat) : Prop := W.heap[B]? = some (.cells #[.int .i64 x0, .slice a1 n1 c1, .int .i64 x2, .slice a2 n2 c2] 41 (0, 0))
/-- Rows that are masked stand in their file, each once. -/
def Rises (r : Int) (m : List Int) : Prop := (∀ j, j < m.length → 0 ≤ m[j]! ∧ m[j]! < r) ∧ ∀ j, 0 < j → j < m.length → m[j - 1]! < m[j]!
end Go.Proofs.YtgpdojaehmdlpaaGreatDoor
