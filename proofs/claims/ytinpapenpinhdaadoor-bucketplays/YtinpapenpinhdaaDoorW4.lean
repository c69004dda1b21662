/- api.Tell at an error that a bucket tells; an error held against nil; millpondkeep.thrown. -/
import Derived.Test.YtinpapenpinhdaaDoorW3
import Derived.Test.YtinpapenpinhdaaDoorT1
namespace Go.Proofs.YtinpapenpinhdaaDoor
open Go.RowKit Go.Maps Go.Sort Go.Shelf Go.Lib

theorem tell_nil (w : World) : Calls Tryd.prog 16 #[.nilIface] w fun e w' => e = .returned (.int .i64 0) ∧ w' = w := by
  go_enter Tryd.func16, Tryd.ntmps16
  go_wp2
  go_ret
  exact ⟨rfl, rfl⟩
theorem tell_err (x : Int) (w : World) (hg : EtB w) : Calls Tryd.prog 16 #[errV x] w fun e w' => e = .returned (.int .i64 x) ∧ Below w.heap.size w w' := by
  unfold errV
  split
  · rename_i h
    subst h
    refine (tell_nil w).mono ?_
    rintro e w' ⟨rfl, rfl⟩
    exact ⟨rfl, Below.refl _ _⟩
  · exact tell_any x w hg
theorem eql_err (x : Int) (w : World) : (binOp .eql 38 (errV x) .nilIface).run Tryd.prog w = .ok (.bool (decide (x = 0))) w := by
  unfold errV
  split
  · rename_i h
    subst h
    kernel_rfl
  · rename_i h
    rw [decide_eq_false h]
    kernel_rfl
theorem neq_err (x : Int) (w : World) : (binOp .neq 38 (errV x) .nilIface).run Tryd.prog w = .ok (.bool (decide (x ≠ 0))) w := by
  unfold errV
  split
  · rename_i h
    subst h
    kernel_rfl
  · rename_i h
    rw [decide_eq_true h]
    kernel_rfl
theorem guard_eql (x : Int) (k : Nat) (w : World) : (eqGuard .eql 38 (.tmp k) (.const .nilIface) (errV x) .nilIface).run Tryd.prog w = .ok () w := by
  unfold errV
  split
  · kernel_rfl
  · kernel_rfl
theorem guard_neq (x : Int) (k : Nat) (w : World) : (eqGuard .neq 38 (.tmp k) (.const .nilIface) (errV x) .nilIface).run Tryd.prog w = .ok () w := by
  unfold errV
  split
  · kernel_rfl
  · kernel_rfl
theorem bu_new (w : World) : Bu (w.alloc (.cells #[.map none, .slice none 0 0] 26)) w.heap.size 0 (.map []) [] (.map none) (.slice none 0 0) :=
  ⟨heap_alloc_new w _, .inl ⟨rfl, rfl⟩, _, _, rfl, Nat.le_refl _, fun h => absurd rfl h⟩

/-- Where a law stands: a bucket of its own, from base on; nothing below base has turned. -/
def Z (w0 : World) (bb n : Nat) (D : DataW Unit) (fs : List Int) (w : World) : Prop := ∃ mv fv, Bu w bb n D fs mv fv ∧ Below w0.heap.size w0 w ∧ w0.heap.size ≤ bb ∧ ∀ k, mv = .map (some k) → w0.heap.size ≤ k
theorem Z.put {w0 w : World} {bb n : Nat} {D : DataW Unit} {fs : List Int} (h : Z w0 bb n D fs w) (key s : ByteArray) (hn : n < maxLen) (hk : key.size ≤ maxLen) (hs : s.size ≤ maxLen) :
    Calls Tryd.prog 7 #[.pointer (some ⟨bb, 0, none⟩), .string key, .string s] w fun e w' => e = .returned (errV (putR D fs key s).1) ∧ Z w0 bb (n + 1) (putR D fs key s).2.1 (putR D fs key s).2.2 w' := by
  obtain ⟨mv, fv, hb, hB, hbb, hm⟩ := h
  refine (put_any bb n D fs mv fv key s w hb hn hk hs).mono ?_
  rintro e w' ⟨rfl, mv', fv', hb', ho, hm'⟩
  refine ⟨rfl, mv', fv', hb', ho.below hB hB.size ?_, hbb, fun k hk => ?_⟩
  · rintro i (rfl | h)
    · exact hbb
    · exact hm i h
  · rcases hm' k hk with h | h
    · exact hm k h
    · exact Nat.le_trans hB.size h
theorem Z.below {w0 w w' : World} {bb n : Nat} {D : DataW Unit} {fs : List Int} (h : Z w0 bb n D fs w) (hb : Below w.heap.size w w') : Z w0 bb n D fs w' := by
  obtain ⟨mv, fv, hu, hB, hbb, hm⟩ := h
  exact ⟨mv, fv, hu.below hb, hB.trans (hb.mono hB.size), hbb, hm⟩
theorem Z.low {w0 w : World} {bb n : Nat} {D : DataW Unit} {fs : List Int} (h : Z w0 bb n D fs w) : Below w0.heap.size w0 w := by
  obtain ⟨mv, fv, hu, hB, hbb, hm⟩ := h
  exact hB
theorem Z.get {w0 w : World} {bb n : Nat} {D : DataW Unit} {fs : List Int} (h : Z w0 bb n D fs w) (key : ByteArray) (hk : key.size ≤ maxLen) :
    Calls Tryd.prog 9 #[.pointer (some ⟨bb, 0, none⟩), .string key] w fun e w' => GetPost D key w e w' ∧ Z w0 bb n D fs w' := by
  have h' := h
  obtain ⟨mv, fv, hu, hB, hbb, hm⟩ := h'
  refine (get_any bb n D mv key w hu.1.c0 hu.2.1 hk).mono fun e w' hp => ⟨hp, ?_⟩
  obtain ⟨t, _, _, _, hb⟩ := hp
  exact h.below hb
theorem Z.list {w0 w : World} {bb n : Nat} {D : DataW Unit} {fs : List Int} (h : Z w0 bb n D fs w) (p : ByteArray) (hn : n ≤ 1000) :
    Calls Tryd.prog 12 #[.pointer (some ⟨bb, 0, none⟩), .string p] w fun e w' => ListPost D p w e w' ∧ Z w0 bb n D fs w' := by
  have h' := h
  obtain ⟨mv, fv, hu, hB, hbb, hm⟩ := h'
  refine (list_any bb n D mv p w hu.1.c0 hu.2.1 hn).mono fun e w' hp => ⟨hp, ?_⟩
  obtain ⟨v, _, _, hb⟩ := hp
  exact h.below hb
theorem Z.tell {w0 w : World} {bb n : Nat} {D : DataW Unit} {fs : List Int} (h : Z w0 bb n D fs w) (hg : EtB w0) (x : Int) :
    Calls Tryd.prog 16 #[errV x] w fun e w' => e = .returned (.int .i64 x) ∧ Z w0 bb n D fs w' :=
  (tell_err x w (hg.below h.low)).mono fun _ _ ⟨he, hb⟩ => ⟨he, h.below hb⟩

theorem r1 : putR (.map []) [1, 2] ⟨#[97]⟩ ⟨#[120]⟩ = (14, .map [], [2]) := rfl
theorem r2 : putR (.map []) [2] ⟨#[97]⟩ ⟨#[121]⟩ = (14, DataW.put (.map []) (lit ⟨#[97]⟩) (txt ⟨#[121]⟩), []) := rfl
theorem r3 : putR (DataW.put (.map []) (lit ⟨#[97]⟩) (txt ⟨#[121]⟩)) [] ⟨#[97]⟩ ⟨#[122]⟩ = (9, DataW.put (.map []) (lit ⟨#[97]⟩) (txt ⟨#[121]⟩), []) := rfl

theorem Z.list0 {w0 w : World} {bb n : Nat} {fs : List Int} (h : Z w0 bb n (.map []) fs w) (p : ByteArray) (hn : n ≤ 1000) :
    Calls Tryd.prog 12 #[.pointer (some ⟨bb, 0, none⟩), .string p] w fun e w' => ∃ a c, e = .returned (.slice a 0 c) ∧ Z w0 bb n (.map []) fs w' := by
  refine (h.list p hn).mono ?_
  rintro e w' ⟨⟨v, rfl, ⟨a, c, rfl, _, _⟩, _⟩, hz⟩
  have hl : listR (.map []) p = [] := by simp [listR, strKeys]
  rw [hl]
  exact ⟨a, c, rfl, hz⟩
theorem Z.get1 {w0 w : World} {bb n : Nat} {D : DataW Unit} {fs : List Int} (h : Z w0 bb n D fs w) (key s : ByteArray) (hk : key.size ≤ maxLen) (hh : Maps.has D (lit key) = true) (ha : D.atKey (lit key) (txt ByteArray.empty) = txt s) :
    Calls Tryd.prog 9 #[.pointer (some ⟨bb, 0, none⟩), .string key] w fun e w' => e = .returned (.tuple #[.string s, errV 0]) ∧ Z w0 bb n D fs w' := by
  refine (h.get key hk).mono ?_
  rintro e w' ⟨⟨t, rfl, ht, _, _⟩, hz⟩
  rw [hh]
  have : t = s := txt_inj ((ht hh).symm.trans ha)
  subst this
  exact ⟨rfl, hz⟩
theorem Z.get0 {w0 w : World} {bb n : Nat} {D : DataW Unit} {fs : List Int} (h : Z w0 bb n D fs w) (key : ByteArray) (hk : key.size ≤ maxLen) (hh : Maps.has D (lit key) = false) :
    Calls Tryd.prog 9 #[.pointer (some ⟨bb, 0, none⟩), .string key] w fun e w' => e = .returned (.tuple #[.string ByteArray.empty, errV 7]) ∧ Z w0 bb n D fs w' := by
  refine (h.get key hk).mono ?_
  rintro e w' ⟨⟨t, rfl, _, ht, _⟩, hz⟩
  rw [hh, ht hh]
  exact ⟨rfl, hz⟩
set_option maxRecDepth 100000 in
theorem thrown_any (w : World) (hg : EtB w) : Calls Tryd.prog 15 #[] w fun e w' => e = .returned (.bool true) ∧ Below w.heap.size w w' := by
  have HG : Hid (EtB w) := hg
  have HF : Hid (Calls Tryd.prog 14 #[.pointer (some ⟨w.heap.size, 0, none⟩), .slice (some ⟨w.heap.size + 1, 0, none⟩) 2 2] ((w.alloc (.cells #[.map none, .slice none 0 0] 26)).alloc (.cells #[.int .i64 1, .int .i64 2] 3)) fun e w' => e = .returned (.tuple #[]) ∧ Z w w.heap.size 0 (.map []) [1, 2] w') := by
    have hb0 : Below w.heap.size w ((w.alloc (.cells #[.map none, .slice none 0 0] 26)).alloc (.cells #[.int .i64 1, .int .i64 2] 3)) := ((Below.refl _ w).alloc (Nat.le_refl _) _).alloc (by simp) _
    have hu := (bu_new w).below (w' := (w.alloc (.cells #[.map none, .slice none 0 0] 26)).alloc (.cells #[.int .i64 1, .int .i64 2] 3)) ((Below.refl _ _).alloc (Nat.le_refl _) _)
    refine (faults_any w.heap.size 0 (.map []) [] [1, 2] _ _ _ _ hu ⟨_, _, rfl, Nat.le_refl _, fun _ => ⟨_, _, rfl, fun j x hx => ?_⟩⟩ (by decide)).mono ?_
    · have e1 : w.heap.size + 1 = (w.alloc (.cells #[.map none, .slice none 0 0] 26)).heap.size := by simp
      rw [World.cell?_alloc_at _ _ _ _ e1]
      match j, hx with
      | 0, hx => simp at hx; subst hx; rfl
      | 1, hx => simp at hx; subst hx; rfl
    · rintro e w' ⟨rfl, fv', hu', ho⟩
      exact ⟨rfl, _, fv', hu', ho.below hb0 hb0.size (fun i e => by omega), Nat.le_refl _, fun k hk => by cases hk⟩
  have q1 := eql_err
  have q2 := guard_eql
  clear hg
  go_enter Tryd.func15, Tryd.ntmps15
  go_wp2_with (first
    | (go_at_call 14; refine HF.out.mono ?_; rintro e w1 ⟨rfl, hz1⟩)
    | (go_at_call 7; first
      | (refine (hz8.put _ _ (by decide) (by decide) (by decide)).mono ?_; rw [r3]; rintro e w9 ⟨rfl, hz9⟩)
      | (refine (hz5.put _ _ (by decide) (by decide) (by decide)).mono ?_; rw [r2]; rintro e w6 ⟨rfl, hz6⟩)
      | (refine (hz1.put _ _ (by decide) (by decide) (by decide)).mono ?_; rw [r1]; rintro e w2 ⟨rfl, hz2⟩))
    | (go_at_call 16; first
      | (refine (hz9.tell HG.out _).mono ?_; rintro e w10 ⟨rfl, hz10⟩)
      | (refine (hz6.tell HG.out _).mono ?_; rintro e w7 ⟨rfl, hz7⟩)
      | (refine (hz2.tell HG.out _).mono ?_; rintro e w3 ⟨rfl, hz3⟩))
    | (go_at_call 12; refine (hz3.list0 _ (by decide)).mono ?_; rintro e w5 ⟨a5, c5, rfl, hz5⟩)
    | (go_at_call 9; refine (hz7.get1 _ ⟨#[121]⟩ (by decide) rfl rfl).mono ?_; rintro e w8 ⟨rfl, hz8⟩))
  go_ret
  exact ⟨rfl, hz10.low⟩
end Go.Proofs.YtinpapenpinhdaaDoor
