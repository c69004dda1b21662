/- A bucket beside the document's, and a struct that tells what is done: what each call keeps of them. -/
import Derived.Test.YtinpapenpinhdaaDoorP2
namespace Go.Proofs.YtinpapenpinhdaaDoor
open Go.RowKit Go.Maps Go.Sort Go.Shelf Go.Lib

/-- Where the law stands: a bucket, and the document's. -/
def Qs (w0 : World) (bb rb rm n : Nat) (D : DataW Unit) (fs : List Int) (D' : DataW Unit) (fs' : List Int) (w : World) : Prop := ∃ mv fv rfv, Bu w bb n D fs mv fv ∧ Rk w rb rm rfv ∧ Now w rm n D' ∧ Fs w rfv fs' ∧ mv ≠ .map (some rm) ∧ Below w0.heap.size w0 w ∧ w0.heap.size ≤ bb ∧ w0.heap.size ≤ rb ∧ w0.heap.size ≤ rm ∧ ∀ k, mv = .map (some k) → w0.heap.size ≤ k
/-- A deed's block. -/
def XD (w : World) (xb : Nat) (what : Int) (key s : ByteArray) (xf : Value) : Prop := w.heap[xb]? = some (.cells #[.int .i64 what, .string key, .string s, xf] 30 (0, 0))
theorem XD.c0 {w : World} {xb : Nat} {what : Int} {key s : ByteArray} {xf : Value} (h : XD w xb what key s xf) : w.cell? ⟨xb, 0, none⟩ = some (.int .i64 what) := by unfold XD at h; simp [World.cell?, h]
theorem XD.c1 {w : World} {xb : Nat} {what : Int} {key s : ByteArray} {xf : Value} (h : XD w xb what key s xf) : w.cell? ⟨xb, 1, none⟩ = some (.string key) := by unfold XD at h; simp [World.cell?, h]
theorem XD.c2 {w : World} {xb : Nat} {what : Int} {key s : ByteArray} {xf : Value} (h : XD w xb what key s xf) : w.cell? ⟨xb, 2, none⟩ = some (.string s) := by unfold XD at h; simp [World.cell?, h]
theorem XD.c3 {w : World} {xb : Nat} {what : Int} {key s : ByteArray} {xf : Value} (h : XD w xb what key s xf) : w.cell? ⟨xb, 3, none⟩ = some xf := by unfold XD at h; simp [World.cell?, h]
/-- Where the law stands in a round. -/
def RQ (w0 : World) (bb rb rm n : Nat) (D : DataW Unit) (fs : List Int) (D' : DataW Unit) (fs' : List Int) (xb : Nat) (what : Int) (key s : ByteArray) (xf : Value) (w : World) : Prop := Qs w0 bb rb rm n D fs D' fs' w ∧ XD w xb what key s xf

section
variable {w0 w : World} {bb rb rm n : Nat} {D : DataW Unit} {fs : List Int} {D' : DataW Unit} {fs' : List Int} {xb : Nat} {what : Int} {key s : ByteArray} {xf : Value}
theorem bk_ne_rk {mv fv rfv : Value} (h1 : Bk w bb mv fv) (h2 : Rk w rb rm rfv) : bb ≠ rb := by
  intro e
  subst e
  unfold Bk at h1
  unfold Rk at h2
  rw [h1] at h2
  cases h2
theorem bk_ne_now {mv fv : Value} (h1 : Bk w bb mv fv) (h2 : Now w rm n D) : bb ≠ rm := by
  obtain ⟨es, clock, hb, _⟩ := h2
  intro e
  subst e
  unfold Bk at h1
  rw [hb] at h1
  cases h1
theorem Qs.below {w' : World} (h : Qs w0 bb rb rm n D fs D' fs' w) (hb : Below w.heap.size w w') : Qs w0 bb rb rm n D fs D' fs' w' := by
  obtain ⟨mv, fv, rfv, hu, hr, hm, hf, hne, hB, h1, h2, h3, h4⟩ := h
  exact ⟨mv, fv, rfv, hu.below hb, hr.keep (hb.block rb hr.lt), (Only.of_below (S := fun _ => False) hb).map hm (fun h => h), hf.keep fun p v _ hc => (hb.cell (World.block_lt_of_cell? w p hc)).trans hc, hne, hB.trans (hb.mono hB.size), h1, h2, h3, h4⟩
theorem Qs.low (h : Qs w0 bb rb rm n D fs D' fs' w) : Below w0.heap.size w0 w := by
  obtain ⟨mv, fv, rfv, hu, hr, hm, hf, hne, hB, _⟩ := h
  exact hB
theorem Qs.mono {n' : Nat} (h : Qs w0 bb rb rm n D fs D' fs' w) (hn : n ≤ n') : Qs w0 bb rb rm n' D fs D' fs' w := by
  obtain ⟨mv, fv, rfv, hu, hr, hm, hf, hne, hB, h1, h2, h3, h4⟩ := h
  exact ⟨mv, fv, rfv, hu.mono hn, hr, hm.mono hn, hf, hne, hB, h1, h2, h3, h4⟩
theorem Qs.drew (h : Qs w0 bb rb rm n D fs D' fs' w) : Qs w0 bb rb rm n D fs D' fs' w.drew := h.below (Below.refl _ _).drew
theorem RQ.below {w' : World} (h : RQ w0 bb rb rm n D fs D' fs' xb what key s xf w) (hb : Below w.heap.size w w') : RQ w0 bb rb rm n D fs D' fs' xb what key s xf w' :=
  ⟨h.1.below hb, (hb.block xb (World.block_lt_of_cell? w ⟨xb, 0, none⟩ h.2.c0)).trans h.2⟩
theorem RQ.drew (h : RQ w0 bb rb rm n D fs D' fs' xb what key s xf w) : RQ w0 bb rb rm n D fs D' fs' xb what key s xf w.drew := h.below (Below.refl _ _).drew
theorem RQ.far (h : RQ w0 bb rb rm n D fs D' fs' xb what key s xf w) {mv fv : Value} (hu : Bu w bb n D fs mv fv) : ¬ Own bb mv xb := by
  rintro (e | e)
  · subst e
    have h1 := h.2
    have h2 := hu.1
    unfold XD at h1
    unfold Bk at h2
    rw [h1] at h2
    cases h2
  · exact hu.2.1.ne h.2.c0 e
theorem RQ.far2 (h : RQ w0 bb rb rm n D fs D' fs' xb what key s xf w) : ¬ (xb = rb ∨ xb = rm) := by
  have hx := h.2
  obtain ⟨mv, fv, rfv, hu, hr, hm, _⟩ := h.1
  rintro (e | e)
  · subst e
    unfold XD at hx
    unfold Rk at hr
    rw [hx] at hr
    cases hr
  · subst e
    exact now_far hm hx.c0 rfl
/-- The bucket's own blocks turn. -/
theorem RQ.own {w' : World} {n' : Nat} {D2 : DataW Unit} {fs2 : List Int} (h : RQ w0 bb rb rm n D fs D' fs' xb what key s xf w) {mv fv mv' fv' : Value} (hu : Bu w bb n D fs mv fv) (hne : mv ≠ .map (some rm)) (h4 : ∀ k, mv = .map (some k) → w0.heap.size ≤ k) (hu' : Bu w' bb n' D2 fs2 mv' fv') (ho : Only (Own bb mv) w w') (hn : n ≤ n') (hm' : ∀ k, mv' = .map (some k) → mv = .map (some k) ∨ w.heap.size ≤ k) :
    RQ w0 bb rb rm n' D2 fs2 D' fs' xb what key s xf w' := by
  have hfar := h.far hu
  obtain ⟨⟨_, _, rfv, _, hr, hm, hf, _, hB, h1, h2, h3, _⟩, hx⟩ := h
  have hlt := hm.lt
  refine ⟨⟨mv', fv', rfv, hu', hr.keep (ho.block rb hr.lt ?_), (ho.map hm ?_).mono hn, hf.keep fun p v ⟨x, hx⟩ hc => ho.cell hc ?_, fun e => ?_, ho.below hB hB.size ?_, h1, h2, h3, fun k hk => ?_⟩, (ho.block xb (World.block_lt_of_cell? w ⟨xb, 0, none⟩ hx.c0) hfar).trans hx⟩
  · rintro (e | e)
    · exact bk_ne_rk hu.1 hr e.symm
    · exact hu.2.1.ne hr.c0 e
  · rintro (e | e)
    · exact bk_ne_now hu.1 hm e.symm
    · exact hne e
  · rintro (e | e)
    · exact Fs.far hu.1 hu.2.1 hu.2.2 (hx ▸ hc) e
    · exact hu.2.1.ne hc e
  · rcases hm' _ e with e | e
    · exact hne e
    · omega
  · rintro i (rfl | h)
    · exact h1
    · exact h4 i h
  · rcases hm' k hk with h | h
    · exact h4 k h
    · exact Nat.le_trans hB.size h
/-- The document's blocks turn. -/
theorem RQ.other {w' : World} {n' : Nat} {D2 : DataW Unit} {fs2 : List Int} {rfv' : Value} (h : RQ w0 bb rb rm n D fs D' fs' xb what key s xf w) (hr' : Rk w' rb rm rfv') (hm' : Now w' rm n' D2) (hf' : Fs w' rfv' fs2) (ho : Only (fun k => k = rb ∨ k = rm) w w') (hn : n ≤ n') :
    RQ w0 bb rb rm n' D fs D2 fs2 xb what key s xf w' := by
  have hfar := h.far2
  obtain ⟨⟨mv, fv, rfv, hu, hr, hm, hf, hne, hB, h1, h2, h3, h4⟩, hx⟩ := h
  refine ⟨⟨mv, fv, rfv', (hu.only ho ?_ ?_ ?_).mono hn, hr', hm', hf', hne, ho.below hB hB.size ?_, h1, h2, h3, h4⟩, (ho.block xb (World.block_lt_of_cell? w ⟨xb, 0, none⟩ hx.c0) hfar).trans hx⟩
  · rintro (e | e)
    · exact bk_ne_rk hu.1 hr e
    · exact bk_ne_now hu.1 hm e
  · intro m e
    rintro (e2 | e2)
    · exact hu.2.1.ne hr.c0 (by rw [e, e2])
    · exact hne (by rw [e, e2])
  · intro p x hc
    rintro (e | e)
    · exact hr.far hf hc e
    · exact now_far hm hc e
  · rintro i (rfl | rfl)
    · exact h2
    · exact h3
theorem RQ.put (h : RQ w0 bb rb rm n D fs D' fs' xb what key s xf w) (hn : n < maxLen) (hk : key.size ≤ maxLen) (hs : s.size ≤ maxLen) :
    Calls Tryd.prog 7 #[.pointer (some ⟨bb, 0, none⟩), .string key, .string s] w fun e w' => e = .returned (errV (putR D fs key s).1) ∧ RQ w0 bb rb rm (n + 1) (putR D fs key s).2.1 (putR D fs key s).2.2 D' fs' xb what key s xf w' := by
  have h' := h
  obtain ⟨⟨mv, fv, rfv, hu, hr, hm, hf, hne, hB, h1, h2, h3, h4⟩, hx⟩ := h'
  refine (put_any bb n D fs mv fv key s w hu hn hk hs).mono ?_
  rintro e w' ⟨rfl, mv', fv', hu', ho, hm'⟩
  exact ⟨rfl, h.own hu hne h4 hu' ho (by omega) hm'⟩
theorem RQ.rput (h : RQ w0 bb rb rm n D fs D' fs' xb what key s xf w) (hn : n < maxLen) (hk : key.size ≤ maxLen) (hs : s.size ≤ maxLen) :
    Calls Tryd.prog 8 #[.pointer (some ⟨rb, 0, none⟩), .string key, .string s] w fun e w' => e = .returned (.int .i64 (putR D' fs' key s).1) ∧ RQ w0 bb rb rm (n + 1) D fs (putR D' fs' key s).2.1 (putR D' fs' key s).2.2 xb what key s xf w' := by
  have h' := h
  obtain ⟨⟨mv, fv, rfv, hu, hr, hm, hf, hne, hB, h1, h2, h3, h4⟩, hx⟩ := h'
  refine (rput_any rb rm n D' fs' rfv key s w hr hm hf hn hk hs).mono ?_
  rintro e w' ⟨rfl, rfv', hr', hm', hf', ho⟩
  exact ⟨rfl, h.other hr' hm' hf' ho (by omega)⟩
theorem RQ.del (h : RQ w0 bb rb rm n D fs D' fs' xb what key s xf w) (hk : key.size ≤ maxLen) :
    Calls Tryd.prog 10 #[.pointer (some ⟨bb, 0, none⟩), .string key] w fun e w' => e = .returned (errV (if Maps.has D (lit key) = true then 0 else 7)) ∧ RQ w0 bb rb rm n (D.del (lit key)) fs D' fs' xb what key s xf w' := by
  have h' := h
  obtain ⟨⟨mv, fv, rfv, hu, hr, hm, hf, hne, hB, h1, h2, h3, h4⟩, hx⟩ := h'
  refine (delete_any bb n D fs mv fv key w hu hk).mono ?_
  rintro e w' ⟨rfl, hu', ho⟩
  exact ⟨rfl, h.own hu hne h4 hu' ho (Nat.le_refl _) (fun k hk => .inl hk)⟩
theorem RQ.faults (h : RQ w0 bb rb rm n D fs D' fs' xb what key s xf w) {F : List Int} (hF : Fs w xf F) (h20 : F.length ≤ 1000) :
    Calls Tryd.prog 14 #[.pointer (some ⟨bb, 0, none⟩), xf] w fun e w' => e = .returned (.tuple #[]) ∧ RQ w0 bb rb rm n D F D' fs' xb what key s xf w' := by
  have h' := h
  obtain ⟨⟨mv, fv, rfv, hu, hr, hm, hf, hne, hB, h1, h2, h3, h4⟩, hx⟩ := h'
  refine (faults_any bb n D fs F mv fv xf w hu hF h20).mono ?_
  rintro e w' ⟨rfl, fv', hu', ho⟩
  exact ⟨rfl, h.own hu hne h4 hu' (ho.mono fun _ _ e => .inl e) (Nat.le_refl _) (fun k hk => .inl hk)⟩
theorem Qs.get (h : Qs w0 bb rb rm n D fs D' fs' w) (k : ByteArray) (hk : k.size ≤ maxLen) : Calls Tryd.prog 9 #[.pointer (some ⟨bb, 0, none⟩), .string k] w (GetPost D k w) := by
  obtain ⟨mv, fv, rfv, hu, _⟩ := h
  exact get_any bb n D mv k w hu.1.c0 hu.2.1 hk
theorem Qs.list (h : Qs w0 bb rb rm n D fs D' fs' w) (hn : n ≤ 1000) (p : ByteArray) : Calls Tryd.prog 12 #[.pointer (some ⟨bb, 0, none⟩), .string p] w (ListPost D p w) := by
  obtain ⟨mv, fv, rfv, hu, _⟩ := h
  exact list_any bb n D mv p w hu.1.c0 hu.2.1 hn
theorem Qs.rlist (h : Qs w0 bb rb rm n D fs D' fs' w) (hn : n ≤ 1000) (p : ByteArray) : Calls Tryd.prog 13 #[.pointer (some ⟨rb, 0, none⟩), .string p] w (ListPost D' p w) := by
  obtain ⟨mv, fv, rfv, hu, hr, hm, _⟩ := h
  exact rlist_any rb rm n D' rfv p w hr hm hn
theorem Qs.bare (h : Qs w0 bb rb rm n D fs D' fs' w) (hg : EtB w0) (x : Int) : Calls Tryd.prog 6 #[errV x, .int .i64 x] w fun e w' => e = .returned (.bool true) ∧ Below w.heap.size w w' := bare_any x w (hg.below h.low)
theorem Qs.now (h : Qs w0 bb rb rm n D fs D' fs' w) : Now w rm n D' := by
  obtain ⟨mv, fv, rfv, hu, hr, hm, _⟩ := h
  exact hm
theorem Qs.r0 (h : Qs w0 bb rb rm n D fs D' fs' w) : w.cell? ⟨rb, 0, none⟩ = some (.map (some rm)) := by
  obtain ⟨mv, fv, rfv, hu, hr, hm, _⟩ := h
  exact hr.c0
theorem Qs.r1 (h : Qs w0 bb rb rm n D fs D' fs' w) : ∃ rfv, w.cell? ⟨rb, 1, none⟩ = some rfv ∧ w.frozen? ⟨rb, 1, none⟩ = false := by
  obtain ⟨mv, fv, rfv, hu, hr, hm, _⟩ := h
  exact ⟨rfv, hr.c1, hr.f 1⟩
theorem Qs.len (h : Qs w0 bb rb rm n D fs D' fs' w) (p : ByteArray) : (listR D p).length ≤ n := by
  obtain ⟨mv, fv, rfv, hu, _⟩ := h
  unfold listR
  rw [List.length_mergeSort]
  refine Nat.le_trans (List.length_filter_le _ _) ?_
  rw [strKeys_len hu.2.1.isMap]
  exact hu.2.1.size_le
/-- A thing is taken out of the document's map. -/
theorem RQ.turn {w' : World} {n' : Nat} {D2 : DataW Unit} (h : RQ w0 bb rb rm n D fs D' fs' xb what key s xf w) (ht : w.mapTurned w' rm) (hm' : Now w' rm n' D2) (hn : n ≤ n') : RQ w0 bb rb rm n' D fs D2 fs' xb what key s xf w' := by
  have h' := h
  obtain ⟨⟨mv, fv, rfv, hu, hr, hm, hf, _⟩, hx⟩ := h'
  have ho : Only (fun k => k = rb ∨ k = rm) w w' := (Only.refl _ w).turned ht (fun _ => .inr rfl)
  refine h.other (hr.keep (ht.grown.block rb hr.lt (fun e => hr.ne hm (Option.some.inj e).symm))) hm' (hf.keep fun p v ⟨x, hx⟩ hc => ho.cell hc ?_) ho hn
  rintro (e | e)
  · exact hr.far hf (hx ▸ hc) e
  · exact now_far hm hc e
/-- The document's faults are others. -/
theorem RQ.setF {w1 : World} {F : List Int} {v : Value} (h : RQ w0 bb rb rm n D fs D' fs' xb what key s xf w) (hb : Below w.heap.size w w1) (hF : Fs w1 v F) (hfar : F ≠ [] → ∀ b off len cap, v = .slice (some ⟨b, off, none⟩) len cap → w.heap.size ≤ b) : RQ w0 bb rb rm n D fs D' F xb what key s xf (w1.setCell ⟨rb, 1, none⟩ v) := by
  have h' := h
  obtain ⟨⟨mv, fv, rfv, hu, hr, hm, hf, _⟩, hx⟩ := h'
  have hr1 : Rk w1 rb rm rfv := hr.keep (hb.block rb hr.lt)
  have hm1 : Now w1 rm n D' := (Only.of_below (S := fun _ => False) hb).map hm (fun h => h)
  have ho : Only (fun k => k = rb ∨ k = rm) w (w1.setCell ⟨rb, 1, none⟩ v) := (Only.of_below (S := fun k => k = rb ∨ k = rm) hb).setCell (p := ⟨rb, 1, none⟩) (fun _ => .inl rfl) v
  refine h.other (hr1.set1 v) (hm1.setCell (hr1.ne hm1) v) ?_ ho (Nat.le_refl _)
  obtain ⟨a, cap, rfl, hc, hl⟩ := hF
  refine ⟨a, cap, rfl, hc, fun hn => ?_⟩
  obtain ⟨b, off, rfl, hcell⟩ := hl hn
  refine ⟨b, off, rfl, fun j x hx => ?_⟩
  have h1 := hfar hn b off _ _ rfl
  have h2 := hr.lt
  rw [World.cell?_setCell_other _ _ _ _ (by intro e; have := congrArg Addr.block e; simp only at this; omega)]
  exact hcell j x hx
end

theorem newB_any (w : World) : Calls Tryd.prog 5 #[] w fun e w' => ∃ rb rm, e = .returned (.pointer (some ⟨rb, 0, none⟩)) ∧ w.heap.size ≤ rb ∧ w.heap.size ≤ rm ∧ Rk w' rb rm (.slice none 0 0) ∧ Now w' rm 0 (.map []) ∧ Below w.heap.size w w' := by
  have hmm := @run_makeMap Tryd.prog
  go_enter Tryd.func5, Tryd.ntmps5
  go_wp2
  go_ret
  refine ⟨w.heap.size + 1, w.heap.size, rfl, by omega, Nat.le_refl _, ?_, (World.ownsMap_made w _ _ _).alloc _, ((Below.refl _ w).alloc (Nat.le_refl _) _).alloc (by simp) _⟩
  have := heap_alloc_new (w.alloc (.map #[] 0)) (.cells #[.map (some w.heap.size), .slice none 0 0] 34)
  unfold Rk
  simpa using this
end Go.Proofs.YtinpapenpinhdaaDoor
