/- What a bucket's own small functions do, said of every call: all, next, lay, Faults. -/
import Derived.Test.YtinpapenpinhdaaDoorD
import Derived.Test.YtinpapenpinhdaaDoorShelf
import Derived.Shelf.SlicesE.Clone
namespace Go.Proofs.YtinpapenpinhdaaDoor
open Go.RowKit Go.Maps

theorem all_any (bb : Nat) (mv : Value) (w : World) (h0 : w.cell? ⟨bb, 0, none⟩ = some mv) :
    Calls Tryd.prog 19 #[.pointer (some ⟨bb, 0, none⟩)] w fun e w' => e = .returned mv ∧ w' = w := by
  go_enter Tryd.func19, Tryd.ntmps19
  go_wp2
  go_ret
  exact ⟨rfl, rfl⟩

theorem next_nil (bb : Nat) (ao : Option Addr) (cap : Nat) (w : World) (h1 : w.cell? ⟨bb, 1, none⟩ = some (.slice ao 0 cap)) :
    Calls Tryd.prog 20 #[.pointer (some ⟨bb, 0, none⟩)] w fun e w' => e = .returned (.int .i64 0) ∧ w' = w := by
  go_enter Tryd.func20, Tryd.ntmps20
  go_wp2
  go_ret
  exact ⟨rfl, rfl⟩
theorem next_some (bb b off n cap : Nat) (x : Int) (w : World) (h1 : w.cell? ⟨bb, 1, none⟩ = some (.slice (some ⟨b, off, none⟩) (n + 1) cap)) (hf : w.frozen? ⟨bb, 1, none⟩ = false) (hn : n + 1 ≤ cap) (hc : w.cell? ⟨b, off, none⟩ = some (.int .i64 x)) :
    Calls Tryd.prog 20 #[.pointer (some ⟨bb, 0, none⟩)] w fun e w' => e = .returned (.int .i64 x) ∧ ∃ a', (n ≠ 0 → a' = some ⟨b, off + 1, none⟩) ∧ w' = w.setCell ⟨bb, 1, none⟩ (.slice a' n (cap - 1)) := by
  go_enter Tryd.func20, Tryd.ntmps20
  go_wp2
  · go_ret
    exact ⟨rfl, some ⟨b, off, none⟩, fun hn0 => by omega, rfl⟩
  · go_ret
    exact ⟨rfl, some ⟨b, off + 1, none⟩, fun _ => rfl, rfl⟩

/-- The blocks that are a bucket's own: itself, and its things. -/
def Own (bb : Nat) (mv : Value) (k : Nat) : Prop := k = bb ∨ mv = .map (some k)
/-- A bucket, its things and its faults. -/
def Bu (w : World) (bb n : Nat) (D : DataW Unit) (fs : List Int) (mv fv : Value) : Prop := Bk w bb mv fv ∧ Th w mv n D ∧ Fs w fv fs
theorem Fs.far {w : World} {bb : Nat} {mv fv : Value} {n : Nat} {D : DataW Unit} {fs : List Int} (hB : Bk w bb mv fv) (hT : Th w mv n D) (hF : Fs w fv fs) {p : Addr} {x : Int} (hc : w.cell? p = some (.int .i64 x)) : p.block ≠ bb := by
  intro e
  unfold Bk at hB
  obtain ⟨a, cap, rfl, _⟩ := hF
  have hmv : ∀ x, mv ≠ .int .i64 x := fun x e2 => by
    rcases hT with ⟨h, _⟩ | ⟨m, h, _⟩ <;> rw [h] at e2 <;> cases e2
  obtain ⟨pb, po, ps⟩ := p
  have hs : ps = none := World.cell?_spot hc
  subst hs
  simp only at e
  subst e
  simp only [World.cell?, hB] at hc
  match po with
  | 0 => simp at hc; exact hmv _ hc
  | 1 => simp at hc
  | k + 2 => simp at hc
theorem next_any (bb n : Nat) (D : DataW Unit) (fs : List Int) (mv fv : Value) (w : World) (hB : Bk w bb mv fv) (hT : Th w mv n D) (hF : Fs w fv fs) :
    Calls Tryd.prog 20 #[.pointer (some ⟨bb, 0, none⟩)] w fun e w' => e = .returned (.int .i64 (fs.headD 0)) ∧ ∃ fv', Bu w' bb n D fs.tail mv fv' ∧ Only (fun k => k = bb) w w' := by
  cases fs with
  | nil =>
    have hF0 := hF
    obtain ⟨a, cap, e, hc, hl⟩ := hF0
    refine (next_nil bb a cap w (e ▸ hB.c1)).mono ?_
    rintro e w' ⟨rfl, rfl⟩
    exact ⟨rfl, fv, ⟨hB, hT, hF⟩, Only.refl _ _⟩
  | cons x fs =>
    have hfar := @Fs.far w bb mv fv n D (x :: fs) hB hT hF
    obtain ⟨a, cap, rfl, hc, hl⟩ := hF
    obtain ⟨b, off, rfl, hcell⟩ := hl (by simp)
    refine (next_some bb b off fs.length cap x w hB.c1 (hB.f 1) hc (by simpa using hcell 0 x rfl)).mono ?_
    rintro e w' ⟨rfl, a', ha', rfl⟩
    refine ⟨rfl, _, ⟨hB.set1 _, hT.keep fun m hm => Below.heap_setCell _ _ _ _ ?_, a', cap - 1, rfl, by simp at hc ⊢; omega, fun hn => ⟨b, off + 1, ha' (by cases fs with | nil => exact absurd rfl hn | cons y l => simp), fun j y hy => ?_⟩⟩, (Only.refl (fun k => k = bb) w).setCell (p := ⟨bb, 1, none⟩) (fun _ => rfl) _⟩
    · intro e
      exact hT.ne (hB.c0) (by rw [hm, e])
    · have h1 := hcell (j + 1) y (by simpa using hy)
      rw [show off + 1 + j = off + (j + 1) by omega, World.cell?_setCell_other _ _ _ _ (by intro e; exact hfar h1 (congrArg Addr.block e).symm)]
      exact h1

theorem eqlmap (w : World) (a : Option Nat) : (binOp .eql 23 (.map a) (.map none)).run Tryd.prog w = .ok (.bool a.isNone) w := by cases a <;> kernel_rfl
set_option maxRecDepth 100000 in
theorem lay_nil (bb : Nat) (fv : Value) (key s : ByteArray) (w : World) (hB : Bk w bb (.map none) fv) (hk : key.size ≤ maxLen) (hs : s.size ≤ maxLen) :
    Calls Tryd.prog 21 #[.pointer (some ⟨bb, 0, none⟩), .string key, .string s] w fun e w' => e = .returned (.tuple #[]) ∧ ∃ m, w.heap.size ≤ m ∧ Bk w' bb (.map (some m)) fv ∧ w'.ownsMap Tryd.prog 9 thingE m 1 (DataW.put (.map []) (lit key) (txt s)) ∧ Only (fun k => k = bb) w w' := by
  have hmm := @run_makeMap Tryd.prog
  have qm := eqlmap
  have c0 := hB.c0
  have f0 := hB.f 0
  have hne : w.heap.size ≠ bb := Nat.ne_of_gt hB.lt
  have hsz : (w.setCell ⟨bb, 0, none⟩ (.map (some w.heap.size))).heap.size = w.heap.size := by simp [World.setCell]
  have HO : Hid (((w.setCell ⟨bb, 0, none⟩ (.map (some w.heap.size))).alloc (.map #[] 0)).ownsMap Tryd.prog 9 thingE w.heap.size 0 (.map [])) := by
    have := World.ownsMap_made (w.setCell ⟨bb, 0, none⟩ (.map (some w.heap.size))) Tryd.prog 9 thingE
    rw [hsz] at this
    exact this
  have HB : Hid (Bk ((w.setCell ⟨bb, 0, none⟩ (.map (some w.heap.size))).alloc (.map #[] 0)) bb (.map (some w.heap.size)) fv) := (hB.set0 _).alloc _
  have HN : Hid (Only (fun k => k = bb) w ((w.setCell ⟨bb, 0, none⟩ (.map (some w.heap.size))).alloc (.map #[] 0))) := ((Only.refl (fun k => k = bb) w).setCell (p := ⟨bb, 0, none⟩) (fun _ => rfl) _).alloc _
  clear hsz
  have hlt := hB.lt
  clear hB hne
  go_enter Tryd.func21, Tryd.ntmps21
  go_wp2_with (first
    | (at_mapUpdate; (refine wpList_mapUpdate_in _ rfl _ _ _ 23 rfl 9 61 law9 Tryd.underlying23 thingE w.heap.size 0 (.map []) rfl HO.out (by decide) _ _ _ rfl rfl (keyOf9 hk) _ [] (thingE_mk hs) ?_); intro w1 hown1 hturn1))
  go_end0
  have hg := hturn1.grown
  exact ⟨rfl, w.heap.size, Nat.le_refl _, HB.out.keep (hg.block bb (HB.out.lt) (by intro e; cases e; omega)), hown1, HN.out.turned hturn1 (fun h => absurd h (Nat.lt_irrefl _))⟩

set_option maxRecDepth 100000 in
theorem lay_some (bb m n : Nat) (D : DataW Unit) (fv : Value) (key s : ByteArray) (w : World) (hB : Bk w bb (.map (some m)) fv) (hm : w.ownsMap Tryd.prog 9 thingE m n D) (hn : n < maxLen) (hk : key.size ≤ maxLen) (hs : s.size ≤ maxLen) :
    Calls Tryd.prog 21 #[.pointer (some ⟨bb, 0, none⟩), .string key, .string s] w fun e w' => e = .returned (.tuple #[]) ∧ w'.ownsMap Tryd.prog 9 thingE m (n + 1) (D.put (lit key) (txt s)) ∧ w.mapTurned w' m := by
  have qm := eqlmap
  have c0 := hB.c0
  have HO : Hid (w.ownsMap Tryd.prog 9 thingE m n D) := hm
  clear hB hm
  go_enter Tryd.func21, Tryd.ntmps21
  go_wp2_with (first
    | (at_mapUpdate; (refine wpList_mapUpdate_in _ rfl _ _ _ 23 rfl 9 61 law9 Tryd.underlying23 thingE m n D rfl HO.out hn _ _ _ rfl rfl (keyOf9 hk) _ [] (thingE_mk hs) ?_); intro w1 hown1 hturn1))
  go_end0
  exact ⟨rfl, hown1, hturn1⟩

theorem lay_any (bb n : Nat) (D : DataW Unit) (fs : List Int) (mv fv : Value) (key s : ByteArray) (w : World) (h : Bu w bb n D fs mv fv) (hn : n < maxLen) (hk : key.size ≤ maxLen) (hs : s.size ≤ maxLen) :
    Calls Tryd.prog 21 #[.pointer (some ⟨bb, 0, none⟩), .string key, .string s] w fun e w' => e = .returned (.tuple #[]) ∧ ∃ mv', Bu w' bb (n + 1) (D.put (lit key) (txt s)) fs mv' fv ∧ Only (Own bb mv) w w' ∧ ∀ k, mv' = .map (some k) → mv = .map (some k) ∨ w.heap.size ≤ k := by
  obtain ⟨hB, hT, hF⟩ := h
  have hfar := @Fs.far w bb mv fv n D fs hB hT hF
  have hTne := @Th.ne w mv n D hT
  have hkeep : ∀ w', Only (Own bb mv) w w' → Fs w' fv fs := fun w' ho => hF.keep fun p v ⟨x, hx⟩ hc => ho.cell hc (by
    rintro (e | e)
    · exact hfar (hx ▸ hc) e
    · exact hTne hc e)
  rcases hT with ⟨rfl, rfl⟩ | ⟨m, rfl, hm⟩
  · refine (lay_nil bb fv key s w hB hk hs).mono ?_
    rintro e w' ⟨rfl, m, hle, hB', hm', ho⟩
    have ho' : Only (Own bb (.map none)) w w' := ho.mono fun _ _ e => .inl e
    exact ⟨rfl, _, ⟨hB', .inr ⟨m, rfl, hm'.mono (by omega)⟩, hkeep _ ho'⟩, ho', fun k hk => .inr (by cases hk; exact hle)⟩
  · refine (lay_some bb m n D fv key s w hB hm hn hk hs).mono ?_
    rintro e w' ⟨rfl, hm', ht⟩
    have ho' : Only (Own bb (.map (some m))) w w' := (Only.refl _ w).turned ht (fun _ => .inr rfl)
    refine ⟨rfl, _, ⟨hB.keep (ht.grown.block bb hB.lt ?_), .inr ⟨m, rfl, hm'⟩, hkeep _ ho'⟩, ho', fun k hk => .inl hk⟩
    intro e
    cases e
    exact hTne hB.c0 rfl

theorem cell_list {w : World} {b off : Nat} {l : List Int} (h : ∀ (j : Nat) x, l[j]? = some x → w.cell? ⟨b, off + j, none⟩ = some (.int .i64 x)) : ∀ (j : Nat) u, (l.map (Value.int .i64))[j]? = some u → w.cell? ⟨b, off + j, none⟩ = some u := by
  intro j u hu
  rw [List.getElem?_map] at hu
  obtain ⟨x, hx, rfl⟩ := Option.map_eq_some_iff.1 hu
  exact h j x hx
/-- A row of numbers that is owned reads as they are. -/
theorem ownsRow_fs {w : World} {base : Nat} {v : Value} {l : List Int} (h : w.ownsRow base 3 1 v l.length (l.map (Value.int .i64))) : Fs w v l := by
  obtain ⟨_, ⟨rfl, h0⟩ | ⟨g, cap, cur, rfl, hg, hh, hc, hm, hs, ht⟩⟩ := h
  · rw [List.length_eq_zero_iff.1 h0]
    exact ⟨_, _, rfl, Nat.le_refl _, fun h => absurd rfl h⟩
  · refine ⟨_, cap, rfl, hc, fun _ => ⟨g, 0, rfl, fun j x hx => ?_⟩⟩
    have h1 : (cur.toList.take (l.length * 1))[j]? = some (.int .i64 x) := by rw [ht, List.getElem?_map, hx]; rfl
    have hj : j < l.length := by
      rcases Nat.lt_or_ge j l.length with h' | h'
      · exact h'
      · rw [List.getElem?_eq_none h'] at hx; cases hx
    rw [List.getElem?_take_of_lt (by omega)] at h1
    simp [World.cell?, hh]
    simpa using h1


set_option maxRecDepth 100000 in
theorem faults_step (bb : Nat) (l mv fv : Value) (w : World) (h : Bk w bb mv fv) (Q : Value → World → Prop)
    (hc : Calls Tryd.prog 30 #[l] w fun e w' => ∃ a n c, e = .returned (.slice a n c) ∧ Below w.heap.size w w' ∧ Q (.slice a n c) w') :
    Calls Tryd.prog 14 #[.pointer (some ⟨bb, 0, none⟩), l] w fun e w' => e = .returned (.tuple #[]) ∧ ∃ v' w1, Q v' w1 ∧ Below w.heap.size w w1 ∧ w' = w1.setCell ⟨bb, 1, none⟩ v' := by
  have H1 : Hid (∀ w1, Below w.heap.size w w1 → Bk w1 bb mv fv) := fun w1 hb => h.keep (hb.block bb h.lt)
  go_enter Tryd.func14, Tryd.ntmps14
  go_wp2_with (first
    | (go_at_call 30; refine hc.mono ?_; rintro e w1 ⟨a, n, c, rfl, hb1, hq⟩; have c1 := (H1.out _ hb1).c1; have f1 := (H1.out _ hb1).f 1))
  go_end0
  exact ⟨rfl, _, w1, hq, hb1, rfl⟩

theorem info3 : (Tryd.prog.info? 3).map (fun i => (i.zero, i.size, i.bytes)) = some (some (.int .i64 0), 1, 8) := by kernel_rfl
set_option maxRecDepth 100000 in
theorem clone_zero (ao : Option Addr) (cap : Nat) (w : World) :
    Calls Tryd.prog 30 #[.slice ao 0 cap] w fun e w' => ∃ a c, e = .returned (.slice a 0 c) ∧ Below w.heap.size w w' := by
  have q22 : ∀ (w : World) (a : Option Addr) (n c n' c' : Nat), (binOp .eql 24 (.slice a n c) (.slice none n' c')).run Tryd.prog w = .ok (.bool a.isNone) w := fun w a n c n' c' => Lib.run_eql_slice_nil w _ _ a n c n' c' Tryd.underlying24
  obtain ⟨i0, hi, hz0, hz1, hz2⟩ := info_parts info3
  cases ao with
  | none =>
    go_enter Tryd.func30, Tryd.ntmps30
    go_wp2
    go_ret
    exact ⟨_, _, rfl, Below.refl _ _⟩
  | some a =>
    go_enter Tryd.func30, Tryd.ntmps30
    go_wp2_with (at_builtin; refine wpList_append_own _ rfl _ _ 24 rfl w.heap.size 3 i0 (.int .i64 0) 1 8 Tryd.underlying24 hi hz0 hz1 hz2 rfl (by decide) _ _ _ rfl (World.ownsRow_made w #[] 0 (Nat.le_refl _) (Nat.zero_le _) (by simp)) a 0 cap [] rfl (by simp) (by simp) (by simp) (by decide) (by decide) (by simp) ?_)
    intro v' w1 hown hgrow hnil
    have hv : ∃ g c, v' = .slice g 0 c := by
      obtain ⟨_, ⟨h1, _⟩ | ⟨g, c, cur, h1, _⟩⟩ := hown
      · exact ⟨_, _, h1⟩
      · exact ⟨_, _, h1⟩
    obtain ⟨g, c, rfl⟩ := hv
    go_wp2
    go_ret
    exact ⟨_, _, rfl, ((Below.refl _ w).alloc (Nat.le_refl _) _).grown hgrow (by simp) (by intro k hk; simp [Value.ownBlock] at hk; omega)⟩
theorem clone_any (lv : Value) (fs : List Int) (w : World) (hF : Fs w lv fs) (h30 : fs.length ≤ 1000) :
    Calls Tryd.prog 30 #[lv] w fun e w' => ∃ a n c, e = .returned (.slice a n c) ∧ Below w.heap.size w w' ∧ Fs w' (.slice a n c) fs ∧ (fs ≠ [] → ∃ g, a = some ⟨g, 0, none⟩ ∧ w.heap.size ≤ g) := by
  obtain ⟨a, cap, rfl, hc, hl⟩ := hF
  cases fs with
  | nil =>
    refine (clone_zero a cap w).mono ?_
    rintro e w' ⟨a', c', rfl, hb⟩
    exact ⟨a', 0, c', rfl, hb, ⟨a', c', rfl, Nat.zero_le _, fun h => absurd rfl h⟩, fun h => absurd rfl h⟩
  | cons x fs =>
    obtain ⟨b, off, rfl, hcell⟩ := hl (by simp)
    obtain ⟨i0, hi, hz0, hz1, hz2⟩ := info_parts info3
    have hcon := AnyE.slices_Clone Tryd.layClone i0 (.int .i64 0) 1 8 hi hz0 hz1 hz2 rfl (by decide) Tryd.sizeOf3 b off (x :: fs).length cap ((x :: fs).map (Value.int .i64)) w (by simp) (by unfold maxLen; omega) (by omega) (cell_list hcell) (by intro u hu; simp only [List.mem_map] at hu; obtain ⟨y, _, rfl⟩ := hu; rfl)
    change Calls Tryd.prog 30 _ _ _ at hcon
    refine hcon.mono ?_
    rintro e w' ⟨v', rfl, hown, hnn, hb⟩
    have hF' := ownsRow_fs hown
    obtain ⟨_, ⟨h1, _⟩ | ⟨g, c, cur, rfl, hg, _⟩⟩ := hown
    · exact absurd h1 hnn
    · exact ⟨_, _, _, rfl, hb, hF', fun _ => ⟨g, rfl, hg⟩⟩

/-- Faults: these are the next ones. -/
theorem faults_any (bb n : Nat) (D : DataW Unit) (fs fs' : List Int) (mv fv lv : Value) (w : World) (h : Bu w bb n D fs mv fv) (hl : Fs w lv fs') (h30 : fs'.length ≤ 1000) :
    Calls Tryd.prog 14 #[.pointer (some ⟨bb, 0, none⟩), lv] w fun e w' => e = .returned (.tuple #[]) ∧ ∃ fv', Bu w' bb n D fs' mv fv' ∧ Only (fun k => k = bb) w w' := by
  obtain ⟨hB, hT, hF⟩ := h
  refine (faults_step bb lv mv fv w hB (fun v w' => Fs w' v fs' ∧ ∀ b off len cap, v = .slice (some ⟨b, off, none⟩) len cap → fs' ≠ [] → w.heap.size ≤ b) ((clone_any lv fs' w hl h30).mono ?_)).mono ?_
  · rintro e w' ⟨a, n, c, rfl, hb, hf, hg⟩
    refine ⟨a, n, c, rfl, hb, hf, fun b off len cap e hn => ?_⟩
    obtain ⟨g, rfl, hle⟩ := hg hn
    cases e
    exact hle
  · rintro e w' ⟨rfl, v', w1, ⟨hf, hg⟩, hb, rfl⟩
    refine ⟨rfl, v', ⟨(hB.keep (hb.block bb hB.lt)).set1 _, ?_, ?_⟩, (Only.of_below (S := fun k => k = bb) hb).setCell (p := ⟨bb, 1, none⟩) (fun _ => rfl) _⟩
    · refine hT.keep fun m hm => ?_
      rw [Below.heap_setCell _ _ _ _ (by intro e; exact hT.ne hB.c0 (by rw [hm, e]))]
      exact hb.block m (hT.lt hm)
    · obtain ⟨a, cap, rfl, hc, hl⟩ := hf
      refine ⟨a, cap, rfl, hc, fun hn => ?_⟩
      obtain ⟨b, off, rfl, hcell⟩ := hl hn
      refine ⟨b, off, rfl, fun j x hx => ?_⟩
      have := hg b off _ _ rfl hn
      have := hB.lt
      rw [World.cell?_setCell_other _ _ _ _ (by intro e; have := congrArg Addr.block e; simp only at this; omega)]
      exact hcell j x hx
end Go.Proofs.YtinpapenpinhdaaDoor
