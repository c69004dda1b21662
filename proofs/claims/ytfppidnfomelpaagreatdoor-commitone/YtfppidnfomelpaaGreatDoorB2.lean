/- What log.copied does, said of every call: the mathematics of its memory. -/
import Derived.Test.YtfppidnfomelpaaGreatDoorA9
namespace Go.Proofs.YtfppidnfomelpaaGreatDoor
open Go.RowKit Go.Proofs Go.Lib Go.Joins

def DoesL (s : Snap) (a : Actn) (t : Snap) : Prop := Does nameB colB fitB s a t
def DoPost (base b : Nat) (w : World) (s : Snap) (a : Actn) (e : Ending) (w' : World) : Prop :=
  ∃ c : Int, e = .returned (.int .i64 c) ∧ Below base w w' ∧ ((c = 0 ∧ ∃ t, DoesL s a t ∧ SnapAt base b w' t) ∨ (c ≠ 0 ∧ ∀ t, ¬ DoesL s a t))
theorem DoPost.of {base b : Nat} {w w0 w' : World} {s : Snap} {a : Actn} {ok : Prop} {t : Snap} {e : Ending} (h : StPost base b w0 ok t e w') (hb : Below base w w0) (h1 : ok → DoesL s a t) (h2 : ∀ u, DoesL s a u → ok) : ∃ c : Int, e = .returned (.int .i64 c) ∧ DoPost base b w s a (.returned (.int .i64 c)) w' := by
  obtain ⟨c, rfl, hb', hh⟩ := h
  refine ⟨c, rfl, c, rfl, hb.trans hb', ?_⟩
  rcases hh with ⟨h0, hok, hs⟩ | ⟨h0, hok⟩
  · exact .inl ⟨h0, t, h1 hok, hs⟩
  · exact .inr ⟨h0, fun u hu => hok (h2 u hu)⟩

/-- What is known of an action's parts in memory. -/
structure ActAt (W : World) (a : Actn) (ma : Option Addr) (mn mc : Nat) (ca : Option Addr) (cn cc : Nat) : Prop where
  mask : LiI W (.slice ma mn mc) a.2.2.2.1
  cols : LiC W (.slice ca cn cc) a.2.2.2.2.1
  path : a.2.1.size ≤ maxLen
  few : a.2.2.2.1.length ≤ 600000
  texts : ∀ x ∈ a.2.2.2.2.1, x.2.1.size ≤ maxLen ∧ x.2.2.2.2.2.2.size ≤ maxLen
theorem ActAt.below {w W : World} {a : Actn} {ma : Option Addr} {mn mc : Nat} {ca : Option Addr} {cn cc : Nat} (h : ActAt w a ma mn mc ca cn cc) (hb : Below w.heap.size w W) : ActAt W a ma mn mc ca cn cc :=
  ⟨h.mask.below hb, h.cols.below hb, h.path, h.few, h.texts⟩

set_option maxHeartbeats 4000000 in
set_option maxRecDepth 100000 in
theorem do_any (base b : Nat) (s : Snap) (k : Int) (p : ByteArray) (r : Int) (m : List Int) (cl : List Col) (nx : Int) (ma : Option Addr) (mn mc : Nat) (ca : Option Addr) (cn cc : Nat) (w : World) (h : SnapAt base b w s)
    (ha : ActAt w (k, p, r, m, cl, nx) ma mn mc ca cn cc) (hw : NcB w) (hg : Good colB fitB s) :
    Calls Tryz.prog 42 #[.pointer (some ⟨b, 0, none⟩), .agg #[.int .i64 k, .string p, .int .i64 r, .slice ma mn mc, .slice ca cn cc, .int .i64 nx]] w (DoPost base b w s (k, p, r, m, cl, nx)) := by
  have HB0 : Hid (Below w.heap.size w (w.alloc (.cells #[.int .i64 k, .string p, .int .i64 r, .slice ma mn mc, .slice ca cn cc, .int .i64 nx] 62))) := (Below.refl _ _).alloc (Nat.le_refl _) _
  obtain ⟨cv, fv, L, hI⟩ := h
  have hbase := hI.size
  have h0 : SnapAt base b (w.alloc (.cells #[.int .i64 k, .string p, .int .i64 r, .slice ma mn mc, .slice ca cn cc, .int .i64 nx] 62)) s := ⟨cv, fv, L, hI.up HB0.out⟩
  have ha0 := ha.below HB0.out
  have hw0 := hw.below HB0.out
  have hb0 : Below base w (w.alloc (.cells #[.int .i64 k, .string p, .int .i64 r, .slice ma mn mc, .slice ca cn cc, .int .i64 nx] 62)) := HB0.out.mono hbase
  have H1 := mkH (add_any base b s k p r m cl nx ma mn mc ca cn cc _ h0 ha0.path hg.few)
  have H2 := mkH (remove_any base b s k p r m cl nx ma mn mc ca cn cc _ h0 hg.few)
  have H3 := mkH (mask_any base b s k p r m cl nx ma mn mc ca cn cc _ h0 ha0.mask ha0.few (fun e he => good_mask_len hg he))
  have H4 := mkH (change_any base b s k p r m cl nx ma mn mc ca cn cc _ h0 ha0.cols ha0.texts hw0)
  have HBB := mkH hb0
  clear h0 ha0 hw0 hb0 ha hw hg hI
  by_cases k1 : k = 1
  · subst k1
    have HP : Hid (∀ e w', StPost base b _ _ _ e w' → _) := fun e w' hh => DoPost.of (s := s) (a := (1, p, r, m, cl, nx)) (ok := addOk nameB s (1, p, r, m, cl, nx)) (t := addS s (1, p, r, m, cl, nx)) hh HBB.out (fun ok => .inl ⟨rfl, ok, rfl⟩) (fun u hu => by
      rcases hu with ⟨_, h, _⟩ | ⟨e, _⟩ | ⟨e, _⟩ | ⟨e, _⟩
      · exact h
      all_goals simp at e)
    clear H2 H3 H4
    go_enter Tryz.func42, Tryz.ntmps42
    go_wp2_with (go_at_call 72; refine H1.out.mono ?_; intro e w1 hh; obtain ⟨c, rfl, hp⟩ := HP.out _ _ hh; have HPP := mkH hp; clear hh hp)
    go_ret
    exact HPP.out
  · by_cases k2 : k = 2
    · subst k2
      have HP : Hid (∀ e w', StPost base b _ _ _ e w' → _) := fun e w' hh => DoPost.of (s := s) (a := (2, p, r, m, cl, nx)) (ok := 0 ≤ whereF s.files p) (t := remS s (2, p, r, m, cl, nx)) hh HBB.out (fun ok => .inr (.inl ⟨rfl, ok, rfl⟩)) (fun u hu => by
        rcases hu with ⟨e, _⟩ | ⟨_, h, _⟩ | ⟨e, _⟩ | ⟨e, _⟩
        · simp at e
        · exact h
        all_goals simp at e)
      clear H1 H3 H4
      go_enter Tryz.func42, Tryz.ntmps42
      go_wp2_with (go_at_call 73; refine H2.out.mono ?_; intro e w1 hh; obtain ⟨c, rfl, hp⟩ := HP.out _ _ hh; have HPP := mkH hp; clear hh hp)
      go_ret
      exact HPP.out
    · by_cases k3 : k = 3
      · subst k3
        have HP : Hid (∀ e w', StPost base b _ _ _ e w' → _) := fun e w' hh => DoPost.of (s := s) (a := (3, p, r, m, cl, nx)) (ok := mskOk s (3, p, r, m, cl, nx)) (t := mskS s (3, p, r, m, cl, nx)) hh HBB.out (fun ok => .inr (.inr (.inl ⟨rfl, ok, rfl⟩))) (fun u hu => by
          rcases hu with ⟨e, _⟩ | ⟨e, _⟩ | ⟨_, h, _⟩ | ⟨e, _⟩
          · simp at e
          · simp at e
          · exact h
          · simp at e)
        clear H1 H2 H4
        go_enter Tryz.func42, Tryz.ntmps42
        go_wp2_with (go_at_call 74; refine H3.out.mono ?_; intro e w1 hh; obtain ⟨c, rfl, hp⟩ := HP.out _ _ hh; have HPP := mkH hp; clear hh hp)
        go_ret
        exact HPP.out
      · by_cases k4 : k = 4
        · subst k4
          have HP : Hid (∀ e w', StPost base b _ _ _ e w' → _) := fun e w' hh => DoPost.of (s := s) (a := (4, p, r, m, cl, nx)) (ok := schOk colB fitB s (4, p, r, m, cl, nx)) (t := schS s (4, p, r, m, cl, nx)) hh HBB.out (fun ok => .inr (.inr (.inr ⟨rfl, ok, rfl⟩))) (fun u hu => by
            rcases hu with ⟨e, _⟩ | ⟨e, _⟩ | ⟨e, _⟩ | ⟨_, h, _⟩
            · simp at e
            · simp at e
            · simp at e
            · exact h)
          clear H1 H2 H3
          go_enter Tryz.func42, Tryz.ntmps42
          go_wp2_with (go_at_call 75; refine H4.out.mono ?_; intro e w1 hh; obtain ⟨c, rfl, hp⟩ := HP.out _ _ hh; have HPP := mkH hp; clear hh hp)
          go_ret
          exact HPP.out
        · have HN : Hid (∀ t, ¬ DoesL s (k, p, r, m, cl, nx) t) := fun t hu => by
            rcases hu with ⟨e, _⟩ | ⟨e, _⟩ | ⟨e, _⟩ | ⟨e, _⟩
            · exact k1 e
            · exact k2 e
            · exact k3 e
            · exact k4 e
          clear H1 H2 H3 H4
          go_enter Tryz.func42, Tryz.ntmps42
          go_wp2
          go_ret
          exact ⟨1, rfl, HBB.out, .inr ⟨by decide, HN.out⟩⟩
end Go.Proofs.YtfppidnfomelpaaGreatDoor

namespace Go.Proofs.YtfppidnfomelpaaGreatDoor
open Go.RowKit Go.Proofs Go.Lib Go.Joins

theorem clone_own {e : Nat} {z by' : Nat} {F : Nat} {zv : Value} {ρ : Go.Shelf.Ren} (hL : SlLaysE0.n41 Tryz.prog ρ) (hF : ρ.f 41 = F) (hE : ρ.t 23 = e) (hinfo : (Tryz.prog.info? e).map (fun i => (i.zero, i.size, i.bytes)) = some (some zv, z, by')) (hzc : zv.cells.size = z) (hz0 : 0 < z) (hby : by' ≤ 1000) (hso : ∀ w, (Go.sizeOf e).run Tryz.prog w = .ok z w)
    (base : Nat) (v : Value) (n : Nat) (xs : List Value) (w : World) (h : w.ownsRow base e z v n xs) (h1 : ∀ u ∈ xs, u.oneCell' = true) (hn : n ≤ 1000) :
    Calls Tryz.prog F #[v] w fun en w' => ∃ a c, en = .returned (.slice a n c) ∧ w'.ownsRow w.heap.size e z (.slice a n c) n xs ∧ Below w.heap.size w w' := by
  subst hF hE
  rcases own_forms h with ⟨e1, e0⟩ | ⟨g, c, e1, _, hg, hc1, hc2⟩
  · subst e1 e0
    refine (AnyE.slices_Clone_nil hL 0 0 w).mono ?_
    rintro en w' ⟨rfl, rfl⟩
    refine ⟨none, 0, rfl, ?_, Below.refl _ _⟩
    have := h.1
    rw [Nat.zero_mul] at this
    rw [List.length_eq_zero_iff.1 this]
    exact World.ownsRow_nil _ _ _ _
  · subst e1
    obtain ⟨i0, hi0, hz0', hz1, hz2⟩ := info_parts hinfo
    refine (AnyE.slices_Clone hL i0 zv z by' hi0 hz0' hz1 hz2 hzc hz0 hso g 0 n c xs w h.1 (by unfold maxLen; omega) (by have := Nat.mul_le_mul hn hby; omega) (fun j u hj => ?_) h1).mono ?_
    · have hjl : j < n * z := by
        rcases Nat.lt_or_ge j xs.length with hh | hh
        · rw [h.1] at hh; exact hh
        · rw [List.getElem?_eq_none hh] at hj; cases hj
      rw [Nat.zero_add, h.cellAt j hjl]; exact hj
    · rintro en w' ⟨v', rfl, ho, _, hb⟩
      obtain ⟨a, c', rfl, _⟩ := own_slice ho
      exact ⟨a, c', rfl, ho, hb⟩

theorem cloneC_own (base : Nat) (v : Value) (n : Nat) (l : List Col) (w : World) (h : w.ownsRow base 67 7 v n (cellsC l)) (hn : n ≤ 1000) :
    Calls Tryz.prog 70 #[v] w fun en w' => ∃ a c, en = .returned (.slice a n c) ∧ w'.ownsRow w.heap.size 67 7 (.slice a n c) n (cellsC l) ∧ Below w.heap.size w w' :=
  clone_own Tryz.layClo rfl rfl info54 rfl (by decide) (by decide) Tryz.sizeOf67 base v n _ w h (cellsC_one l) hn
theorem cloneE_own (base : Nat) (v : Value) (n : Nat) (l : List EntV) (w : World) (h : w.ownsRow base 70 3 v n (cellsX l)) (hn : n ≤ 1000) :
    Calls Tryz.prog 71 #[v] w fun en w' => ∃ a c, en = .returned (.slice a n c) ∧ w'.ownsRow w.heap.size 70 3 (.slice a n c) n (cellsX l) ∧ Below w.heap.size w w' :=
  clone_own Tryz.layCloneE rfl rfl infoE rfl (by decide) (by decide) Tryz.sizeOf70 base v n _ w h (cellsX_one l) hn
theorem cloneI_own (base : Nat) (v : Value) (n : Nat) (l : List Int) (w : World) (h : w.ownsRow base 3 1 v n (l.map (.int .i64))) (hn : n ≤ 1000) :
    Calls Tryz.prog 30 #[v] w fun en w' => ∃ a c, en = .returned (.slice a n c) ∧ w'.ownsRow w.heap.size 3 1 (.slice a n c) n (l.map (.int .i64)) ∧ Below w.heap.size w w' :=
  clone_own Tryz.layCloneI rfl rfl infoI rfl (by decide) (by decide) Tryz.sizeOf3 base v n _ w h (by intro u hu; obtain ⟨y, _, rfl⟩ := List.mem_map.1 hu; rfl) hn

/-- A table lies where its two slices say. -/
structure SnapV (W : World) (s : Snap) (cv fv : Value) (L : List EntV) : Prop where
  cols : W.ownsRow 0 67 7 cv s.cols.length (cellsC s.cols)
  files : s.files = L.map (·.1)
  row : W.ownsRow 0 70 3 fv L.length (cellsX L)
  masks : ∀ x ∈ L, W.ownsRow 0 3 1 (sv x.2) x.1.2.2.length (x.1.2.2.map (.int .i64))
theorem SnapV.up {w W : World} {s : Snap} {cv fv : Value} {L : List EntV} (h : SnapV w s cv fv L) (hb : Below w.heap.size w W) : SnapV W s cv fv L :=
  ⟨own_up h.cols hb, h.files, own_up h.row hb, fun x hx => own_up (h.masks x hx) hb⟩
theorem SnapI.value {base b : Nat} {W : World} {s : Snap} {cv fv : Value} {L : List EntV} (h : SnapI base b W s cv fv L) : SnapV W s cv fv L :=
  ⟨own_base h.cols (Nat.zero_le _), h.files, own_base h.row (Nat.zero_le _), fun x hx => own_base (h.masks x hx) (Nat.zero_le _)⟩
theorem snapV_zero (W : World) : SnapV W zeroS (.slice none 0 0) (.slice none 0 0) [] :=
  ⟨World.ownsRow_nil _ _ _ _, rfl, World.ownsRow_nil _ _ _ _, fun x hx => by cases hx⟩

/-- Half way through the copy. -/
structure Cop (w wr : World) (s : Snap) (L : List EntV) (cv fv : Value) (k : Nat) (L' : List EntV) : Prop where
  b1 : wr.heap[w.heap.size]? = some (.cells #[.int .i64 s.ver, cv, .int .i64 s.next, fv] 47 (0, 0))
  b2 : wr.heap[w.heap.size + 1]? = some (.cells #[.int .i64 0, .slice none 0 0, .int .i64 0, .slice none 0 0] 47 (0, 0))
  cols : wr.ownsRow (w.heap.size + 2) 67 7 cv s.cols.length (cellsC s.cols)
  len : L'.length = L.length
  ents : L'.map (·.1) = L.map (·.1)
  row : wr.ownsRow (w.heap.size + 2) 70 3 fv L.length (cellsX L')
  did : ∀ j, j < k → wr.ownsRow (w.heap.size + 2) 3 1 (sv L'[j]!.2) L'[j]!.1.2.2.length (L'[j]!.1.2.2.map (.int .i64))
  left : ∀ j, k ≤ j → j < L.length → L'[j]! = L[j]!
  apart : ∀ i j, i < j → j < k → ∀ q, (sv L'[i]!.2).ownBlock = some q → (sv L'[j]!.2).ownBlock ≠ some q
  low : Below w.heap.size w wr
  size : w.heap.size + 2 ≤ wr.heap.size

theorem getX_set {l : List EntV} {k j : Nat} {c : EntV} (hk : k < l.length) : (l.set k c)[j]! = if j = k then c else l[j]! := by
  by_cases e : j = k
  · subst e; simp [hk]
  · have e' : ¬ k = j := fun x => e x.symm
    simp [List.getElem!_eq_getElem?_getD, e, e']

theorem Cop.next {w wr w4 : World} {s : Snap} {L L' : List EntV} {cv : Value} {g n c k : Nat} (h : Cop w wr s L cv (.slice (some ⟨g, 0, none⟩) n c) k L') (hk : k < L.length) (hb : Below wr.heap.size wr w4) (v : Sv)
    (hv : w4.ownsRow wr.heap.size 3 1 (sv v) L[k]!.1.2.2.length (L[k]!.1.2.2.map (.int .i64))) : Cop w (w4.setCell ⟨g, k * 3 + 2, none⟩ (sv v)) s L cv (.slice (some ⟨g, 0, none⟩) n c) (k + 1) (L'.set k (L'[k]!.1, v)) := by
  have hk' : k < L'.length := by rw [h.len]; exact hk
  have hsz := h.size
  have hn : n = L.length := by
    rcases own_forms h.row with ⟨e, _⟩ | ⟨_, _, e, _⟩
    · cases e
    · cases e; rfl
  subst hn
  have hgl := h.row.lt g rfl
  have hgs := grown_setC w4 g (k * 3 + 2) (sv v)
  have hrow := own_up h.row hb
  have hcols := own_up h.cols hb
  have hst := (hrow.stored (k * 3 + 2) (sv v)).1
  rw [cellsX_set v L' k hk'] at hst
  have hgb : (Value.slice (some ⟨g, 0, none⟩) L.length c).ownBlock = some g := rfl
  have hbk := h.left k (Nat.le_refl _) hk
  have hB1 := (hb.block w.heap.size (by omega)).trans h.b1
  have hB2 := (hb.block (w.heap.size + 1) (by omega)).trans h.b2
  refine ⟨?_, ?_, ?_, ?_, ?_, hst, ?_, ?_, ?_, ?_, ?_⟩
  · exact (hgs.block _ (blk_lt hB1) (fun e => by injection e with e; omega)).trans hB1
  · exact (hgs.block _ (blk_lt hB2) (fun e => by injection e with e; omega)).trans hB2
  · exact own_keep hcols hgs (fun q hq e => own_ne hcols hrow (by decide) q hq (by rw [hgb]; exact e))
  · rw [List.length_set]; exact h.len
  · rw [List.map_set, ← h.ents]
    apply List.ext_getElem
    · simp
    · intro i h1 h2
      rw [List.getElem_set]
      split
      · rename_i e; subst e; rw [List.getElem_map, getElem!_pos L' k hk']
      · rfl
  · intro j hj
    rw [getX_set hk']
    split
    · rename_i e
      have e2 : (L'[k]!.1, v).1 = L[k]!.1 := by rw [hbk]
      rw [e2]
      exact own_base (own_keep hv hgs (fun q hq e => own_ne hv hrow (by decide) q hq (by rw [hgb]; exact e))) hsz
    · rename_i e
      have h1 := own_up (h.did j (by omega)) hb
      exact own_keep h1 hgs (fun q hq e => own_ne h1 hrow (by decide) q hq (by rw [hgb]; exact e))
  · intro j hj hjl
    rw [getX_set hk', if_neg (by omega)]
    exact h.left j (by omega) hjl
  · intro i j hij hj q hq
    rw [getX_set hk', if_neg (by omega)] at hq
    rw [getX_set hk']
    split
    · intro hq'
      have h1 := ((h.did i (by omega)).lt q hq).2
      have h2 := (hv.lt q hq').1
      omega
    · exact h.apart i j hij (by omega) q hq
  · exact (h.low.trans (hb.mono h.low.size)).setCell (p := ⟨g, k * 3 + 2, none⟩) (by show w.heap.size ≤ g; omega) _
  · have := hb.size; have := hgs.size; omega

/-- The copy, whole. -/
structure SnapO (base : Nat) (W : World) (s : Snap) (cv fv : Value) (L : List EntV) : Prop where
  cols : W.ownsRow base 67 7 cv s.cols.length (cellsC s.cols)
  files : s.files = L.map (·.1)
  row : W.ownsRow base 70 3 fv L.length (cellsX L)
  masks : ∀ x ∈ L, W.ownsRow base 3 1 (sv x.2) x.1.2.2.length (x.1.2.2.map (.int .i64))
  apart : L.Pairwise (fun x y => ∀ k, (sv x.2).ownBlock = some k → (sv y.2).ownBlock ≠ some k)
theorem Cop.whole {w wr : World} {s : Snap} {L L' : List EntV} {cv fv : Value} (h : Cop w wr s L cv fv L.length L') (hf : s.files = L.map (·.1)) {W : World} (hg : wr.grownBy W (some (w.heap.size + 1))) : SnapO w.heap.size W s cv fv L' := by
  have keep : ∀ {e z : Nat} {v : Value} {n : Nat} {xs : List Value}, wr.ownsRow (w.heap.size + 2) e z v n xs → W.ownsRow w.heap.size e z v n xs := fun ho =>
    own_base (own_keep ho hg (fun q hq e => by have := (ho.lt q hq).1; injection e with e; omega)) (by omega)
  refine ⟨keep h.cols, by rw [hf, h.ents], by rw [h.len]; exact keep h.row, ?_, ?_⟩
  · intro x hx
    obtain ⟨j, hj, rfl⟩ := List.getElem_of_mem hx
    have := h.did j (by rw [← h.len]; exact hj)
    rw [getElem!_pos L' j hj] at this
    exact keep this
  · rw [List.pairwise_iff_getElem]
    intro i j hi hj hij q hq
    have := h.apart i j hij (by rw [← h.len]; exact hj) q
    rw [getElem!_pos L' i hi, getElem!_pos L' j hj] at this
    exact this hq
theorem SnapO.box {base b : Nat} {w W : World} {s : Snap} {cv fv : Value} {L : List EntV} (h : SnapO base w s cv fv L) (hb : Below w.heap.size w W) (hlow : base ≤ b) (hbox : W.heap[b]? = some (.cells #[.int .i64 s.ver, cv, .int .i64 s.next, fv] 47 (0, 0))) : SnapI base b W s cv fv L :=
  ⟨hbox, hlow, own_up h.cols hb, h.files, own_up h.row hb, fun x hx => own_up (h.masks x hx) hb, h.apart⟩
end Go.Proofs.YtfppidnfomelpaaGreatDoor
