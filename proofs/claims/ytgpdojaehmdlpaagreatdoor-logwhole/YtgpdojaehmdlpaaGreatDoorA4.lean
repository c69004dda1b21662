/- How a table lies in memory; what log.where, log.rightFile, log.add and log.remove do, said of every call. -/
import Derived.Test.YtgpdojaehmdlpaaGreatDoorA3
import Derived.Deep.AppendLies
namespace Go.Proofs.YtgpdojaehmdlpaaGreatDoor
open Go.RowKit Go.Proofs Go.Lib Go.Joins

section
variable {w W : World} {base base' : Nat} {e e' : TypeId} {z z' : Nat} {v v' : Value} {n n' : Nat} {xs xs' : List Value}
theorem blk_lt {w : World} {g : Nat} {o : Obj} (h : w.heap[g]? = some o) : g < w.heap.size := by
  rcases Nat.lt_or_ge g w.heap.size with hlt | hge
  · exact hlt
  · rw [Array.getElem?_eq_none hge] at h; cases h
theorem own_up (h : w.ownsRow base e z v n xs) (hb : Below w.heap.size w W) : W.ownsRow base e z v n xs := by
  refine ⟨h.1, ?_⟩
  rcases h.2 with h | ⟨g, c, cur, hv, hb', hg, hr⟩
  · exact .inl h
  · exact .inr ⟨g, c, cur, hv, hb', (hb.block g (blk_lt hg)).trans hg, hr⟩
theorem own_keep {row : Option Nat} (h : w.ownsRow base e z v n xs) (hg : w.grownBy W row) (hne : ∀ k, v.ownBlock = some k → row ≠ some k) : W.ownsRow base e z v n xs := by
  refine ⟨h.1, ?_⟩
  rcases h.2 with h | ⟨g, c, cur, hv, hb', hh, hr⟩
  · exact .inl h
  · exact .inr ⟨g, c, cur, hv, hb', (hg.block g (blk_lt hh) (fun x => hne g (by rw [hv]; rfl) x.symm)).trans hh, hr⟩
theorem own_base (h : w.ownsRow base e z v n xs) (hb : base' ≤ base) : w.ownsRow base' e z v n xs := by
  refine ⟨h.1, ?_⟩
  rcases h.2 with h | ⟨g, c, cur, hv, hb', hr⟩
  · exact .inl h
  · exact .inr ⟨g, c, cur, hv, by omega, hr⟩
theorem own_at (h : w.ownsRow base e z v n xs) {k : Nat} (hk : v.ownBlock = some k) : ∃ cur, w.heap[k]? = some (.cells cur e (0, 0)) := by
  rcases h.2 with ⟨h, _⟩ | ⟨g, c, cur, hv, _, hg, _⟩
  · rw [h] at hk; cases hk
  · rw [hv] at hk; cases hk; exact ⟨cur, hg⟩
theorem own_ne (h : w.ownsRow base e z v n xs) (h' : w.ownsRow base' e' z' v' n' xs') (hne : e ≠ e') : ∀ k, v.ownBlock = some k → v'.ownBlock ≠ some k := by
  intro k hk hk'
  obtain ⟨c1, h1⟩ := own_at h hk
  obtain ⟨c2, h2⟩ := own_at h' hk'
  rw [h1] at h2
  injection h2 with h2
  injection h2 with _ h2
  exact hne h2
theorem own_box (h : w.ownsRow base e z v n xs) {b : Nat} {cur : Array Value} {t : TypeId} (hb : w.heap[b]? = some (.cells cur t (0, 0))) (hne : e ≠ t) : v.ownBlock ≠ some b := by
  intro hk
  obtain ⟨c1, h1⟩ := own_at h hk
  rw [hb] at h1
  injection h1 with h1
  injection h1 with _ h1
  exact hne h1.symm
theorem own_slice (h : w.ownsRow base e z v n xs) : ∃ a c, v = .slice a n c ∧ n ≤ c := by
  rcases own_forms h with ⟨h1, h2⟩ | ⟨g, c, h1, _, _, h2, _⟩
  · subst h2; exact ⟨none, 0, h1, Nat.le_refl _⟩
  · exact ⟨_, c, h1, h2⟩
theorem own_one (h : w.ownsRow base e z v n xs) : v.oneCell' = true := by
  obtain ⟨a, c, h1, _⟩ := own_slice h
  rw [h1]; rfl
theorem grown_setC (w : World) (b i : Nat) (u : Value) : w.grownBy (w.setCell ⟨b, i, none⟩ u) (some b) :=
  ⟨rfl, rfl, rfl, by simp [World.setCell], fun k _ hk => Below.heap_setCell _ _ _ _ (fun e => hk (by rw [e]))⟩
theorem heap_setC (w : World) (b i : Nat) (cs : Array Value) (t : TypeId) (u : Value) (h : w.heap[b]? = some (.cells cs t (0, 0))) : (w.setCell ⟨b, i, none⟩ u).heap[b]? = some (.cells (cs.setIfInBounds i u) t (0, 0)) := by
  simp only [World.setCell]
  rw [Array.getElem?_modify]
  simp [h]
end

/-- A table lies in block b, its files and masks in memory from base on. -/
structure SnapI (base b : Nat) (W : World) (s : Snap) (cv fv : Value) (L : List EntV) : Prop where
  box : W.heap[b]? = some (.cells #[.int .i64 s.ver, cv, .int .i64 s.next, fv] 41 (0, 0))
  low : base ≤ b
  cols : W.ownsRow base 80 7 cv s.cols.length (cellsC s.cols)
  files : s.files = L.map (·.1)
  row : W.ownsRow base 53 3 fv L.length (cellsX L)
  masks : ∀ x ∈ L, W.ownsRow base 3 1 (sv x.2) x.1.2.2.length (x.1.2.2.map (.int .i64))
  apart : L.Pairwise (fun x y => ∀ k, (sv x.2).ownBlock = some k → (sv y.2).ownBlock ≠ some k)
def SnapAt (base b : Nat) (W : World) (s : Snap) : Prop := ∃ cv fv L, SnapI base b W s cv fv L
theorem SnapI.up {base b : Nat} {w W : World} {s : Snap} {cv fv : Value} {L : List EntV} (h : SnapI base b w s cv fv L) (hb : Below w.heap.size w W) : SnapI base b W s cv fv L :=
  ⟨(hb.block b (blk_lt h.box)).trans h.box, h.low, own_up h.cols hb, h.files, own_up h.row hb, fun x hx => own_up (h.masks x hx) hb, h.apart⟩
theorem SnapI.cells {base b : Nat} {w : World} {s : Snap} {cv fv : Value} {L : List EntV} (h : SnapI base b w s cv fv L) :
    w.cell? ⟨b, 0, none⟩ = some (.int .i64 s.ver) ∧ w.cell? ⟨b, 1, none⟩ = some cv ∧ w.cell? ⟨b, 2, none⟩ = some (.int .i64 s.next) ∧ w.cell? ⟨b, 3, none⟩ = some fv ∧ ∀ i, w.frozen? ⟨b, i, none⟩ = false := by
  have := h.box
  refine ⟨?_, ?_, ?_, ?_, fun i => ?_⟩ <;> simp [World.cell?, World.frozen?, this]
theorem SnapI.len {base b : Nat} {w : World} {s : Snap} {cv fv : Value} {L : List EntV} (h : SnapI base b w s cv fv L) : s.files.length = L.length := by rw [h.files]; simp
/-- Another list of files. -/
theorem SnapI.put {base b : Nat} {w W : World} {s : Snap} {cv fv fv' : Value} {L : List EntV} (h : SnapI base b w s cv fv L) (t : Snap) (L' : List EntV) (hg : w.grownBy W fv.ownBlock) (hr : W.ownsRow base 53 3 fv' L'.length (cellsX L')) (hv : t.ver = s.ver) (hc : t.cols = s.cols) (hn : t.next = s.next) (hf : t.files = L'.map (·.1))
    (hm : ∀ x ∈ L', W.ownsRow base 3 1 (sv x.2) x.1.2.2.length (x.1.2.2.map (.int .i64))) (ha : L'.Pairwise (fun x y => ∀ k, (sv x.2).ownBlock = some k → (sv y.2).ownBlock ≠ some k)) : SnapI base b (W.setCell ⟨b, 3, none⟩ fv') t cv fv' L' := by
  have hb : W.heap[b]? = some (.cells #[.int .i64 s.ver, cv, .int .i64 s.next, fv] 41 (0, 0)) := (hg.block b (blk_lt h.box) (fun e => own_box h.row h.box (by decide) e.symm)).trans h.box
  have hs := grown_setC W b 3 fv'
  refine ⟨?_, h.low, ?_, hf, ?_, ?_, ha⟩
  · rw [heap_setC W b 3 _ _ fv' hb, hv, hn]; rfl
  · rw [hc]
    have h1 := own_keep h.cols hg (fun k hk e => own_ne h.cols h.row (by decide) k hk e)
    exact own_keep h1 hs (fun k hk e => own_box h1 hb (by decide) (by rw [hk]; exact e.symm))
  · exact own_keep hr hs (fun k hk e => own_box hr hb (by decide) (by rw [hk]; exact e.symm))
  · exact fun x hx => own_keep (hm x hx) hs (fun k hk e => own_box (hm x hx) hb (by decide) (by rw [hk]; exact e.symm))

/-! where -/
theorem where1_any (nm : ByteArray) (B : Nat) (w : World) (hB : B < w.heap.size) (hcell : w.cell? ⟨B, 0, none⟩ = some (.string nm)) :
    PredBelow Tryz.prog 126 #[.pointer (some ⟨B, 0, none⟩)] (fun x : EntV => .agg (encX x).toArray) (fun x => x.1.1.toList == nm.toList) w := fun W x hb => by
  have hc : W.cell? ⟨B, 0, none⟩ = some (.string nm) := (hb.cell (p := ⟨B, 0, none⟩) hB).trans hcell
  have hBW : B < W.heap.size := Nat.lt_of_lt_of_le hB hb.size
  have hne : B ≠ W.heap.size := by omega
  obtain ⟨⟨c1, c2, c3⟩, a, n, c⟩ := x
  show Calls Tryz.prog 126 #[.agg #[.string c1, .int .i64 c2, .slice a n c], .pointer (some ⟨B, 0, none⟩)] W _
  go_enter Tryz.func126, Tryz.ntmps126
  go_wp2
  all_goals (go_ret; exact ⟨rfl, hb.alloc hb.size _⟩)

set_option maxHeartbeats 1000000 in
theorem idxE_nil (c : Nat) (fv : Value) (w : World) : Calls Tryz.prog 125 #[.slice none 0 c, fv] w fun e w' => e = .returned (.int .i64 (-1)) ∧ w' = w := by
  go_enter Tryz.func125, Tryz.ntmps125
  go_wp2
  go_loopg [5, 8] 0 (fun _ _ s8 wr => s8 = .int .i64 0 ∧ wr = w)
  case atStart => exact ⟨rfl, rfl⟩
  case round =>
    obtain ⟨rfl, rfl⟩ := hrel
    go_wp2
    go_ret
    exact ⟨rfl, rfl⟩

theorem rowX {w : World} {base g n cap : Nat} {l : List EntV} (h : w.ownsRow base 53 3 (.slice (some ⟨g, 0, none⟩) n cap) n (cellsX l)) (hn : n = l.length) : ∀ j, j < l.length → ∀ i v, (encX l[j]!)[i]? = some v → w.cell? ⟨g, 0 + j * 3 + i, none⟩ = some v := by
  intro j hj i v hi
  have hi3 : i < 3 := by
    rcases Nat.lt_or_ge i 3 with h' | h'
    · exact h'
    · rw [List.getElem?_eq_none (by rw [encX_len]; exact h')] at hi; cases hi
  have := h.cellAt (j * 3 + i) (by subst hn; omega)
  rw [cellsX_at l j i hj hi3, hi] at this
  rw [Nat.zero_add]
  exact this

set_option maxHeartbeats 1000000 in
theorem where_any (base b : Nat) (s : Snap) (cv fv : Value) (L : List EntV) (nm : ByteArray) (w : World) (h : SnapI base b w s cv fv L) :
    Calls Tryz.prog 100 #[.pointer (some ⟨b, 0, none⟩), .string nm] w fun e w' => e = .returned (.int .i64 (whereF s.files nm)) ∧ Below w.heap.size w w' := by
  have eg : ∀ args w, (callFunc 126 args).run Tryz.prog w = .ok (.enter 126 args) w := enters_of Tryz.func126 (by kernel_rfl) rfl
  have hb0 : Below w.heap.size w (w.alloc (.cells #[.string nm] 9)) := (Below.refl _ _).alloc (Nat.le_refl _) _
  have HC : Hid (Calls Tryz.prog 125 #[fv, .func (.func 126) #[] #[.pointer (some ⟨w.heap.size, 0, none⟩)]] (w.alloc (.cells #[.string nm] 9)) fun e w' => e = .returned (.int .i64 (whereF s.files nm)) ∧ Below w.heap.size w w') := by
    have h1 := own_up h.row hb0
    rcases own_forms h.row with ⟨e, e0⟩ | ⟨g, c, e, _, hg, hc1, hc2⟩
    · have hL : L = [] := List.length_eq_zero_iff.1 e0
      rw [e, h.files, hL]
      exact (idxE_nil 0 _ _).mono fun e w' ⟨he, hw⟩ => ⟨he, by rw [hw]; exact hb0⟩
    · rw [e] at h1 ⊢
      unfold maxLen at hc2
      have := AnyQ.slices_IndexFunc Tryz.layIdxE 3 Tryz.isAgg53 Tryz.sizeOf53 encX encX_len (fun x => x.1.1.toList == nm.toList) 126 #[.pointer (some ⟨w.heap.size, 0, none⟩)] eg g 0 L.length c L (w.alloc (.cells #[.string nm] 9))
        (where1_any nm w.heap.size _ (by simp) (by simp)) (Nat.le_refl _) (by omega) (by simp; omega) (rowX h1 rfl)
      rw [List.take_length, whereF_map, ← h.files] at this
      exact this.mono fun e w' ⟨he, hw⟩ => ⟨he, hb0.trans (hw.mono (by simp))⟩
  obtain ⟨_, _, _, hc3, _⟩ := h.cells
  obtain ⟨fa, fc, e, _⟩ := own_slice h.row
  subst e
  have hbl := blk_lt h.box
  have hne : b ≠ w.heap.size := by omega
  clear h
  generalize whereF s.files nm = r at HC ⊢
  go_enter Tryz.func100, Tryz.ntmps100
  go_wp2_with (go_at_call 125; refine HC.out.mono ?_; rintro e w1 ⟨rfl, hb1⟩)
  go_ret
  exact ⟨rfl, hb1⟩

def rfB (p : ByteArray) (r : Int) : Bool := nameB p && (decide (1 ≤ r) && decide (r ≤ 60))
set_option maxHeartbeats 2000000 in
theorem rightFile_any (k : Int) (p : ByteArray) (r : Int) (ma : Option Addr) (mn mc : Nat) (ca : Option Addr) (cn cc : Nat) (nx : Int) (w : World) (hp : p.size ≤ maxLen) :
    Calls Tryz.prog 59 #[.agg #[.int .i64 k, .string p, .int .i64 r, .slice ma mn mc, .slice ca cn cc, .int .i64 nx]] w fun e w' => e = .returned (.bool (rfB p r)) ∧ Below w.heap.size w w' := by
  have HN := mkH (fun W => name_any p W hp)
  have HR : Hid (rfB p r = (nameB p && (decide (1 ≤ r) && decide (r ≤ 60)))) := rfl
  generalize rfB p r = q at HR ⊢
  have h3 : (1 ≤ r ∧ r ≤ 60) ∨ (r < 1 ∧ r ≤ 60) ∨ (1 ≤ r ∧ 60 < r) := by omega
  cases hnb : nameB p <;> rcases h3 with ⟨h1, h2⟩ | ⟨h1, h2⟩ | ⟨h1, h2⟩
  all_goals
    rw [hnb] at HN HR
    have hb0 : Below w.heap.size w (w.alloc (.cells #[.int .i64 k, .string p, .int .i64 r, .slice ma mn mc, .slice ca cn cc, .int .i64 nx] 75)) := (Below.refl _ _).alloc (Nat.le_refl _) _
    have HB0 := mkH hb0
    clear hb0
    go_enter Tryz.func59, Tryz.ntmps59
    go_wp2_with (go_at_call 29; refine (HN.out _).mono ?_; rintro e w1 ⟨rfl, hb1⟩; have k2 : w1.cell? ⟨w.heap.size, 2, none⟩ = some (.int .i64 r) := (hb1.cell (p := ⟨w.heap.size, 2, none⟩) (by simp)).trans (by simp))
    all_goals
      go_ret
      exact ⟨ret_bool (by rw [HR.out]; simp; try omega), HB0.out.trans (hb1.mono (by simp))⟩
end Go.Proofs.YtgpdojaehmdlpaaGreatDoor
