/- What (File).at does, said of every call at a group that is there. -/
import Derived.Test.YtodemklghajdeaaGreatDoorFM3
namespace Go.Proofs.YtodemklghajdeaaGreatDoor
open Go.RowKit Go.Proofs Go.Shelf Go.Joins

theorem mkH {p : Prop} (h : p) : Hid p := h
theorem ups {a b c : World} (h : Below a.heap.size a b) (k : Below b.heap.size b c) : Below a.heap.size a c := h.trans (k.mono h.size)
/-- Elements of k cells lie in a slice. -/
def SlE {α : Type} (k : Nat) (enc : α → List Value) (w : World) (v : Value) (l : List α) : Prop :=
  ∃ a c, v = .slice a l.length c ∧ l.length ≤ c ∧ (l ≠ [] → ∃ b off, a = some ⟨b, off, none⟩ ∧ b < w.heap.size ∧ ∀ (j : Nat) x, l[j]? = some x → ∀ (i : Nat) u, (enc x)[i]? = some u → w.cell? ⟨b, off + j * k + i, none⟩ = some u)
theorem SlE.up {α : Type} {k : Nat} {enc : α → List Value} {w W : World} {v : Value} {l : List α} (h : SlE k enc w v l) (hb : Below w.heap.size w W) : SlE k enc W v l := by
  obtain ⟨a, c, e, hc, hl⟩ := h
  refine ⟨a, c, e, hc, fun hne => ?_⟩
  obtain ⟨b, off, ea, hlt, hcell⟩ := hl hne
  exact ⟨b, off, ea, Nat.lt_of_lt_of_le hlt hb.size, fun j x hj i u hu => (hb.cell (p := ⟨b, off + j * k + i, none⟩) hlt).trans (hcell j x hj i u hu)⟩
theorem SlE.slice {α : Type} {k : Nat} {enc : α → List Value} {w : World} {v : Value} {l : List α} (h : SlE k enc w v l) : ∃ a c, v = .slice a l.length c ∧ l.length ≤ c := by
  obtain ⟨a, c, e, hc, _⟩ := h; exact ⟨a, c, e, hc⟩
theorem SlE.cons {α : Type} {k : Nat} {enc : α → List Value} {w : World} {v : Value} {l : List α} (h : SlE k enc w v l) (hl : 0 < l.length) : ∃ b off c, v = .slice (some ⟨b, off, none⟩) l.length c ∧ l.length ≤ c ∧ b < w.heap.size ∧ ∀ (j : Nat) x, l[j]? = some x → ∀ (i : Nat) u, (enc x)[i]? = some u → w.cell? ⟨b, off + j * k + i, none⟩ = some u := by
  obtain ⟨a, c, e, hc, h2⟩ := h
  obtain ⟨b, off, rfl, h3, h4⟩ := h2 (by intro e; rw [e] at hl; simp at hl)
  exact ⟨b, off, c, e, hc, h3, h4⟩
theorem flat_at {α : Type} {k : Nat} {enc : α → List Value} (hk : ∀ x, (enc x).length = k) : ∀ {l : List α} {j : Nat} {x : α} {i : Nat} {u : Value}, l[j]? = some x → (enc x)[i]? = some u → (l.flatMap enc)[j * k + i]? = some u
  | [], _, _, _, _, h, _ => by simp at h
  | y :: l, 0, x, i, u, h, hu => by
    simp at h; subst h
    rw [List.flatMap_cons, Nat.zero_mul, Nat.zero_add, List.getElem?_append_left (lt_of_some hu)]; exact hu
  | y :: l, j + 1, x, i, u, h, hu => by
    have ih := flat_at hk (l := l) (j := j) (x := x) (i := i) (u := u) (by simpa using h) hu
    rw [List.flatMap_cons, List.getElem?_append_right (by rw [hk]; rw [Nat.add_mul]; omega), hk, show (j + 1) * k + i - k = j * k + i by rw [Nat.add_mul]; omega]
    exact ih
theorem SlE.of_own {α : Type} {k : Nat} {enc : α → List Value} (hk : ∀ x, (enc x).length = k) {w : World} {B n : Nat} {T : TypeId} {v : Value} {l : List α} (h : w.ownsRow B T k v n (l.flatMap enc)) (hn : n = l.length) : SlE k enc w v l := by
  subst hn
  rcases h.2 with ⟨rfl, h0⟩ | ⟨g, cap, cur, rfl, hb, hh, hcap, _, _⟩
  · exact ⟨none, 0, by rw [h0], by omega, fun hne => absurd (List.eq_nil_of_length_eq_zero h0) hne⟩
  · refine ⟨_, cap, rfl, hcap, fun _ => ⟨g, 0, rfl, E.blk_lt hh, fun j x hj i u hu => ?_⟩⟩
    have hc := h.cells (g := g) rfl
    simp only [E.addr_add] at hc
    rw [Nat.zero_add]
    exact hc _ _ (flat_at hk hj hu)
def encS (s : S.St) : List Value := (S.cellsS s).toList
def encT (b : List UInt8) : List Value := [.string (E.str b)]
def encG (x : Int × Value × Value) : List Value := [.int .i64 x.1, x.2.1, x.2.2]
def encR (v : Value) : List Value := [v]
theorem encS_len (s : S.St) : (encS s).length = 8 := rfl
/-- A group lies: how many rows, and its two slices. -/
def GrpAt (w : World) (x : Int × Value × Value) (g : Grp) : Prop := x.1 = g.1 ∧ SlE 8 encS w x.2.1 g.2.1 ∧ SlE 1 encT w x.2.2 g.2.2
theorem GrpAt.up {w W : World} {x : Int × Value × Value} {g : Grp} (h : GrpAt w x g) (hb : Below w.heap.size w W) : GrpAt W x g := ⟨h.1, h.2.1.up hb, h.2.2.up hb⟩
def SlG (w : World) (v : Value) (gs : List Grp) : Prop := ∃ xs : List (Int × Value × Value), SlE 3 encG w v xs ∧ xs.length = gs.length ∧ ∀ (j : Nat) x g, xs[j]? = some x → gs[j]? = some g → GrpAt w x g
theorem SlG.up {w W : World} {v : Value} {gs : List Grp} (h : SlG w v gs) (hb : Below w.heap.size w W) : SlG W v gs := by
  obtain ⟨xs, h1, h2, h3⟩ := h
  exact ⟨xs, h1.up hb, h2, fun j x g hx hg => (h3 j x g hx hg).up hb⟩
theorem SlG.slice {w : World} {v : Value} {gs : List Grp} (h : SlG w v gs) : ∃ a c, v = .slice a gs.length c ∧ gs.length ≤ c := by
  obtain ⟨xs, h1, h2, _⟩ := h
  obtain ⟨a, c, e, hc⟩ := h1.slice
  exact ⟨a, c, by rw [← h2]; exact e, by rw [← h2]; exact hc⟩
theorem SlG.at {w : World} {v : Value} {gs : List Grp} (h : SlG w v gs) {k : Nat} {g : Grp} (hk : gs[k]? = some g) : ∃ b off c n sv bv, v = .slice (some ⟨b, off, none⟩) gs.length c ∧ b < w.heap.size ∧ n = (g.1 : Int) ∧ w.cell? ⟨b, off + k * 3, none⟩ = some (.int .i64 n) ∧ w.cell? ⟨b, off + k * 3 + 1, none⟩ = some sv ∧ w.cell? ⟨b, off + k * 3 + 2, none⟩ = some bv ∧ SlE 8 encS w sv g.2.1 ∧ SlE 1 encT w bv g.2.2 := by
  obtain ⟨xs, h1, h2, h3⟩ := h
  have hlt := lt_of_some hk
  obtain ⟨b, off, c, e, hc, hb, hcell⟩ := h1.cons (by omega)
  obtain ⟨⟨n, sv, bv⟩, hx⟩ : ∃ x, xs[k]? = some x := ⟨_, List.getElem?_eq_getElem (by omega)⟩
  obtain ⟨hn, hs, hbv⟩ := h3 k _ g hx hk
  exact ⟨b, off, c, n, sv, bv, by rw [e, h2], hb, hn, hcell k _ hx 0 _ rfl, hcell k _ hx 1 _ rfl, hcell k _ hx 2 _ rfl, hs, hbv⟩
/-- A file lies: its two slices. -/
def FilAt (w : World) (cv gv : Value) (f : Fil) : Prop := SlE 7 C.encC w cv f.1 ∧ SlG w gv f.2
theorem FilAt.up {w W : World} {cv gv : Value} {f : Fil} (h : FilAt w cv gv f) (hb : Below w.heap.size w W) : FilAt W cv gv f := ⟨h.1.up hb, h.2.up hb⟩
/-- Rows lie in a slice of slices. -/
def SlR (w : World) (v : Value) (rows : List (List V)) : Prop := ∃ vs : List Value, SlE 1 encR w v vs ∧ vs.length = rows.length ∧ ∀ (j : Nat) x r, vs[j]? = some x → rows[j]? = some r → E.Sl w x r
theorem SlR.up {w W : World} {v : Value} {rows : List (List V)} (h : SlR w v rows) (hb : Below w.heap.size w W) : SlR W v rows := by
  obtain ⟨vs, h1, h2, h3⟩ := h
  exact ⟨vs, h1.up hb, h2, fun j x r hx hr => (h3 j x r hx hr).up hb⟩
theorem SlR.slice {w : World} {v : Value} {rows : List (List V)} (h : SlR w v rows) : ∃ a c, v = .slice a rows.length c ∧ rows.length ≤ c := by
  obtain ⟨vs, h1, h2, _⟩ := h
  obtain ⟨a, c, e, hc⟩ := h1.slice
  exact ⟨a, c, by rw [← h2]; exact e, by rw [← h2]; exact hc⟩
theorem SlR.at {w : World} {v : Value} {rows : List (List V)} (h : SlR w v rows) {k : Nat} {r : List V} (hk : rows[k]? = some r) : ∃ b off c rv, v = .slice (some ⟨b, off, none⟩) rows.length c ∧ b < w.heap.size ∧ w.cell? ⟨b, off + k, none⟩ = some rv ∧ E.Sl w rv r := by
  obtain ⟨vs, h1, h2, h3⟩ := h
  have hlt := lt_of_some hk
  obtain ⟨b, off, c, e, hc, hb, hcell⟩ := h1.cons (by omega)
  obtain ⟨x, hx⟩ : ∃ x, vs[k]? = some x := ⟨_, List.getElem?_eq_getElem (by omega)⟩
  refine ⟨b, off, c, x, by rw [e, h2], hb, ?_, h3 k x r hx hk⟩
  have := hcell k x hx 0 x rfl
  rwa [Nat.mul_one, Nat.add_zero] at this
/-- Columns, the old word. -/
theorem slC_of {w : World} {v : Value} {l : List Col} (h : SlE 7 C.encC w v l) (hl : 0 < l.length) : ∃ g o c, v = .slice (some ⟨g, o, none⟩) l.length c ∧ l.length ≤ c ∧ C.SlC w g o l := by
  obtain ⟨b, off, c, e, hc, hb, hcell⟩ := h.cons hl
  refine ⟨b, off, c, e, hc, hb, fun j hj i u hu => ?_⟩
  rw [getElem!_pos l j hj] at hu
  exact hcell j _ (List.getElem?_eq_getElem hj) i u hu
theorem of_slC {w : World} {g o c : Nat} {l : List Col} (h : C.SlC w g o l) (hc : l.length ≤ c) : SlE 7 C.encC w (.slice (some ⟨g, o, none⟩) l.length c) l :=
  ⟨_, c, rfl, hc, fun _ => ⟨g, o, rfl, h.1, fun j x hj i u hu => h.2 j (lt_of_some hj) i u (by rw [getElem!_pos l j (lt_of_some hj)]; rw [List.getElem?_eq_getElem (lt_of_some hj)] at hj; injection hj with hj; rw [hj]; exact hu)⟩⟩
theorem cells7 {w : World} {b off : Nat} {l : List Col} (h : ∀ (j : Nat) x, l[j]? = some x → ∀ (i : Nat) u, (C.encC x)[i]? = some u → w.cell? ⟨b, off + j * 7 + i, none⟩ = some u) {k : Nat} {c1 : Int} {c2 : ByteArray} {c3 : Int} {c4 : Bool} {c5 c6 : Int} {c7 : ByteArray} (e : l[k]? = some (c1, c2, c3, c4, c5, c6, c7)) :
    w.cell? ⟨b, off + k * 7, none⟩ = some (.int .i64 c1) ∧ w.cell? ⟨b, off + k * 7 + 1, none⟩ = some (.string c2) ∧ w.cell? ⟨b, off + k * 7 + 2, none⟩ = some (.int .i64 c3) ∧ w.cell? ⟨b, off + k * 7 + 3, none⟩ = some (.bool c4) ∧ w.cell? ⟨b, off + k * 7 + 4, none⟩ = some (.int .i64 c5) ∧ w.cell? ⟨b, off + k * 7 + 5, none⟩ = some (.int .i64 c6) ∧ w.cell? ⟨b, off + k * 7 + 6, none⟩ = some (.string c7) :=
  ⟨h k _ e 0 _ rfl, h k _ e 1 _ rfl, h k _ e 2 _ rfl, h k _ e 3 _ rfl, h k _ e 4 _ rfl, h k _ e 5 _ rfl, h k _ e 6 _ rfl⟩
theorem b2c {w w1 : World} {X Y : Obj} (hb : Below ((w.alloc X).alloc Y).heap.size ((w.alloc X).alloc Y) w1) : Below w.heap.size w w1 := ups (S.below_a2 w X Y) hb
theorem b3 (w : World) (X Y Z : Obj) : Below w.heap.size w (((w.alloc X).alloc Y).alloc Z) := (S.below_a2 w X Y).alloc (by simp; omega) _
theorem b3c {w w1 : World} {X Y Z : Obj} (hb : Below (((w.alloc X).alloc Y).alloc Z).heap.size (((w.alloc X).alloc Y).alloc Z) w1) : Below w.heap.size w w1 := ups (b3 w X Y Z) hb
end Go.Proofs.YtodemklghajdeaaGreatDoor

namespace Go.Proofs.YtodemklghajdeaaGreatDoor
open Go.RowKit Go.Proofs Go.Shelf Go.Joins

def posI (cols : List Col) (id : Int) : Int := if pos cols id < cols.length then (pos cols id : Int) else -1
theorem idx_pos (id : Int) : ∀ (l : List Col) (i : Nat), Lib.idxByFrom (fun (_ : Col) (y : Col) => y.1 == id) default l i = if (ids l).idxOf id < l.length then ((i + (ids l).idxOf id : Nat) : Int) else -1
  | [], i => by simp [Lib.idxByFrom, ids]
  | c :: l, i => by
    have ih := idx_pos id l (i + 1)
    have e : ids (c :: l) = c.1 :: ids l := rfl
    rw [e, List.idxOf_cons, Lib.idxByFrom]
    by_cases h : c.1 = id
    · rw [beq_iff_eq.2 h]; simp
    · rw [beq_eq_false_iff_ne.2 h, ih]
      simp only [Bool.false_eq_true, if_false, cond_false, List.length_cons, Nat.add_lt_add_iff_right]
      split
      · congr 1; omega
      · rfl
theorem idx_posI (cols : List Col) (id : Int) : Lib.idxBy (fun (_ : Col) (y : Col) => y.1 == id) cols default = posI cols id := by
  unfold Lib.idxBy posI pos
  rw [idx_pos]
  simp
set_option maxHeartbeats 1000000 in
set_option maxRecDepth 100000 in
theorem findF_any (id : Int) (B : Nat) (w : World) (hB : B < w.heap.size) (hcell : w.cell? ⟨B, 0, none⟩ = some (.int .i64 id)) :
    PredBelow Tryz.prog 85 #[.pointer (some ⟨B, 0, none⟩)] (fun x : Col => .agg (C.encC x).toArray) (fun c => c.1 == id) w := fun W x hb => by
  have hc : W.cell? ⟨B, 0, none⟩ = some (.int .i64 id) := (hb.cell (p := ⟨B, 0, none⟩) hB).trans hcell
  have hBW : B < W.heap.size := Nat.lt_of_lt_of_le hB hb.size
  have hne : B ≠ W.heap.size := by omega
  obtain ⟨c1, c2, c3, c4, c5, c6, c7⟩ := x
  show Calls Tryz.prog 85 #[.agg #[.int .i64 c1, .string c2, .int .i64 c3, .bool c4, .int .i64 c5, .int .i64 c6, .string c7], .pointer (some ⟨B, 0, none⟩)] W _
  go_enter Tryz.func85, Tryz.ntmps85
  go_wp2
  all_goals (go_ret; exact ⟨rfl, hb.alloc hb.size _⟩)

set_option maxHeartbeats 1000000 in
set_option maxRecDepth 100000 in
theorem find_any (cv gv : Value) (cols : List Col) (c1 : Int) (c2 : ByteArray) (c3 : Int) (c4 : Bool) (c5 c6 : Int) (c7 : ByteArray) (w : World) (h : SlE 7 C.encC w cv cols) (h1 : 1 ≤ cols.length) (h8 : cols.length ≤ 8) :
    Calls Tryz.prog 58 #[.agg #[cv, gv], .agg #[.int .i64 c1, .string c2, .int .i64 c3, .bool c4, .int .i64 c5, .int .i64 c6, .string c7]] w fun e w' => e = .returned (.int .i64 (posI cols c1)) ∧ Below w.heap.size w w' := by
  obtain ⟨g, o, c, rfl, hc, hS⟩ := slC_of h h1
  have eg : ∀ args w, (callFunc 85 args).run Tryz.prog w = .ok (.enter 85 args) w := enters_of Tryz.func85 (by kernel_rfl) rfl
  have hB2 := S.below_a2 w (.cells #[.slice (some ⟨g, o, none⟩) cols.length c, gv] 29) (.cells #[.int .i64 c1, .string c2, .int .i64 c3, .bool c4, .int .i64 c5, .int .i64 c6, .string c7] 47)
  have h2 := hS.below hB2
  have hcon := AnyQ.slices_IndexFunc Tryz.layIdx 7 Tryz.isAgg47 Tryz.sizeOf47 C.encC C.encC_len (fun c => c.1 == c1) 85 #[.pointer (some ⟨w.heap.size + 1, 0, none⟩)] eg g o cols.length c cols _
    (findF_any c1 (w.heap.size + 1) _ (by simp) (by rw [World.cell?_alloc_at _ _ _ _ (by simp)]; rfl)) (Nat.le_refl _) (by omega) h2.1 h2.2
  rw [List.take_length] at hcon
  change Calls Tryz.prog 19 _ _ (fun e w' => e = .returned (.int .i64 (Lib.idxBy (fun (_ : Col) (y : Col) => y.1 == c1) cols default)) ∧ _) at hcon
  rw [idx_posI] at hcon
  clear h h2 hS
  generalize posI cols c1 = r at hcon ⊢
  go_enter Tryz.func58, Tryz.ntmps58
  go_wp2_with (go_at_call 19; refine hcon.mono ?_; rintro e w' ⟨rfl, hb'⟩)
  go_ret
  exact ⟨rfl, b2c hb'⟩

def sumTo (gs : List Grp) (k : Nat) : Nat := ((gs.take k).map (·.1)).sum
theorem sumTo_next {gs : List Grp} {k : Nat} {g : Grp} (h : gs[k]? = some g) : sumTo gs (k + 1) = sumTo gs k + g.1 := by
  unfold sumTo; rw [E.take_next h]; simp
theorem sumTo_le {gs : List Grp} (hg : ∀ g ∈ gs, g.1 ≤ 6) : ∀ k, sumTo gs k ≤ 6 * k
  | 0 => by simp [sumTo]
  | k + 1 => by
    have ih := sumTo_le hg k
    cases h : gs[k]? with
    | none =>
      have hl : gs.length ≤ k := by
        rcases Nat.lt_or_ge k gs.length with h' | h'
        · rw [List.getElem?_eq_getElem h'] at h; cases h
        · exact h'
      have : sumTo gs (k + 1) = sumTo gs k := by unfold sumTo; rw [List.take_of_length_le (by omega), List.take_of_length_le hl]
      omega
    | some g => rw [sumTo_next h]; have := hg g (List.mem_of_getElem? h); omega
set_option maxHeartbeats 1000000 in
set_option maxRecDepth 100000 in
theorem rows_any (cv gv : Value) (gs : List Grp) (w : World) (h : SlG w gv gs) (hg6 : ∀ g ∈ gs, g.1 ≤ 6) (hl : gs.length ≤ 60) :
    Calls Tryz.prog 12 #[.agg #[cv, gv]] w fun e w' => e = .returned (.int .i64 (sumTo gs gs.length)) ∧ Below w.heap.size w w' := by
  have HS := mkH h
  have HG := mkH hg6
  obtain ⟨a, c, rfl, hc⟩ := h.slice
  clear h hg6
  go_enter Tryz.func12, Tryz.ntmps12
  go_wp2
  go_loopw [3, 9] (fun va vi wr => ∃ k : Nat, k ≤ gs.length ∧ vi = .int .i64 k ∧ va = .int .i64 (sumTo gs k) ∧ Hid (Below w.heap.size w wr)) (fun _ vi _ => gs.length - (intOf vi).toNat)
  case atStart => exact ⟨0, Nat.zero_le _, rfl, rfl, mkH ((Below.refl _ _).alloc (Nat.le_refl _) _)⟩
  case round =>
    obtain ⟨k, hk, rfl, rfl, hb⟩ := hrel
    have hsum := sumTo_le HG.out k
    by_cases hlt : k < gs.length
    · obtain ⟨g, hg⟩ : ∃ g, gs[k]? = some g := ⟨_, List.getElem?_eq_getElem hlt⟩
      have hg6 := HG.out g (List.mem_of_getElem? hg)
      obtain ⟨b, off, c', n, sv, bv, e, hbl, rfl, q0, q1, q2, hsv, hbv⟩ := (HS.out.up hb.out).at hg
      obtain ⟨sa, sc, rfl, _⟩ := hsv.slice
      obtain ⟨ba, bc, rfl, _⟩ := hbv.slice
      clear hsv hbv
      injection e with e1 _ e3
      subst e1 e3
      have HN := mkH (sumTo_next hg)
      have hkl : (k : Int) < (gs.length : Int) := by omega
      generalize sumTo gs k = sm at *
      go_wp2
      refine ⟨⟨k + 1, by omega, by go_num, ?_, mkH (hb.out.alloc hb.out.size _)⟩, by simp [intOf]; omega⟩
      rw [HN.out]
      first | rfl | (congr 1; rw [wrap64]; omega) | simp | go_num
    · have ek : k = gs.length := by omega
      subst ek
      go_wp2
      go_ret
      exact ⟨rfl, hb.out⟩
end Go.Proofs.YtodemklghajdeaaGreatDoor

namespace Go.Proofs.YtodemklghajdeaaGreatDoor
open Go.RowKit Go.Proofs Go.Shelf Go.Joins

/-- Two new blocks. -/
theorem two_new (w : World) (X Y : Obj) : ((w.alloc X).alloc Y).heap.size = w.heap.size + 2 ∧ ((w.alloc X).alloc Y).heap[w.heap.size]? = some X ∧ ((w.alloc X).alloc Y).heap[w.heap.size + 1]? = some Y ∧ Below w.heap.size w ((w.alloc X).alloc Y) := by
  refine ⟨by simp, ?_, ?_, S.below_a2 w X Y⟩
  · exact (Below.heap_alloc _ _ _ (by simp)).trans (heap_alloc_new _ _)
  · have := heap_alloc_new (w.alloc X) Y
    rwa [World.size_alloc] at this
theorem row3 {W : World} {b : Nat} {x y z : Value} {T : TypeId} (h : W.heap[b]? = some (.cells #[x, y, z] T)) : W.cell? ⟨b, 0, none⟩ = some x ∧ W.cell? ⟨b, 1, none⟩ = some y ∧ W.cell? ⟨b, 2, none⟩ = some z ∧ W.frozen? ⟨b, 0, none⟩ = false ∧ W.frozen? ⟨b, 1, none⟩ = false ∧ W.frozen? ⟨b, 2, none⟩ = false := by
  refine ⟨by simp [World.cell?, h], by simp [World.cell?, h], by simp [World.cell?, h], frozen_of_row W b 0 _ T h, frozen_of_row W b 1 _ T h, frozen_of_row W b 2 _ T h⟩
theorem row2 {W : World} {b : Nat} {x y : Value} {T : TypeId} (h : W.heap[b]? = some (.cells #[x, y] T)) : W.cell? ⟨b, 0, none⟩ = some x ∧ W.cell? ⟨b, 1, none⟩ = some y := by
  refine ⟨by simp [World.cell?, h], by simp [World.cell?, h]⟩
set_option maxHeartbeats 2000000 in
set_option maxRecDepth 100000 in
theorem at_any (k : Nat) (cv gv : Value) (cols : List Col) (gs : List Grp) (g : Grp) (w : World) (hc : SlE 7 C.encC w cv cols) (hG : SlG w gv gs) (hk : gs[k]? = some g) :
    Calls Tryz.prog 52 #[.agg #[cv, gv], .int .i64 k] w fun e w' => ∃ sv bv, e = .returned (.tuple #[.agg #[.int .i64 g.1, sv, bv], .bool (wholeG cols g)]) ∧ SlE 8 encS w sv g.2.1 ∧ SlE 1 encT w bv g.2.2 ∧ Below w.heap.size w w' := by
  obtain ⟨n, st, bs⟩ := g
  obtain ⟨b, off, c', n', sv, bv, rfl, hbl, rfl, q0, q1, q2, hsv, hbv⟩ := hG.at hk
  have HSV := mkH hsv
  have HBV := mkH hbv
  obtain ⟨sa, sc, rfl, _⟩ := hsv.slice
  obtain ⟨ba, bc, rfl, _⟩ := hbv.slice
  obtain ⟨ca, cc, rfl, _⟩ := hc.slice
  have hlt := lt_of_some hk
  have hkl : (k : Int) < (gs.length : Int) := by omega
  have hk0 : ¬ (k : Int) < 0 := by omega
  clear hsv hbv hG hc hk
  simp only at q0 q1 q2 HSV HBV ⊢
  obtain ⟨hs2, hX, hY, hB⟩ := two_new w (.cells #[.slice ca cols.length cc, .slice (some ⟨b, off, none⟩) gs.length c'] 29) (.cells #[.int .i64 0, .slice none 0 0, .slice none 0 0] 88)
  replace q0 := (hB.cell (p := ⟨b, off + k * 3, none⟩) hbl).trans q0
  replace q1 := (hB.cell (p := ⟨b, off + k * 3 + 1, none⟩) hbl).trans q1
  replace q2 := (hB.cell (p := ⟨b, off + k * 3 + 2, none⟩) hbl).trans q2
  obtain ⟨r0, r1⟩ := row2 hX
  obtain ⟨y0, y1, y2, f0, f1, f2⟩ := row3 hY
  have HB := mkH hB
  have HW : Hid (wholeG cols (n, st, bs) = (decide (st.length = cols.length) && (decide (bs.length = cols.length) && (decide (1 ≤ n) && decide (n ≤ 6))))) := mkH (by
    simp only [wholeG, Bool.decide_and])
  rw [HW.out]
  have z1 : ((st.length : Int) == (cols.length : Int)) = decide (st.length = cols.length) := by by_cases h : st.length = cols.length <;> simp [h]; omega
  have z2 : ((bs.length : Int) == (cols.length : Int)) = decide (bs.length = cols.length) := by by_cases h : bs.length = cols.length <;> simp [h]; omega
  have z3 : decide ((1 : Int) ≤ (n : Int)) = decide (1 ≤ n) := by by_cases h : 1 ≤ n <;> simp [h] <;> omega
  have z4 : decide ((n : Int) ≤ (6 : Int)) = decide (n ≤ 6) := by by_cases h : n ≤ 6 <;> simp [h] <;> omega
  generalize decide (st.length = cols.length) = t1 at *
  generalize decide (bs.length = cols.length) = t2 at *
  generalize decide (1 ≤ n) = t3 at *
  generalize decide (n ≤ 6) = t4 at *
  have hne1 : ¬ b = w.heap.size + 2 := by omega
  clear hX hY hB
  go_enter Tryz.func52, Tryz.ntmps52
  go_wp2_with fail
  generalize (w.alloc (.cells #[.slice ca cols.length cc, .slice (some ⟨b, off, none⟩) gs.length c'] 29)).alloc (.cells #[.int .i64 0, .slice none 0 0, .slice none 0 0] 88) = W2 at *
  generalize hsz : w.heap.size = sz at *
  go_region_held3 (fun w' => w'.cell? ⟨b, off + k * 3, none⟩ = some (.int .i64 n) ∧ w'.cell? ⟨b, off + k * 3 + 1, none⟩ = some (.slice sa st.length sc) ∧ w'.cell? ⟨b, off + k * 3 + 2, none⟩ = some (.slice ba bs.length bc) ∧ w'.cell? ⟨sz, 0, none⟩ = some (.slice ca cols.length cc) ∧ w'.cell? ⟨sz, 1, none⟩ = some (.slice (some ⟨b, off, none⟩) gs.length c')) (go_keep) (fail)
  generalize hW3 : (W2.alloc (.cells #[.int .i64 n, .slice sa st.length sc, .slice ba bs.length bc] 88)).drew = W3
  have hrow : W3.heap[sz + 2]? = some (.cells #[.int .i64 n, .slice sa st.length sc, .slice ba bs.length bc] 88) := by
    rw [← hW3, ← hs2]; exact heap_alloc_new _ _
  have hb3 : Below sz w W3 := by rw [← hW3]; exact (HB.out.alloc (by omega) _).drew
  have keep : ∀ o, W3.cell? ⟨sz + 1, o, none⟩ = W2.cell? ⟨sz + 1, o, none⟩ ∧ W3.frozen? ⟨sz + 1, o, none⟩ = W2.frozen? ⟨sz + 1, o, none⟩ := fun o => by
    have hb : Below W2.heap.size W2 W3 := by rw [← hW3]; exact ((Below.refl _ _).alloc (Nat.le_refl _) _).drew
    exact ⟨hb.cell (p := ⟨sz + 1, o, none⟩) (by show sz + 1 < _; omega), hb.frozen (p := ⟨sz + 1, o, none⟩) (by show sz + 1 < _; omega)⟩
  rw [← (keep 0).1] at y0
  rw [← (keep 1).1] at y1
  rw [← (keep 2).1] at y2
  rw [← (keep 0).2] at f0
  rw [← (keep 1).2] at f1
  rw [← (keep 2).2] at f2
  obtain ⟨x0, x1, x2, _, _, _⟩ := row3 hrow
  have HB3 := mkH hb3
  clear hW3 hrow hb3 keep HB q0 q1 q2 r0 r1 hs2
  cases t1 <;> cases t2 <;> cases t3 <;> cases t4
  all_goals
    go_wp2_with fail
    go_region
    go_wp2
    refine bodyPost_ret (v := .tuple #[.agg #[.int .i64 n, .slice sa st.length sc, .slice ba bs.length bc], .bool _]) ?hres rfl ⟨_, _, rfl, HSV.out, HBV.out, ?hbel⟩
    case hbel => rw [hsz]; exact (((HB3.out.setCell (p := ⟨sz + 1, 0, none⟩) (Nat.le_succ _) _).setCell (p := ⟨sz + 1, 1, none⟩) (Nat.le_succ _) _).setCell (p := ⟨sz + 1, 2, none⟩) (Nat.le_succ _) _).drew
    case hres => simp [results, Tryz.results52, go_sem, y0, y1, y2]
end Go.Proofs.YtodemklghajdeaaGreatDoor
