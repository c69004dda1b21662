/- What query.standing's function does, said of every call: how two rows stand to each other in an order. -/
import Derived.Test.YtlnkbhbpkmnkaaaGreatDoorYRa
import Derived.Test.YtlnkbhbpkmnkaaaGreatDoorCW1
import Derived.Deep.DeepCutAuto
import Derived.Deep.CutRange
namespace Go.Proofs.YtlnkbhbpkmnkaaaGreatDoor.F
open Go.RowKit Go.Proofs Go.Shelf Go.Joins

/-- An order lies in memory. -/
def OrdAt (w : World) (v : Value) (os : List (Nat × Bool)) : Prop :=
  ∃ a c, v = .slice a os.length c ∧ os.length ≤ c ∧ (os ≠ [] → ∃ b o, a = some ⟨b, o, none⟩ ∧ b < w.heap.size ∧ ∀ (j : Nat) x, os[j]? = some x → w.cell? ⟨b, o + j * 2, none⟩ = some (.int .i64 (x.1 : Int)) ∧ w.cell? ⟨b, o + j * 2 + 1, none⟩ = some (.bool x.2))
theorem OrdAt.up {w W : World} {v : Value} {os : List (Nat × Bool)} (h : OrdAt w v os) (hb : Below w.heap.size w W) : OrdAt W v os := by
  obtain ⟨a, c, e, hc, hl⟩ := h
  refine ⟨a, c, e, hc, fun hne => ?_⟩
  obtain ⟨b, o, ea, hbl, hcs⟩ := hl hne
  exact ⟨b, o, ea, Nat.lt_of_lt_of_le hbl hb.size, fun j x hj => ⟨(hb.cell (p := ⟨b, o + j * 2, none⟩) hbl).trans (hcs j x hj).1, (hb.cell (p := ⟨b, o + j * 2 + 1, none⟩) hbl).trans (hcs j x hj).2⟩⟩
theorem Gr.put {a b : World} (h : Gr a b) {g : Nat} (hg : a.heap.size ≤ g) (i : Nat) (v : Value) : Gr a (b.setCell ⟨g, i, none⟩ v) := by
  obtain ⟨q, os, rfl⟩ := h
  refine ⟨q, os.modify (g - a.heap.size) fun | .cells c elem frozen => .cells (c.setIfInBounds i v) elem frozen | o => o, ?_⟩
  unfold World.setCell Go.Sort.grow
  simp only [World.drewN, Option.isSome_none, Bool.false_eq_true, if_false]
  congr 1
  refine Array.ext_getElem? fun j => ?_
  rw [Array.getElem?_modify, Array.getElem?_append, Array.getElem?_append, Array.getElem?_modify]
  by_cases hj : j < a.heap.size
  · rw [if_pos hj, if_pos hj, if_neg (by omega)]
  · rw [if_neg hj, if_neg hj]
    by_cases e : g = j
    · rw [if_pos e, if_pos (by omega)]
      cases os[j - a.heap.size]? with
      | none => rfl
      | some o => cases o <;> rfl
    · rw [if_neg e, if_neg (by omega)]
/-- A value lies in a box of its own. -/
def VAt (w : World) (r : Nat) (x : V) : Prop := w.heap[r]? = some (.cells #[.int .i64 x.1, .int .i64 x.2.1, .string x.2.2] 29)
theorem VAt.up {w W : World} {r : Nat} {x : V} (h : VAt w r x) (hb : Below w.heap.size w W) : VAt W r x := by
  unfold VAt at h ⊢
  rw [← h]
  have hr : r < w.heap.size := by
    rcases Nat.lt_or_ge r w.heap.size with h' | h'
    · exact h'
    · rw [Array.getElem?_eq_none h'] at h; cases h
  exact hb.block r hr
theorem VAt.lt {w : World} {r : Nat} {x : V} (h : VAt w r x) : r < w.heap.size := by
  rcases Nat.lt_or_ge r w.heap.size with h' | h'
  · exact h'
  · unfold VAt at h; rw [Array.getElem?_eq_none h'] at h; cases h
theorem VAt.cells {w : World} {g : Nat} {k n : Int} {t : ByteArray} (h : VAt w g (k, n, t)) : w.cell? ⟨g, 0, none⟩ = some (.int .i64 k) ∧ w.cell? ⟨g, 1, none⟩ = some (.int .i64 n) ∧ w.cell? ⟨g, 2, none⟩ = some (.string t) :=
  ⟨cell_of_block h 0, cell_of_block h 1, cell_of_block h 2⟩
theorem VAt.free {w : World} {g : Nat} {x : V} (h : VAt w g x) : w.frozen? ⟨g, 0, none⟩ = false ∧ w.frozen? ⟨g, 1, none⟩ = false ∧ w.frozen? ⟨g, 2, none⟩ = false :=
  ⟨unfrozen_of_block h 0, unfrozen_of_block h 1, unfrozen_of_block h 2⟩
theorem VAt.put {w : World} {g : Nat} {y : V} {k n : Int} {t : ByteArray} (h : VAt w g y) : VAt (((w.setCell ⟨g, 0, none⟩ (.int .i64 k)).setCell ⟨g, 1, none⟩ (.int .i64 n)).setCell ⟨g, 2, none⟩ (.string t)) g (k, n, t) := by
  unfold VAt at h ⊢
  simp [World.setCell, Array.getElem?_modify, h]
theorem VAt.off {w : World} {g r i : Nat} {x : V} {v : Value} (h : VAt w r x) (hn : ¬ r = g) : VAt (w.setCell ⟨g, i, none⟩ v) r x := by
  unfold VAt at h ⊢
  rw [← h]
  exact Below.heap_setCell w ⟨g, i, none⟩ v r hn
theorem VAt.off3 {w : World} {g r : Nat} {x : V} {v0 v1 v2 : Value} (h : VAt w r x) (hn : ¬ r = g) : VAt (((w.setCell ⟨g, 0, none⟩ v0).setCell ⟨g, 1, none⟩ v1).setCell ⟨g, 2, none⟩ v2) r x := ((h.off hn).off hn).off hn
abbrev zW : V := (0, 0, ⟨#[]⟩)
theorem heap_new1 (w : World) (X Y : Obj) : ((w.alloc X).alloc Y).heap[w.heap.size + 1]? = some Y := by
  rw [← show (w.alloc X).heap.size = w.heap.size + 1 by simp]
  exact heap_alloc_new _ _
theorem vA1 (w : World) {k n : Int} {t : ByteArray} (Y : Obj) : VAt ((w.alloc (.cells #[.int .i64 k, .int .i64 n, .string t] 29)).alloc Y) w.heap.size (k, n, t) := (Below.heap_alloc _ _ _ (by simp)).trans (heap_alloc_new _ _)
theorem vA2 (w : World) {k n : Int} {t : ByteArray} (X : Obj) : VAt ((w.alloc X).alloc (.cells #[.int .i64 k, .int .i64 n, .string t] 29)) (w.heap.size + 1) (k, n, t) := heap_new1 w X _
theorem vB1 {w : World} {g : Nat} {k n : Int} {t : ByteArray} (h : VAt w g zW) (Z : Obj) : VAt ((((w.setCell ⟨g, 0, none⟩ (.int .i64 k)).setCell ⟨g, 1, none⟩ (.int .i64 n)).setCell ⟨g, 2, none⟩ (.string t)).alloc Z) g (k, n, t) :=
  h.put.up ((Below.refl _ _).alloc (Nat.le_refl _) _)
theorem vB2 (w : World) {g : Nat} {v0 v1 v2 : Value} {k n : Int} {t : ByteArray} : VAt ((((w.setCell ⟨g, 0, none⟩ v0).setCell ⟨g, 1, none⟩ v1).setCell ⟨g, 2, none⟩ v2).alloc (.cells #[.int .i64 k, .int .i64 n, .string t] 29)) w.heap.size (k, n, t) := by
  have h := heap_alloc_new (((w.setCell ⟨g, 0, none⟩ v0).setCell ⟨g, 1, none⟩ v1).setCell ⟨g, 2, none⟩ v2) (.cells #[.int .i64 k, .int .i64 n, .string t] 29)
  simp only [World.size_setCell] at h
  exact h
theorem vC1 {w : World} {g g' : Nat} {v0 v1 v2 : Value} {k n : Int} {t : ByteArray} (h : VAt w g zW) (hn : ¬ g = g') : VAt ((((((w.setCell ⟨g, 0, none⟩ (.int .i64 k)).setCell ⟨g, 1, none⟩ (.int .i64 n)).setCell ⟨g, 2, none⟩ (.string t)).setCell ⟨g', 0, none⟩ v0).setCell ⟨g', 1, none⟩ v1).setCell ⟨g', 2, none⟩ v2) g (k, n, t) := h.put.off3 hn
theorem vC2 {w : World} {g g' : Nat} {v0 v1 v2 : Value} {k n : Int} {t : ByteArray} (h : VAt w g' zW) (hn : ¬ g' = g) : VAt ((((((w.setCell ⟨g, 0, none⟩ v0).setCell ⟨g, 1, none⟩ v1).setCell ⟨g, 2, none⟩ v2).setCell ⟨g', 0, none⟩ (.int .i64 k)).setCell ⟨g', 1, none⟩ (.int .i64 n)).setCell ⟨g', 2, none⟩ (.string t)) g' (k, n, t) := (h.off3 hn).put
theorem vZ1 (w : World) (Y : Obj) : VAt ((w.alloc (.cells #[.int .i64 0, .int .i64 0, .string ⟨#[]⟩] 29)).alloc Y) w.heap.size zW := (Below.heap_alloc _ _ _ (by simp)).trans (heap_alloc_new _ _)
theorem Gr.put3 {a b : World} (h : Gr a b) {g : Nat} (hg : a.heap.size ≤ g) (v0 v1 v2 : Value) : Gr a (((b.setCell ⟨g, 0, none⟩ v0).setCell ⟨g, 1, none⟩ v1).setCell ⟨g, 2, none⟩ v2) := ((h.put hg 0 v0).put hg 1 v1).put hg 2 v2
theorem Gr.up {a b c : World} (h : Gr a b) (k : Gr b c) : Gr a c := h.trans k
theorem stC_cons (p : Nat) (ds : Bool) (os : List (Nat × Bool)) (a b : List V) : stC ((p, ds) :: os) a b = if (if ds then S.cmpW (atV b p) (atV a p) else S.cmpW (atV a p) (atV b p)) = 0 then stC os a b else (if ds then S.cmpW (atV b p) (atV a p) else S.cmpW (atV a p) (atV b p)) := rfl
set_option maxHeartbeats 40000000 in
set_option maxRecDepth 100000 in
theorem standing1 (g : Nat) (v1 v2 ov : Value) (os : List (Nat × Bool)) (a b : List V) (w : World) (h1 : E.Sl w v1 a) (h2 : E.Sl w v2 b) (ho : OrdAt w ov os) (hg : w.cell? ⟨g, 0, none⟩ = some ov) (hp : ∀ x ∈ os, x.1 ≤ 1000000) (hl : os.length ≤ 1000) :
    Calls Tryz.prog 82 #[v1, v2, .pointer (some ⟨g, 0, none⟩)] w fun e w' => e = .returned (.int .i64 (stC os a b)) ∧ Gr w w' := by
  have H1 := mkH h1
  have H2 := mkH h2
  have HO := mkH ho
  have HP := mkH hp
  obtain ⟨oa, oc, rfl, _, _⟩ := ho
  obtain ⟨a1, c1, rfl, _, _⟩ := h1
  obtain ⟨a2, c2, rfl, _, _⟩ := h2
  clear hp
  go_enter Tryz.func82, Tryz.ntmps82
  go_wp2
  go_loopw [13] (fun vi wr => ∃ k : Nat, k ≤ os.length ∧ vi = .int .i64 k ∧ Hid (stC (os.drop k) a b = stC os a b) ∧ Hid (Gr w wr)) (fun vi _ => os.length - (intOf vi).toNat)
  case atStart => exact ⟨0, Nat.zero_le _, rfl, mkH rfl, mkH (Gr.refl _)⟩
  case round =>
    obtain ⟨k, hk, rfl, HR, HG⟩ := hrel
    by_cases hlt : k < os.length
    · obtain ⟨x, hx⟩ : ∃ x, os[k]? = some x := ⟨_, List.getElem?_eq_getElem hlt⟩
      have hkn : (k : Int) < (os.length : Int) := by omega
      obtain ⟨a1', c1', e1, _, q1⟩ := HO.out.up HG.out.below
      injection e1 with e11 _ e13
      subst e11 e13
      obtain ⟨b1, o1, rfl, p1, r1⟩ := q1 (fun e => by rw [e] at hlt; simp at hlt)
      obtain ⟨x0, x1⟩ := r1 k x hx
      have HX := mkH (HP.out x (List.mem_of_getElem? hx))
      obtain ⟨xp, xd⟩ := x
      have HD : Hid (os.drop k = (xp, xd) :: os.drop (k + 1)) := mkH (by
        rw [List.getElem?_eq_getElem hlt] at hx
        injection hx with hx
        rw [List.drop_eq_getElem_cons hlt, hx])
      clear hx r1 q1
      go_upto_region 4 with fail
      have p0 : (wr.alloc (.cells #[.int .i64 (xp : Int), .bool xd] 128)).cell? ⟨wr.heap.size, 0, none⟩ = some (.int .i64 (xp : Int)) := by go_simp
      have pd : (wr.alloc (.cells #[.int .i64 (xp : Int), .bool xd] 128)).cell? ⟨wr.heap.size, 1, none⟩ = some (.bool xd) := by go_simp
      have s0 : wr.heap.size < (wr.alloc (.cells #[.int .i64 (xp : Int), .bool xd] 128)).heap.size := by simp
      have HGB : Hid (Gr w (wr.alloc (.cells #[.int .i64 (xp : Int), .bool xd] 128))) := mkH (HG.out.alloc _)
      obtain ⟨wb, hwb⟩ : ∃ wb, wr.alloc (.cells #[.int .i64 (xp : Int), .bool xd] 128) = wb := ⟨_, rfl⟩
      rw [hwb] at p0 pd s0 HGB
      rw [hwb]
      clear hwb
      obtain ⟨gO, hgO⟩ : ∃ gO, wr.heap.size = gO := ⟨_, rfl⟩
      rw [hgO] at p0 pd s0 ⊢
      clear hgO x0 x1 p1 HG
      obtain ⟨X, hX⟩ : ∃ X, atV a xp = X := ⟨_, rfl⟩
      obtain ⟨Y, hY⟩ : ∃ Y, atV b xp = Y := ⟨_, rfl⟩
      have OA : Hid (∀ W, Gr wb W → Calls Tryz.prog 83 #[.slice a1 a.length c1, .int .i64 (xp : Int)] W fun e w' => e = .returned (.agg #[.int .i64 X.1, .int .i64 X.2.1, .string X.2.2]) ∧ Gr W w') := mkH fun W hW => by
        have h := at_any _ a xp W (H1.out.up (HGB.out.trans hW).below) HX.out
        rw [hX] at h; exact h
      have OB : Hid (∀ W, Gr wb W → Calls Tryz.prog 83 #[.slice a2 b.length c2, .int .i64 (xp : Int)] W fun e w' => e = .returned (.agg #[.int .i64 Y.1, .int .i64 Y.2.1, .string Y.2.2]) ∧ Gr W w') := mkH fun W hW => by
        have h := at_any _ b xp W (H2.out.up (HGB.out.trans hW).below) HX.out
        rw [hY] at h; exact h
      have HXY := mkH (And.intro hX hY)
      clear hX hY
      obtain ⟨xk, xn, xt⟩ := X
      obtain ⟨yk, yn, yt⟩ := Y
      simp only at OA OB
      go_cut [8, 9] (fun v8 v9 wx => ∃ gx gy, v8 = .pointer (some ⟨gx, 0, none⟩) ∧ v9 = .pointer (some ⟨gy, 0, none⟩) ∧ Hid (VAt wx gx (xk, xn, xt) ∧ VAt wx gy (yk, yn, yt) ∧ Gr wb wx ∧ wb.heap.size ≤ gx ∧ wb.heap.size ≤ gy ∧ ¬ gx = gy))
      case first =>
        have : ¬ gO = wb.heap.size := by omega
        have : ¬ wb.heap.size = gO := by omega
        have : ¬ gO = wb.heap.size + 1 := by omega
        have : ¬ wb.heap.size + 1 = gO := by omega
        have hne1 := World.new_ne wb ⟨gO, 0, none⟩ p0
        go_region_held3 (fun w' => w'.cell? ⟨gO, 0, none⟩ = some (.int .i64 (xp : Int))) (go_keep) (first
          | (go_at_call 83
             with_reducible refine (OA.out _ (by first | exact (Gr.refl _).drew | exact ((Gr.refl _).alloc _).drew | exact (((Gr.refl _).alloc _).alloc _).drew | exact ((Gr.refl _).drew).alloc _ | exact (((Gr.refl _).drew).alloc _).alloc _)).mono ?_
             rintro e w5 ⟨rfl, hg5⟩
             have hb5 := hg5.below
             have B5 : Gr wb w5 := Gr.trans (by first | exact (Gr.refl _).drew | exact ((Gr.refl _).alloc _).drew | exact (((Gr.refl _).alloc _).alloc _).drew | exact ((Gr.refl _).drew).alloc _ | exact (((Gr.refl _).drew).alloc _).alloc _) hg5
             try (have ka : VAt w5 wb.heap.size zW := VAt.up (by first | exact heap_alloc_new _ _ | exact vZ1 _ _) hb5)
             try (have kb : VAt w5 (wb.heap.size + 1) zW := VAt.up (by exact heap_new1 _ _ _) hb5)
             have q0 : w5.cell? ⟨gO, 0, none⟩ = some (.int .i64 (xp : Int)) := (B5.below.cell (p := ⟨gO, 0, none⟩) s0).trans p0
             have z0 : gO < w5.heap.size := Nat.lt_of_lt_of_le s0 B5.below.size
             have zz : wb.heap.size ≤ w5.heap.size := B5.below.size
             try (have t1 : wb.heap.size < w5.heap.size := by (have := hb5.size; simp at this; omega))
             try (have t2 : wb.heap.size + 1 < w5.heap.size := by (have := hb5.size; simp at this; omega))
             try (have : ¬ wb.heap.size = w5.heap.size := by omega)
             try (have : ¬ w5.heap.size = wb.heap.size := by omega)
             try (have : ¬ wb.heap.size + 1 = w5.heap.size := by omega)
             try (have : ¬ w5.heap.size = wb.heap.size + 1 := by omega)
             try (have : ¬ wb.heap.size = w5.heap.size + 1 := by omega)
             try (have : ¬ w5.heap.size + 1 = wb.heap.size := by omega)
             try (have : ¬ wb.heap.size + 1 = w5.heap.size + 1 := by omega)
             try (have : ¬ w5.heap.size + 1 = wb.heap.size + 1 := by omega)
             have : ¬ gO = w5.heap.size := by omega
             have : ¬ w5.heap.size = gO := by omega
             have : ¬ gO = w5.heap.size + 1 := by omega
             have : ¬ w5.heap.size + 1 = gO := by omega
             have := World.new_ne w5 ⟨gO, 0, none⟩ q0
             try (obtain ⟨ka0, ka1, ka2⟩ := ka.cells)
             try (obtain ⟨kaf0, kaf1, kaf2⟩ := ka.free)
             try (obtain ⟨kb0, kb1, kb2⟩ := kb.cells)
             try (obtain ⟨kbf0, kbf1, kbf2⟩ := kb.free))
          | (go_at_call 83
             with_reducible refine (OB.out _ (by first | exact B5 | exact B5.alloc _ | exact (B5.alloc _).alloc _)).mono ?_
             rintro e w6 ⟨rfl, hg6⟩
             have hb6 := hg6.below
             have B6 : Gr wb w6 := Gr.trans (by first | exact B5 | exact B5.alloc _ | exact (B5.alloc _).alloc _) hg6
             try (have kc : VAt w6 wb.heap.size zW := VAt.up (by first | exact ka | exact ka.up ((Below.refl _ _).alloc (Nat.le_refl _) _) | exact ka.up (((Below.refl _ _).alloc (Nat.le_refl _) _).alloc (by simp) _)) hb6)
             try (have kd : VAt w6 (wb.heap.size + 1) zW := VAt.up (by first | exact kb | exact kb.up ((Below.refl _ _).alloc (Nat.le_refl _) _)) hb6)
             try (have ke : VAt w6 w5.heap.size zW := VAt.up (by first | exact heap_alloc_new _ _ | exact vZ1 _ _) hb6)
             try (have kf : VAt w6 (w5.heap.size + 1) zW := VAt.up (by exact heap_new1 _ _ _) hb6)
             have t56 : w5.heap.size ≤ w6.heap.size := Nat.le_trans (by first | exact Nat.le_refl _ | (simp; done) | (simp; omega)) hb6.size
             try (have t3 : wb.heap.size < w6.heap.size := by omega)
             try (have t4 : wb.heap.size + 1 < w6.heap.size := by omega)
             try (have t5 : w5.heap.size < w6.heap.size := by (have := hb6.size; simp at this; omega))
             try (have t6 : w5.heap.size + 1 < w6.heap.size := by (have := hb6.size; simp at this; omega))
             try (have : ¬ wb.heap.size = w6.heap.size := by omega)
             try (have : ¬ w6.heap.size = wb.heap.size := by omega)
             try (have : ¬ wb.heap.size = w6.heap.size + 1 := by omega)
             try (have : ¬ w6.heap.size + 1 = wb.heap.size := by omega)
             try (have : ¬ wb.heap.size + 1 = w6.heap.size := by omega)
             try (have : ¬ w6.heap.size = wb.heap.size + 1 := by omega)
             try (have : ¬ wb.heap.size + 1 = w6.heap.size + 1 := by omega)
             try (have : ¬ w6.heap.size + 1 = wb.heap.size + 1 := by omega)
             try (have : ¬ w5.heap.size = w6.heap.size := by omega)
             try (have : ¬ w6.heap.size = w5.heap.size := by omega)
             try (have : ¬ w5.heap.size = w6.heap.size + 1 := by omega)
             try (have : ¬ w6.heap.size + 1 = w5.heap.size := by omega)
             try (have : ¬ w5.heap.size + 1 = w6.heap.size := by omega)
             try (have : ¬ w6.heap.size = w5.heap.size + 1 := by omega)
             try (have : ¬ w5.heap.size + 1 = w6.heap.size + 1 := by omega)
             try (have : ¬ w6.heap.size + 1 = w5.heap.size + 1 := by omega)
             have r0 : w6.cell? ⟨gO, 0, none⟩ = some (.int .i64 (xp : Int)) := (B6.below.cell (p := ⟨gO, 0, none⟩) s0).trans p0
             have y0 : gO < w6.heap.size := Nat.lt_of_lt_of_le s0 B6.below.size
             have : ¬ gO = w6.heap.size := by omega
             have : ¬ w6.heap.size = gO := by omega
             have : ¬ gO = w6.heap.size + 1 := by omega
             have : ¬ w6.heap.size + 1 = gO := by omega
             have := World.new_ne w6 ⟨gO, 0, none⟩ r0
             try (obtain ⟨kc0, kc1, kc2⟩ := kc.cells)
             try (obtain ⟨kcf0, kcf1, kcf2⟩ := kc.free)
             try (obtain ⟨kd0, kd1, kd2⟩ := kd.cells)
             try (obtain ⟨kdf0, kdf1, kdf2⟩ := kd.free)
             try (obtain ⟨ke0, ke1, ke2⟩ := ke.cells)
             try (obtain ⟨kef0, kef1, kef2⟩ := ke.free)
             try (obtain ⟨kf0, kf1, kf2⟩ := kf.cells)
             try (obtain ⟨kff0, kff1, kff2⟩ := kf.free)))
        all_goals (try go_wp2_with fail)
        all_goals go_meet
        all_goals
          case rel =>
            have u5 := B5.below.size
            have u6 := B6.below.size
            refine ⟨_, _, rfl, rfl, mkH ⟨?_, ?_, ?_, by omega, by omega, by omega⟩⟩
            · first
                | with_reducible exact vA1 _ _
                | with_reducible exact vA2 _ _
                | with_reducible exact vB1 (by assumption) _
                | with_reducible exact vB2 _
                | with_reducible exact vC1 (by assumption) (by omega)
                | with_reducible exact vC2 (by assumption) (by omega)
            · first
                | with_reducible exact vA1 _ _
                | with_reducible exact vA2 _ _
                | with_reducible exact vB1 (by assumption) _
                | with_reducible exact vB2 _
                | with_reducible exact vC1 (by assumption) (by omega)
                | with_reducible exact vC2 (by assumption) (by omega)
            · repeat (first
                | with_reducible exact B6
                | with_reducible refine Gr.put3 ?_ (by omega) _ _ _
                | with_reducible refine Gr.alloc ?_ _)
      case rest =>
        obtain ⟨gx, gy, rfl, rfl, hcut⟩ := hcut
        obtain ⟨kx, ky, kg, n1, n2, n3⟩ := hcut.out
        clear hcut OA OB
        have C := mkH kg
        have HN := mkH (And.intro n1 (And.intro n2 n3))
        obtain ⟨x0, x1, x2⟩ := kx.cells
        obtain ⟨y0, y1, y2⟩ := ky.cells
        obtain ⟨xf0, xf1, xf2⟩ := kx.free
        obtain ⟨yf0, yf1, yf2⟩ := ky.free
        replace pd : wc.cell? ⟨gO, 1, none⟩ = some (.bool xd) := (kg.below.cell (p := ⟨gO, 1, none⟩) s0).trans pd
        have lx := kx.lt
        have ly := ky.lt
        have n3' : ¬ gy = gx := fun e => n3 e.symm
        have n4 : ¬ gO = gx := by omega
        have n5 : ¬ gO = gy := by omega
        have n6 : ¬ gx = gO := by omega
        have n7 : ¬ gy = gO := by omega
        clear kx ky kg p0 s0 n1 n2
        cases xd with
        | false =>
          go_wp2_with fail
          with_reducible refine (compareX _ _ _ _ _ _ _).mono ?_
          rintro e w1 ⟨rfl, hg1⟩
          have HG1 : Hid (Gr w w1) := mkH (HGB.out.trans (Gr.trans C.out hg1))
          have HV : Hid (S.cmpV xk xn xt yk yn yt = S.cmpW (xk, xn, xt) (yk, yn, yt)) := mkH rfl
          have HS : Hid (stC os a b = if S.cmpW (xk, xn, xt) (yk, yn, yt) = 0 then stC (os.drop (k + 1)) a b else S.cmpW (xk, xn, xt) (yk, yn, yt)) := mkH (by rw [← HR.out, HD.out, stC_cons, HXY.out.1, HXY.out.2]; rfl)
          clear hg1
          generalize S.cmpV xk xn xt yk yn yt = cv at HV ⊢
          by_cases hz : cv = 0
          · have HD2 : Hid (stC (os.drop (k + 1)) a b = stC os a b) := mkH (by rw [HS.out, if_pos (by rw [← HV.out]; exact hz)])
            subst hz
            go_wp2
            exact ⟨⟨k + 1, by omega, by go_num, HD2, HG1⟩, by simp [intOf]; omega⟩
          · have HD2 : Hid (cv = stC os a b) := mkH (by rw [HS.out, if_neg (by rw [← HV.out]; exact hz)]; exact HV.out)
            have hzb : (cv == 0) = false := by simpa using hz
            go_wp2
            go_ret
            exact ⟨congrArg (fun x => Ending.returned (.int .i64 x)) HD2.out, HG1.out⟩
        | true =>
          go_wp2_with fail
          with_reducible refine (compareX _ _ _ _ _ _ _).mono ?_
          rintro e w1 ⟨rfl, hg1⟩
          have HG1 : Hid (Gr w w1) := mkH (HGB.out.trans (Gr.trans ((C.out.put3 HN.out.1 _ _ _).put3 HN.out.2.1 _ _ _) hg1))
          have HV : Hid (S.cmpV yk yn yt xk xn xt = S.cmpW (yk, yn, yt) (xk, xn, xt)) := mkH rfl
          have HS : Hid (stC os a b = if S.cmpW (yk, yn, yt) (xk, xn, xt) = 0 then stC (os.drop (k + 1)) a b else S.cmpW (yk, yn, yt) (xk, xn, xt)) := mkH (by rw [← HR.out, HD.out, stC_cons, HXY.out.1, HXY.out.2]; rfl)
          clear hg1
          generalize S.cmpV yk yn yt xk xn xt = cv at HV ⊢
          by_cases hz : cv = 0
          · have HD2 : Hid (stC (os.drop (k + 1)) a b = stC os a b) := mkH (by rw [HS.out, if_pos (by rw [← HV.out]; exact hz)])
            subst hz
            go_wp2
            exact ⟨⟨k + 1, by omega, by go_num, HD2, HG1⟩, by simp [intOf]; omega⟩
          · have HD2 : Hid (cv = stC os a b) := mkH (by rw [HS.out, if_neg (by rw [← HV.out]; exact hz)]; exact HV.out)
            have hzb : (cv == 0) = false := by simpa using hz
            go_wp2
            go_ret
            exact ⟨congrArg (fun x => Ending.returned (.int .i64 x)) HD2.out, HG1.out⟩
    · have hkn : ¬ (k : Int) < (os.length : Int) := by omega
      have HD : Hid (stC os a b = 0) := mkH (by rw [← HR.out, List.drop_eq_nil_of_le (by omega)]; rfl)
      go_wp2
      go_ret
      exact ⟨congrArg (fun x => Ending.returned (.int .i64 x)) HD.out.symm, HG.out⟩
end Go.Proofs.YtlnkbhbpkmnkaaaGreatDoor.F
