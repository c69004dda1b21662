/- slices.EqualFunc at groups, with file.same; said of every call. -/
import Derived.Test.YtodemklghajdeaaGreatDoorFX3
namespace Go.Proofs.YtodemklghajdeaaGreatDoor
open Go.RowKit Go.Proofs Go.Shelf Go.Joins

def eqV3 (x y : V) : Bool := x.1 == y.1 && (x.2.1 == y.2.1 && x.2.2.toList == y.2.2.toList)
def eqS (x y : S.St) : Bool := x.1 == y.1 && (x.2.1 == y.2.1 && (eqV3 x.2.2.1 y.2.2.1 && eqV3 x.2.2.2 y.2.2.2))

set_option maxHeartbeats 4000000 in
theorem neqS : NeqAt Tryz.prog 70 (fun x : S.St => .agg (encS x).toArray) eqS := by
  refine ⟨fun x y w => ?_, GuardAt.agg _ (by kernel_rfl)⟩
  obtain ⟨x1, x2, ⟨x3, x4, x5⟩, ⟨x6, x7, x8⟩⟩ := x
  obtain ⟨y1, y2, ⟨y3, y4, y5⟩, ⟨y6, y7, y8⟩⟩ := y
  have hS : Tryz.prog.underlying 70 = some (.struct (Tryz.prog.fieldsOf 70)) := by kernel_rfl
  have hp : Tryz.prog.stoodInHeld 70 = false := by kernel_rfl
  have hS2 : Tryz.prog.underlying 45 = some (.struct (Tryz.prog.fieldsOf 45)) := by kernel_rfl
  have hp2 : Tryz.prog.stoodInHeld 45 = false := by kernel_rfl
  have u2 := Tryz.underlying2; have a2 := Tryz.isAgg2; have z2 := Tryz.sizeOf2
  have u3 := Tryz.underlying3; have a3 := Tryz.isAgg3; have z3 := Tryz.sizeOf3
  have u9 := Tryz.underlying9; have a9 := Tryz.isAgg9; have z9 := Tryz.sizeOf9
  have a23 := Tryz.isAgg45; have z23 := Tryz.sizeOf45
  simp only [encS, S.cellsS, eqS, eqV3]
  rw [run_neq_struct, show (10000 : Nat) = 9999 + 1 from rfl, run_equalIn_agg w 9999 70 _ _ hS hp]
  simp only [Program.fieldsOf, Tryz.underlying70]
  clear hS hp hS2 hp2
  go_simp
  by_cases h1 : x1 = y1
  case neg => rw [if_neg h1]; simp [h1]
  rw [if_pos h1]
  by_cases h2 : x2 = y2
  case neg => rw [if_neg h2]; simp [h2]
  rw [if_pos h2]
  by_cases h3 : x3 = y3
  case neg => rw [if_neg h3]; simp [h3]
  rw [if_pos h3]
  by_cases h4 : x4 = y4
  case neg => rw [if_neg h4]; simp [h4]
  rw [if_pos h4]
  by_cases h5 : x5.toList = y5.toList
  case neg => rw [if_neg h5]; simp [h5]
  rw [if_pos h5]
  by_cases h6 : x6 = y6
  case neg => rw [if_neg h6]; simp [h6]
  rw [if_pos h6]
  by_cases h7 : x7 = y7
  case neg => rw [if_neg h7]; simp [h7]
  rw [if_pos h7]
  by_cases h8 : x8.toList = y8.toList
  case neg => rw [if_neg h8]; simp [h8]
  rw [if_pos h8]
  simp [h1, h2, h3, h4, h5, h6, h7, h8]
theorem eqV3_iff (x y : V) : eqV3 x y = true ↔ x = y := by
  obtain ⟨a, b, c⟩ := x
  obtain ⟨d, e, f⟩ := y
  simp only [eqV3, Bool.and_eq_true, beq_iff_eq, Prod.mk.injEq]
  constructor
  · rintro ⟨h1, h2, h3⟩; exact ⟨h1, h2, by rw [ByteArray.toList_eq, ByteArray.toList_eq] at h3; exact ByteArray.ext (Array.toList_inj.1 h3)⟩
  · rintro ⟨h1, h2, h3⟩; exact ⟨h1, h2, by rw [h3]⟩
theorem eqS_iff (x y : S.St) : eqS x y = true ↔ x = y := by
  obtain ⟨a, b, c, d⟩ := x
  obtain ⟨e, f, g, h⟩ := y
  simp only [eqS, Bool.and_eq_true, beq_iff_eq, Prod.mk.injEq, eqV3_iff]
theorem allEq_iff {α : Type} {eq : α → α → Bool} (h : ∀ x y, eq x y = true ↔ x = y) : ∀ l m : List α, Lib.allEq eq l m = true ↔ l = m
  | [], [] => by simp [Lib.allEq]
  | [], _ :: _ => by simp [Lib.allEq]
  | _ :: _, [] => by simp [Lib.allEq]
  | x :: l, y :: m => by simp only [Lib.allEq, Bool.and_eq_true, allEq_iff h l m, List.cons.injEq, h x y]
theorem SlE.flat {α : Type} [Inhabited α] {k : Nat} {enc : α → List Value} {w : World} {b off n c : Nat} {l : List α} (h : SlE k enc w (.slice (some ⟨b, off, none⟩) n c) l) (hl : 0 < l.length) : ∀ j, j < l.length → ∀ i v, (enc l[j]!)[i]? = some v → w.cell? ⟨b, off + j * k + i, none⟩ = some v := by
  obtain ⟨b', off', c', e, _, _, hc⟩ := h.cons hl
  injection e with e1 _ _
  injection e1 with e1
  injection e1 with e1 e2 _
  subst e1 e2
  intro j hj i v hv
  rw [getElem!_pos l j hj] at hv
  exact hc j _ (List.getElem?_eq_getElem hj) i v hv
theorem equalS_any (v1 v2 : Value) (l m : List S.St) (w : World) (h1 : SlE 8 encS w v1 l) (h2 : SlE 8 encS w v2 m) (hl : 0 < l.length) (hm : 0 < m.length) (hl8 : l.length ≤ 1000) (hm8 : m.length ≤ 1000) :
    Calls Tryz.prog 92 #[v1, v2] w fun e w' => e = .returned (.bool (Lib.allEq eqS l m)) ∧ Below w.heap.size w w' := by
  obtain ⟨b1, o1, c1, rfl, _, _, _⟩ := h1.cons hl
  obtain ⟨b2, o2, c2, rfl, _, _, _⟩ := h2.cons hm
  refine (AnyQ.slices_Equal Tryz.layEqS 8 Tryz.isAgg70 Tryz.sizeOf70 encS encS_len eqS neqS b1 o1 l.length c1 b2 o2 m.length c2 l m w (Nat.le_refl _) (Nat.le_refl _) (by omega) (by omega) (h1.flat hl) (h2.flat hm)).mono ?_
  rintro e w' ⟨rfl, q, rfl⟩
  exact ⟨by rw [List.take_length, List.take_length], ⟨rfl, rfl, rfl, Nat.le_refl _, fun _ _ => rfl⟩⟩
def eqT (x y : List UInt8) : Bool := x == y
theorem eqT_iff (x y : List UInt8) : eqT x y = true ↔ x = y := by simp [eqT]
theorem neqT : NeqAt Tryz.prog 9 (fun b : List UInt8 => .string (E.str b)) eqT := by
  refine ⟨fun x y w => ?_, fun op a b x y w => (NeqAt.string Tryz.prog 9).2 op a b (E.str x) (E.str y) w⟩
  rw [(NeqAt.string Tryz.prog 9).1 (E.str x) (E.str y) w]
  simp [eqT, E.str, ByteArray.toList_eq]
theorem equalT_any (v1 v2 : Value) (l m : List (List UInt8)) (w : World) (h1 : SlE 1 encT w v1 l) (h2 : SlE 1 encT w v2 m) (hl : 0 < l.length) (hm : 0 < m.length) (hl8 : l.length ≤ 1000) (hm8 : m.length ≤ 1000) :
    Calls Tryz.prog 93 #[v1, v2] w fun e w' => e = .returned (.bool (Lib.allEq eqT l m)) ∧ Below w.heap.size w w' := by
  obtain ⟨b1, o1, c1, rfl, _, _, _⟩ := h1.cons hl
  obtain ⟨b2, o2, c2, rfl, _, _, _⟩ := h2.cons hm
  refine (Tryz.slices_Equal (fun b : List UInt8 => .string (E.str b)) eqT neqT b1 o1 l.length c1 b2 o2 m.length c2 l m w (Nat.le_refl _) (Nat.le_refl _) (by omega) (by omega) (fun j hj => by have := h1.flat hl j hj 0 _ rfl; simpa using this) (fun j hj => by have := h2.flat hm j hj 0 _ rfl; simpa using this)).mono ?_
  rintro e w' ⟨rfl, q, rfl⟩
  exact ⟨by rw [List.take_length, List.take_length], ⟨rfl, rfl, rfl, Nat.le_refl _, fun _ _ => rfl⟩⟩

def sameB (a b : Grp) : Bool := decide ((a.1 : Int) = b.1) && (Lib.allEq eqS a.2.1 b.2.1 && Lib.allEq eqT a.2.2 b.2.2)
theorem sameB_iff (a b : Grp) : sameB a b = true ↔ a = b := by
  obtain ⟨n, s, t⟩ := a
  obtain ⟨m, u, v⟩ := b
  simp only [sameB, Bool.and_eq_true, decide_eq_true_eq, allEq_iff eqS_iff, allEq_iff eqT_iff, Prod.mk.injEq]
  constructor
  · rintro ⟨h1, h2, h3⟩; exact ⟨by omega, h2, h3⟩
  · rintro ⟨h1, h2, h3⟩; exact ⟨by omega, h2, h3⟩
set_option maxHeartbeats 4000000 in
set_option maxRecDepth 100000 in
theorem same_any (x y : Int × Value × Value) (a b : Grp) (w : World) (hx : GrpAt w x a) (hy : GrpAt w y b) (h1 : 0 < a.2.1.length) (h2 : 0 < a.2.2.length) (h3 : 0 < b.2.1.length) (h4 : 0 < b.2.2.length) (k1 : a.2.1.length ≤ 1000) (k2 : a.2.2.length ≤ 1000) (k3 : b.2.1.length ≤ 1000) (k4 : b.2.2.length ≤ 1000) :
    Calls Tryz.prog 66 #[.agg #[.int .i64 x.1, x.2.1, x.2.2], .agg #[.int .i64 y.1, y.2.1, y.2.2]] w fun e w' => e = .returned (.bool (sameB a b)) ∧ Below w.heap.size w w' := by
  obtain ⟨x1, xs, xt⟩ := x
  obtain ⟨y1, ys, yt⟩ := y
  obtain ⟨ex, hxs, hxt⟩ := hx
  obtain ⟨ey, hys, hyt⟩ := hy
  dsimp only at ex hxs hxt ey hys hyt
  subst ex ey
  have HS := mkH (fun W (hW : Below w.heap.size w W) => equalS_any xs ys a.2.1 b.2.1 W (hxs.up hW) (hys.up hW) h1 h3 k1 k3)
  have HT := mkH (fun W (hW : Below w.heap.size w W) => equalT_any xt yt a.2.2 b.2.2 W (hxt.up hW) (hyt.up hW) h2 h4 k2 k4)
  obtain ⟨xa, xc, rfl, _⟩ := hxs.slice
  obtain ⟨ya, yc, rfl, _⟩ := hys.slice
  obtain ⟨ta, tc, rfl, _⟩ := hxt.slice
  obtain ⟨ua, uc, rfl, _⟩ := hyt.slice
  clear hxs hys hxt hyt h1 h2 h3 h4 k1 k2 k3 k4
  obtain ⟨hs2, hX, hY, hB⟩ := two_new w (.cells #[.int .i64 a.1, .slice xa a.2.1.length xc, .slice ta a.2.2.length tc] 88) (.cells #[.int .i64 b.1, .slice ya b.2.1.length yc, .slice ua b.2.2.length uc] 88)
  have HK : Hid (∀ W, Below (w.heap.size + 2) ((w.alloc (.cells #[.int .i64 a.1, .slice xa a.2.1.length xc, .slice ta a.2.2.length tc] 88)).alloc (.cells #[.int .i64 b.1, .slice ya b.2.1.length yc, .slice ua b.2.2.length uc] 88)) W → W.heap[w.heap.size]? = some (.cells #[.int .i64 a.1, .slice xa a.2.1.length xc, .slice ta a.2.2.length tc] 88) ∧ W.heap[w.heap.size + 1]? = some (.cells #[.int .i64 b.1, .slice ya b.2.1.length yc, .slice ua b.2.2.length uc] 88) ∧ Below w.heap.size w W) := mkH (fun W hW => by
    have hW' : Below ((w.alloc (.cells #[.int .i64 a.1, .slice xa a.2.1.length xc, .slice ta a.2.2.length tc] 88)).alloc (.cells #[.int .i64 b.1, .slice ya b.2.1.length yc, .slice ua b.2.2.length uc] 88)).heap.size ((w.alloc (.cells #[.int .i64 a.1, .slice xa a.2.1.length xc, .slice ta a.2.2.length tc] 88)).alloc (.cells #[.int .i64 b.1, .slice ya b.2.1.length yc, .slice ua b.2.2.length uc] 88)) W := by rw [hs2]; exact hW
    exact ⟨(hW'.block w.heap.size (by omega)).trans hX, (hW'.block (w.heap.size + 1) (by omega)).trans hY, ups hB hW'⟩)
  have HS2 := mkH hs2
  have HB := mkH hB
  obtain ⟨p0, p1, p2, _⟩ := row3 hX
  obtain ⟨r0, r1, r2, _⟩ := row3 hY
  clear hX hY hB hs2
  have HSB : Hid (sameB a b = (decide ((a.1 : Int) = b.1) && (Lib.allEq eqS a.2.1 b.2.1 && Lib.allEq eqT a.2.2 b.2.2))) := mkH rfl
  generalize (a.1 : Int) = n1 at *
  generalize (b.1 : Int) = n2 at *
  by_cases e1 : n1 = n2
  · subst e1
    have HR : Hid (sameB a b = (Lib.allEq eqS a.2.1 b.2.1 && Lib.allEq eqT a.2.2 b.2.2)) := mkH (by rw [HSB.out]; simp)
    clear HSB
    generalize Lib.allEq eqS a.2.1 b.2.1 = q1 at *
    generalize Lib.allEq eqT a.2.2 b.2.2 = q2 at *
    go_enter Tryz.func66, Tryz.ntmps66
    go_wp2_with fail
    refine (HS.out _ (by first | exact HB.out | exact HB.out.drew)).mono ?_
    rintro e w1 ⟨rfl, hb1⟩
    obtain ⟨hX, hY, hbw⟩ := HK.out w1 (by have := HS2.out; first | (rw [← this]; exact hb1) | (rw [← this]; exact ups (Below.refl _ _).drew hb1))
    obtain ⟨p0, p1, p2, _⟩ := row3 hX
    obtain ⟨r0, r1, r2, _⟩ := row3 hY
    cases q1 with
    | false =>
      go_wp2
      go_ret
      rw [HR.out]
      exact ⟨rfl, hbw⟩
    | true =>
      go_wp2_with fail
      refine (HT.out _ (by first | exact hbw | exact hbw.drew)).mono ?_
      rintro e w2 ⟨rfl, hb2⟩
      go_wp2
      go_ret
      rw [HR.out]
      exact ⟨rfl, by first | exact ups hbw hb2 | exact ups hbw.drew hb2⟩
  · have HR : Hid (sameB a b = false) := mkH (by rw [HSB.out, decide_eq_false e1]; rfl)
    clear HSB
    go_enter Tryz.func66, Tryz.ntmps66
    go_wp2
    go_ret
    rw [HR.out]
    exact ⟨rfl, HB.out⟩
end Go.Proofs.YtodemklghajdeaaGreatDoor

namespace Go.Proofs.YtodemklghajdeaaGreatDoor
open Go.RowKit Go.Proofs Go.Shelf Go.Joins

theorem SlG.get {w : World} {v : Value} {gs : List Grp} {k : Nat} {g : Grp} (h : SlG w v gs) (hk : gs[k]? = some g) : ∃ b off c sa sc ta tc, v = .slice (some ⟨b, off, none⟩) gs.length c ∧ b < w.heap.size ∧ w.cell? ⟨b, off + k * 3, none⟩ = some (.int .i64 g.1) ∧ w.cell? ⟨b, off + k * 3 + 1, none⟩ = some (.slice sa g.2.1.length sc) ∧ w.cell? ⟨b, off + k * 3 + 2, none⟩ = some (.slice ta g.2.2.length tc) ∧ GrpAt w (g.1, .slice sa g.2.1.length sc, .slice ta g.2.2.length tc) g := by
  obtain ⟨xs, he, hlen, hg⟩ := h
  have hkl := lt_of_some hk
  obtain ⟨x, hx⟩ : ∃ x, xs[k]? = some x := ⟨_, List.getElem?_eq_getElem (by omega)⟩
  have hG := hg k x g hx hk
  obtain ⟨b, off, c, rfl, _, hb, hc⟩ := he.cons (by omega)
  obtain ⟨x1, xs', xt⟩ := x
  have hG' := hG
  obtain ⟨ex, h1, h2⟩ := hG
  dsimp only at ex h1 h2
  subst ex
  obtain ⟨sa, sc, rfl, _⟩ := h1.slice
  obtain ⟨ta, tc, rfl, _⟩ := h2.slice
  exact ⟨b, off, c, sa, sc, ta, tc, by rw [hlen], hb, hc k _ hx 0 _ rfl, hc k _ hx 1 _ rfl, hc k _ hx 2 _ rfl, hG'⟩
theorem allEq_next {α : Type} {eq : α → α → Bool} {l m : List α} {k : Nat} {x y : α} (hx : l[k]? = some x) (hy : m[k]? = some y) : Lib.allEq eq (l.drop k) (m.drop k) = (eq x y && Lib.allEq eq (l.drop (k + 1)) (m.drop (k + 1))) := by
  have e1 : l.drop k = x :: l.drop (k + 1) := by rw [List.drop_eq_getElem_cons (lt_of_some hx)]; rw [List.getElem?_eq_getElem (lt_of_some hx)] at hx; injection hx with hx; rw [hx]
  have e2 : m.drop k = y :: m.drop (k + 1) := by rw [List.drop_eq_getElem_cons (lt_of_some hy)]; rw [List.getElem?_eq_getElem (lt_of_some hy)] at hy; injection hy with hy; rw [hy]
  rw [e1, e2, Lib.allEq]
theorem allEq_len {α : Type} {eq : α → α → Bool} : ∀ {l m : List α}, l.length ≠ m.length → Lib.allEq eq l m = false
  | [], [], h => absurd rfl h
  | [], _ :: _, _ => rfl
  | _ :: _, [], _ => rfl
  | x :: l, y :: m, h => by
    have h' : l.length ≠ m.length := by intro e; exact h (by simp [e])
    rw [Lib.allEq, allEq_len h', Bool.and_false]
def FitG (g : Grp) : Prop := 0 < g.2.1.length ∧ 0 < g.2.2.length ∧ g.2.1.length ≤ 1000 ∧ g.2.2.length ≤ 1000
set_option maxHeartbeats 4000000 in
set_option maxRecDepth 100000 in
theorem equalG_any (v1 v2 : Value) (l m : List Grp) (w : World) (h1 : SlG w v1 l) (h2 : SlG w v2 m) (hl : l.length ≤ 1000) (_hm : m.length ≤ 1000) (hfl : ∀ g ∈ l, FitG g) (hfm : ∀ g ∈ m, FitG g) :
    Calls Tryz.prog 65 #[v1, v2, .func (.func 66) #[] #[]] w fun e w' => e = .returned (.bool (Lib.allEq sameB l m)) ∧ Below w.heap.size w w' := by
  have H1 := mkH h1
  have H2 := mkH h2
  have HFL := mkH hfl
  have HFM := mkH hfm
  obtain ⟨a1, c1, rfl, _⟩ := h1.slice
  obtain ⟨a2, c2, rfl, _⟩ := h2.slice
  clear h1 h2 hfl hfm
  by_cases hn : l.length = m.length
  · have HN := mkH hn
    generalize hq : m.length = n at *
    have HQ := mkH hq
    clear hq
    rw [hn] at H1 hl ⊢
    clear hn
    go_enter Tryz.func65, Tryz.ntmps65
    go_wp2
    go_loopw [17] (fun vi wr => ∃ k : Nat, k ≤ n ∧ vi = .int .i64 k ∧ Hid (Lib.allEq sameB l m = Lib.allEq sameB (l.drop k) (m.drop k)) ∧ Hid (Below w.heap.size w wr)) (fun vi _ => n - (intOf vi).toNat)
    case atStart => exact ⟨0, Nat.zero_le _, rfl, mkH rfl, mkH (Below.refl _ _)⟩
    case round =>
      obtain ⟨k, hk, rfl, hgo, hbR⟩ := hrel
      by_cases hlt : k < n
      · obtain ⟨ga, hga⟩ : ∃ g, l[k]? = some g := ⟨_, List.getElem?_eq_getElem (by have := HN.out; omega)⟩
        obtain ⟨gb, hgb⟩ : ∃ g, m[k]? = some g := ⟨_, List.getElem?_eq_getElem (by have := HQ.out; omega)⟩
        obtain ⟨b1, o1, d1, sa, sc, ta, tc, e1, hb1, p0, p1, p2, hA⟩ := (H1.out.up hbR.out).get hga
        obtain ⟨b2, o2, d2, sb, sd, tb, td, e2, hb2, r0, r1, r2, hBB⟩ := (H2.out.up hbR.out).get hgb
        injection e1 with e11 e12 e13
        injection e2 with e21 e22 e23
        clear e12 e22
        subst e11 e13 e21 e23
        have HA := mkH (And.intro hA (And.intro hBB (And.intro (HFL.out ga (List.mem_of_getElem? hga)) (HFM.out gb (List.mem_of_getElem? hgb)))))
        have HGO : Hid (Lib.allEq sameB l m = (sameB ga gb && Lib.allEq sameB (l.drop (k + 1)) (m.drop (k + 1)))) := mkH (by rw [hgo.out, allEq_next hga hgb])
        have hkn : (k : Int) < (n : Int) := by omega
        have hX1 : Below wr.heap.size wr (wr.alloc (.cells #[.int .i64 ga.1, .slice sa ga.2.1.length sc, .slice ta ga.2.2.length tc] 88)) := (Below.refl _ _).alloc (Nat.le_refl _) _
        replace r0 := cell_up hX1 r0
        replace r1 := cell_up hX1 r1
        replace r2 := cell_up hX1 r2
        obtain ⟨hs2, hX, hY, hB⟩ := two_new wr (.cells #[.int .i64 ga.1, .slice sa ga.2.1.length sc, .slice ta ga.2.2.length tc] 88) (.cells #[.int .i64 gb.1, .slice sb gb.2.1.length sd, .slice tb gb.2.2.length td] 88)
        obtain ⟨x0, x1, x2, _⟩ := row3 hX
        obtain ⟨y0, y1, y2, _⟩ := row3 hY
        have HSM : Hid (Calls Tryz.prog 66 #[.agg #[.int .i64 ga.1, .slice sa ga.2.1.length sc, .slice ta ga.2.2.length tc], .agg #[.int .i64 gb.1, .slice sb gb.2.1.length sd, .slice tb gb.2.2.length td]] ((wr.alloc (.cells #[.int .i64 ga.1, .slice sa ga.2.1.length sc, .slice ta ga.2.2.length tc] 88)).alloc (.cells #[.int .i64 gb.1, .slice sb gb.2.1.length sd, .slice tb gb.2.2.length td] 88)) fun e w' => e = .returned (.bool (sameB ga gb)) ∧ Below wr.heap.size wr w') := mkH ((same_any (ga.1, .slice sa ga.2.1.length sc, .slice ta ga.2.2.length tc) (gb.1, .slice sb gb.2.1.length sd, .slice tb gb.2.2.length td) ga gb _ (hA.up hB) (hBB.up hB) HA.out.2.2.1.1 HA.out.2.2.1.2.1 HA.out.2.2.2.1 HA.out.2.2.2.2.1 HA.out.2.2.1.2.2.1 HA.out.2.2.1.2.2.2 HA.out.2.2.2.2.2.1 HA.out.2.2.2.2.2.2).mono fun e w' ⟨he, hb⟩ => ⟨he, ups hB hb⟩)
        have HBR := mkH hbR.out
        clear hga hgb hgo hX hY hB hs2 hX1 hA hBB HA
        generalize sameB ga gb = q at *
        go_wp2_with fail
        refine HSM.out.mono ?_
        rintro e w1 ⟨rfl, hb1'⟩
        have hbf := ups HBR.out hb1'
        cases q with
        | false =>
          go_wp2
          go_ret
          rw [HGO.out]
          exact ⟨rfl, hbf⟩
        | true =>
          go_wp2
          exact ⟨⟨k + 1, by omega, by go_num, HGO, mkH hbf⟩, by simp [intOf]; omega⟩
      · have hkn : ¬ (k : Int) < (n : Int) := by omega
        have HE : Hid (Lib.allEq sameB l m = true) := mkH (by rw [hgo.out, List.drop_of_length_le (by have := HN.out; omega), List.drop_of_length_le (by have := HQ.out; omega)]; rfl)
        go_wp2
        go_ret
        rw [HE.out]
        exact ⟨rfl, hbR.out⟩
  · have HE : Hid (Lib.allEq sameB l m = false) := mkH (allEq_len hn)
    have hn2 : ¬ (l.length : Int) = (m.length : Int) := by omega
    generalize l.length = n1 at *
    generalize m.length = n2 at *
    clear hn
    go_enter Tryz.func65, Tryz.ntmps65
    go_wp2
    go_ret
    rw [HE.out]
    exact ⟨rfl, Below.refl _ _⟩
end Go.Proofs.YtodemklghajdeaaGreatDoor
