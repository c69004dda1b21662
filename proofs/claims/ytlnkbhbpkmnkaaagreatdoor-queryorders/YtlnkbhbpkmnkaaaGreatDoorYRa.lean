/- What query.at and query.standing do, said of every call: a row's value at a place; which of two rows is ahead. -/
import Derived.Test.YtlnkbhbpkmnkaaaGreatDoorQN
import Derived.Sort.Grow
import Derived.Deep.Draws
import Derived.Shelf.SlGeneric
import Derived.Ground.SlsfProg
import Derived.Ground.SlgnProg
import Derived.Shelf.SlLaysF
import Derived.Shelf.SlLaysF0
import Derived.Shelf.SlicesE.Clone
import Derived.Test.YtlnkbhbpkmnkaaaGreatDoorProg
import Derived.Shelf.SlSortCmp.Kit1
namespace Go.Proofs.YtlnkbhbpkmnkaaaGreatDoor.F
open Go.RowKit Go.Proofs Go.Shelf Go.Joins

/-- Which of two rows is ahead: -1, 0, 1. -/
def rowC : List V → List V → Int
  | [], [] => 0
  | [], _ :: _ => -1
  | _ :: _, [] => 1
  | x :: a, y :: b => if S.cmpW x y = 0 then rowC a b else S.cmpW x y
theorem rowC_range : ∀ a b : List V, rowC a b = -1 ∨ rowC a b = 0 ∨ rowC a b = 1
  | [], [] => .inr (.inl rfl)
  | [], _ :: _ => .inl rfl
  | _ :: _, [] => .inr (.inr rfl)
  | x :: a, y :: b => by
    unfold rowC
    split
    · exact rowC_range a b
    · exact S.cmpW_range x y
theorem rowC_swap : ∀ a b : List V, rowC b a = -rowC a b
  | [], [] => rfl
  | [], _ :: _ => rfl
  | _ :: _, [] => rfl
  | x :: a, y :: b => by
    have h := S.cmpW_swap x y
    unfold rowC
    by_cases e : S.cmpW x y = 0
    · rw [if_pos e, if_pos (by omega)]; exact rowC_swap a b
    · rw [if_neg e, if_neg (by omega)]; exact h
theorem rowC_zero : ∀ a b : List V, rowC a b = 0 → a = b
  | [], [], _ => rfl
  | [], _ :: _, h => by simp [rowC] at h
  | _ :: _, [], h => by simp [rowC] at h
  | x :: a, y :: b, h => by
    unfold rowC at h
    by_cases e : S.cmpW x y = 0
    · rw [if_pos e] at h
      rw [S.cmpW_zero.mp e, rowC_zero a b h]
    · rw [if_neg e] at h; exact absurd h e
theorem rowC_self (a : List V) : rowC a a = 0 := by have := rowC_swap a a; omega
theorem cmpW_trans {x y z : V} {m : Int} (h1 : S.cmpW x y = m) (h2 : S.cmpW y z = m) : S.cmpW x z = m := S.cmpV_trans _ _ _ _ _ _ _ _ _ m h1 h2
theorem rowC_trans : ∀ a b c : List V, rowC a b = -1 → rowC b c = -1 → rowC a c = -1
  | [], _, [], _, h2 => by rename_i b _; cases b <;> simp [rowC] at *
  | [], _, _ :: _, _, _ => rfl
  | _ :: _, [], _, h1, _ => by simp [rowC] at h1
  | _ :: _, _ :: _, [], _, h2 => by simp [rowC] at h2
  | x :: a, y :: b, z :: c, h1, h2 => by
    unfold rowC at h1 h2 ⊢
    by_cases e1 : S.cmpW x y = 0
    · have exy := S.cmpW_zero.mp e1
      subst exy
      rw [if_pos e1] at h1
      by_cases e2 : S.cmpW x z = 0
      · rw [if_pos e2] at h2 ⊢; exact rowC_trans a b c h1 h2
      · rw [if_neg e2] at h2 ⊢; exact h2
    · rw [if_neg e1] at h1
      by_cases e2 : S.cmpW y z = 0
      · have eyz := S.cmpW_zero.mp e2
        subst eyz
        rw [if_neg e1]; exact h1
      · rw [if_neg e2] at h2
        have := cmpW_trans h1 h2
        rw [if_neg (by omega)]; exact this
/-- A world that has drawn, and laid blocks; nothing else. -/
def Gr (w w' : World) : Prop := ∃ q os, w' = Go.Sort.grow (w.drewN q) os
theorem Gr.refl (w : World) : Gr w w := ⟨0, #[], by rw [Go.Sort.grow_empty]; rfl⟩
theorem Gr.trans {a b c : World} (h : Gr a b) (k : Gr b c) : Gr a c := by
  obtain ⟨q, os, rfl⟩ := h
  obtain ⟨p, ot, rfl⟩ := k
  refine ⟨q + p, os ++ ot, ?_⟩
  rw [← Go.Sort.grow_grow]
  simp [World.drewN, Go.Sort.grow, Nat.add_assoc]
theorem Gr.alloc {a b : World} (h : Gr a b) (o : Obj) : Gr a (b.alloc o) := h.trans ⟨0, #[o], by rw [Go.Sort.alloc_eq_grow]; rfl⟩
theorem Gr.drew {a b : World} (h : Gr a b) : Gr a b.drew := h.trans ⟨1, #[], by rw [Go.Sort.grow_empty]; rfl⟩
theorem Gr.below {a b : World} (h : Gr a b) : Below a.heap.size a b := by
  obtain ⟨q, os, rfl⟩ := h
  exact ⟨rfl, rfl, rfl, by simp [Go.Sort.grow, World.drewN], fun k hk => by simp [Go.Sort.grow, World.drewN, Array.getElem?_append, hk]⟩
set_option maxHeartbeats 4000000 in
theorem compareX (k1 n1 k2 n2 : Int) (t1 t2 : ByteArray) (w : World) :
    Calls Tryz.prog 12 #[.agg #[.int .i64 k1, .int .i64 n1, .string t1], .agg #[.int .i64 k2, .int .i64 n2, .string t2]] w fun e w' => e = .returned (.int .i64 (S.cmpV k1 n1 t1 k2 n2 t2)) ∧ Gr w w' := by
  go_enter Tryz.func12, Tryz.ntmps12
  go_wp2
  go_region_held3 (fun w' => w'.cell? ⟨w.heap.size, 0, none⟩ = some (.int .i64 k1) ∧ w'.cell? ⟨w.heap.size, 1, none⟩ = some (.int .i64 n1) ∧ w'.cell? ⟨w.heap.size, 2, none⟩ = some (.string t1) ∧ w'.cell? ⟨w.heap.size + 1, 0, none⟩ = some (.int .i64 k2) ∧ w'.cell? ⟨w.heap.size + 1, 1, none⟩ = some (.int .i64 n2) ∧ w'.cell? ⟨w.heap.size + 1, 2, none⟩ = some (.string t2)) (go_keep)
    (first
      | (go_at_call 25; refine (S.cmpInt_any _ _ _).mono ?_; rintro e w' ⟨rfl, rfl⟩)
      | (go_at_call 26; refine (S.cmpInt64_any _ _ _).mono ?_; rintro e w' ⟨rfl, rfl⟩)
      | (go_at_call 27; refine (S.cmpStr_any _ _ _).mono ?_; rintro e w' ⟨rfl, rfl⟩)
      | (go_at_call 24; refine (S.or_any (w.heap.size + 1 + 1) (S.cmpI k1 k2) (S.cmpI n1 n2) (S.cmpS t1 t2) _ (by simp [World.cell?_alloc_at]) (by simp [World.cell?_alloc_at]) (by simp [World.cell?_alloc_at])).mono ?_; rintro e w' ⟨rfl, rfl⟩))
  go_wp2
  go_ret
  exact ⟨rfl, ((((Gr.refl _).alloc _).alloc _).alloc _).drew⟩
theorem drop_cons {l : List V} {k : Nat} {x : V} (h : l[k]? = some x) : l.drop k = x :: l.drop (k + 1) := by
  have hk := lt_of_some h
  rw [List.getElem?_eq_getElem hk] at h
  injection h with h
  rw [List.drop_eq_getElem_cons hk, h]
set_option maxHeartbeats 4000000 in
set_option maxRecDepth 100000 in
theorem compareF (v1 v2 : Value) (a b : List V) (w : World) (h1 : E.Sl w v1 a) (h2 : E.Sl w v2 b) (ha : a.length ≤ 1000) (_hb : b.length ≤ 1000) :
    Calls Tryz.prog 35 #[v1, v2, .func (.func 12) #[] #[]] w fun e w' => e = .returned (.int .i64 (rowC a b)) ∧ Gr w w' := by
  have H1 := mkH h1
  have H2 := mkH h2
  obtain ⟨a1, c1, rfl, _, _⟩ := h1
  obtain ⟨a2, c2, rfl, _, _⟩ := h2

  go_enter Tryz.func35, Tryz.ntmps35
  go_wp2
  go_loopw [13] (fun vi wr => ∃ k : Nat, k ≤ a.length ∧ k ≤ b.length ∧ vi = .int .i64 k ∧ Hid (rowC (a.drop k) (b.drop k) = rowC a b) ∧ Hid (Gr w wr)) (fun vi _ => a.length - (intOf vi).toNat)
  case atStart => exact ⟨0, Nat.zero_le _, Nat.zero_le _, rfl, mkH rfl, mkH (Gr.refl _)⟩
  case round =>
    obtain ⟨k, hk, hkb, rfl, HR, HG⟩ := hrel
    by_cases hlt : k < a.length
    · obtain ⟨x, hx⟩ : ∃ x, a[k]? = some x := ⟨_, List.getElem?_eq_getElem hlt⟩
      have hkn : (k : Int) < (a.length : Int) := by omega
      obtain ⟨a1', c1', e1, _, q1⟩ := H1.out.up HG.out.below
      injection e1 with e11 _ e13
      subst e11 e13
      obtain ⟨b1, o1, rfl, p1, r1⟩ := q1 (fun e => by rw [e] at hlt; simp at hlt)
      obtain ⟨x0, x1, x2⟩ := r1 k x hx
      obtain ⟨xk, xn, xt⟩ := x
      by_cases hlb : k < b.length
      · obtain ⟨y, hy⟩ : ∃ y, b[k]? = some y := ⟨_, List.getElem?_eq_getElem hlb⟩
        have hkm : ¬ (b.length : Int) ≤ (k : Int) := by omega
        have hkm2 : (k : Int) < (b.length : Int) := by omega
        obtain ⟨a2', c2', e2, _, q2⟩ := H2.out.up HG.out.below
        injection e2 with e21 _ e23
        subst e21 e23
        obtain ⟨b2, o2, rfl, p2, r2⟩ := q2 (fun e => by rw [e] at hlb; simp at hlb)
        obtain ⟨y0, y1, y2⟩ := r2 k y hy
        obtain ⟨yk, yn, yt⟩ := y
        have HD := mkH (HR.out.symm.trans (congr (congrArg rowC (drop_cons hx)) (drop_cons hy)))
        clear hx hy r1 r2 q1 q2
        go_wp2_with fail
        refine (compareX _ _ _ _ _ _ _).mono ?_
        rintro e w1 ⟨rfl, hg1⟩
        have HG1 : Hid (Gr w w1) := mkH (((HG.out.alloc _).alloc _).trans hg1)
        have HV : Hid (S.cmpV xk xn xt yk yn yt = S.cmpW (xk, xn, xt) (yk, yn, yt)) := mkH rfl
        clear hg1
        generalize S.cmpV xk xn xt yk yn yt = cv at HV ⊢
        by_cases hz : cv = 0
        · have HD2 : Hid (rowC (a.drop (k + 1)) (b.drop (k + 1)) = rowC a b) := mkH (by
            have h := HD.out
            rw [rowC, if_pos (by rw [← HV.out]; exact hz)] at h
            exact h.symm)
          subst hz
          clear HD
          go_wp2
          exact ⟨⟨k + 1, by omega, by omega, by go_num, HD2, HG1⟩, by simp [intOf]; omega⟩
        · have HD2 : Hid (cv = rowC a b) := mkH (by
            have h := HD.out
            rw [rowC, if_neg (by rw [← HV.out]; exact hz)] at h
            rw [h]; exact HV.out)
          have hzb : (cv == 0) = false := by simpa using hz
          clear HD
          go_wp2
          go_ret
          exact ⟨congrArg (fun x => Ending.returned (.int .i64 x)) HD2.out, HG1.out⟩
      · have hkm : (b.length : Int) ≤ (k : Int) := by omega
        have HD : Hid (rowC a b = 1) := mkH (by
          have hbn : b.drop k = [] := List.drop_eq_nil_of_le (by omega)
          rw [← HR.out, drop_cons hx, hbn]; rfl)
        clear hx r1 q1
        go_wp2
        go_ret
        exact ⟨congrArg (fun x => Ending.returned (.int .i64 x)) HD.out.symm, HG.out.alloc _⟩
    · have hkn : ¬ (k : Int) < (a.length : Int) := by omega
      by_cases hlb : k < b.length
      · have hab : (a.length : Int) < (b.length : Int) := by omega
        have HD : Hid (rowC a b = -1) := mkH (by
          have han : a.drop k = [] := List.drop_eq_nil_of_le (by omega)
          rw [← HR.out, han, List.drop_eq_getElem_cons hlb]; rfl)
        go_wp2
        go_ret
        exact ⟨congrArg (fun x => Ending.returned (.int .i64 x)) HD.out.symm, HG.out⟩
      · have hab : ¬ (a.length : Int) < (b.length : Int) := by omega
        have HD : Hid (rowC a b = 0) := mkH (by
          have han : a.drop k = [] := List.drop_eq_nil_of_le (by omega)
          have hbn : b.drop k = [] := List.drop_eq_nil_of_le (by omega)
          rw [← HR.out, han, hbn]; rfl)
        go_wp2
        go_ret
        exact ⟨congrArg (fun x => Ending.returned (.int .i64 x)) HD.out.symm, HG.out⟩
set_option maxHeartbeats 4000000 in
theorem sorted1 (v1 v2 : Value) (a b : List V) (w : World) (h1 : E.Sl w v1 a) (h2 : E.Sl w v2 b) (ha : a.length ≤ 1000) (hb : b.length ≤ 1000) :
    Calls Tryz.prog 34 #[v1, v2] w fun e w' => e = .returned (.int .i64 (rowC a b)) ∧ Gr w w' := by
  have HC := mkH (compareF v1 v2 a b w h1 h2 ha hb)
  generalize rowC a b = r at HC ⊢
  clear h1 h2
  go_enter Tryz.func34, Tryz.ntmps34
  go_wp2_with fail
  refine HC.out.mono ?_
  rintro e w1 ⟨rfl, hb⟩
  go_wp2
  go_ret
  exact ⟨rfl, hb⟩
end Go.Proofs.YtlnkbhbpkmnkaaaGreatDoor.F
namespace Go.Proofs
open Go.Shelf
def Tryz.laySort_ren : Go.Shelf.Ren := ⟨fun | 6 => 33 | 15 => 60 | 14 => 59 | 28 => 98 | 29 => 99 | 20 => 90 | 21 => 91 | 22 => 92 | 23 => 93 | 24 => 94 | 25 => 95 | 26 => 96 | 27 => 97 | 46 => 129 | 47 => 130 | 48 => 131 | 49 => 132 | 50 => 133 | 57 => 163 | n => n, fun | 22 => 23 | 24 => 35 | 25 => 75 | 3 => 3 | 39 => 66 | 0 => 0 | 53 => 158 | 55 => 160 | 4 => 4 | 46 => 151 | 45 => 150 | 50 => 155 | 5 => 5 | 9 => 9 | 66 => 194 | 70 => 198 | 76 => 232 | 77 => 233 | n => n, fun | n => n⟩
theorem Tryz.laySort : Go.Proofs.SlLaysF.n6 Tryz.prog Tryz.laySort_ren := {
  mixed := by kernel_rfl
  f6 := ⟨Tryz.f33.name, by decide, Tryz.func33.trans (congrArg some (by kernel_rfl))⟩
  f14 := ⟨Tryz.f59.name, by decide, Tryz.func59.trans (congrArg some (by kernel_rfl))⟩
  f15 := Tryz.func60.trans (congrArg some (by kernel_rfl))
  f20 := ⟨Tryz.f90.name, by decide, Tryz.func90.trans (congrArg some (by kernel_rfl))⟩
  f21 := ⟨Tryz.f91.name, by decide, Tryz.func91.trans (congrArg some (by kernel_rfl))⟩
  f22 := ⟨Tryz.f92.name, by decide, Tryz.func92.trans (congrArg some (by kernel_rfl))⟩
  f23 := ⟨Tryz.f93.name, by decide, Tryz.func93.trans (congrArg some (by kernel_rfl))⟩
  f24 := ⟨Tryz.f94.name, by decide, Tryz.func94.trans (congrArg some (by kernel_rfl))⟩
  f25 := ⟨Tryz.f95.name, by decide, Tryz.func95.trans (congrArg some (by kernel_rfl))⟩
  f26 := ⟨Tryz.f96.name, by decide, Tryz.func96.trans (congrArg some (by kernel_rfl))⟩
  f27 := ⟨Tryz.f97.name, by decide, Tryz.func97.trans (congrArg some (by kernel_rfl))⟩
  f28 := Tryz.func98.trans (congrArg some (by kernel_rfl))
  f29 := Tryz.func99.trans (congrArg some (by kernel_rfl))
  f46 := ⟨Tryz.f129.name, by decide, Tryz.func129.trans (congrArg some (by kernel_rfl))⟩
  f47 := Tryz.func130.trans (congrArg some (by kernel_rfl))
  f48 := Tryz.func131.trans (congrArg some (by kernel_rfl))
  f49 := ⟨Tryz.f132.name, by decide, Tryz.func132.trans (congrArg some (by kernel_rfl))⟩
  f50 := ⟨Tryz.f133.name, by decide, Tryz.func133.trans (congrArg some (by kernel_rfl))⟩
  f57 := ⟨Tryz.f163.name, by decide, Tryz.func163.trans (congrArg some (by kernel_rfl))⟩
  t0 := Tryz.underlying0
  a0 := Tryz.isAgg0
  z0 := Tryz.sizeOf0
  v0 := Tryz.zeroValue0
  t3 := Tryz.underlying3
  a3 := Tryz.isAgg3
  z3 := Tryz.sizeOf3
  v3 := Tryz.zeroValue3
  t4 := Tryz.underlying4
  a4 := Tryz.isAgg4
  z4 := Tryz.sizeOf4
  v4 := Tryz.zeroValue4
  t5 := Tryz.underlying5
  a5 := Tryz.isAgg5
  z5 := Tryz.sizeOf5
  v5 := Tryz.zeroValue5
  t9 := Tryz.underlying9
  a9 := Tryz.isAgg9
  z9 := Tryz.sizeOf9
  v9 := Tryz.zeroValue9
  t22 := Tryz.underlying23
  a22 := Tryz.isAgg23
  z22 := Tryz.sizeOf23
  v22 := Tryz.zeroValue23
  a24 := Tryz.isAgg35
  z24 := Tryz.sizeOf35
  t25 := Tryz.underlying75
  a25 := Tryz.isAgg75
  z25 := Tryz.sizeOf75
  v25 := Tryz.zeroValue75
  t39 := Tryz.underlying66
  a39 := Tryz.isAgg66
  z39 := Tryz.sizeOf66
  v39 := Tryz.zeroValue66
  t45 := Tryz.underlying150
  a45 := Tryz.isAgg150
  z45 := Tryz.sizeOf150
  v45 := Tryz.zeroValue150
  t46 := Tryz.underlying151
  a46 := Tryz.isAgg151
  z46 := Tryz.sizeOf151
  v46 := Tryz.zeroValue151
  t50 := Tryz.underlying155
  a50 := Tryz.isAgg155
  z50 := Tryz.sizeOf155
  v50 := Tryz.zeroValue155
  t53 := Tryz.underlying158
  a53 := Tryz.isAgg158
  z53 := Tryz.sizeOf158
  v53 := Tryz.zeroValue158
  t55 := Tryz.underlying160
  a55 := Tryz.isAgg160
  z55 := Tryz.sizeOf160
  v55 := Tryz.zeroValue160
  t66 := Tryz.underlying194
  a66 := Tryz.isAgg194
  z66 := Tryz.sizeOf194
  v66 := Tryz.zeroValue194
  t70 := Tryz.underlying198
  a70 := Tryz.isAgg198
  z70 := Tryz.sizeOf198
  v70 := Tryz.zeroValue198
  t76 := Tryz.underlying232
  a76 := Tryz.isAgg232
  z76 := Tryz.sizeOf232
  v76 := Tryz.zeroValue232
  t77 := Tryz.underlying233
  a77 := Tryz.isAgg233
  z77 := Tryz.sizeOf233
  v77 := Tryz.zeroValue233 }
def Tryz.laySort0_ren : Go.Shelf.Ren := ⟨fun | 6 => 33 | 15 => 60 | 14 => 59 | 28 => 98 | 29 => 99 | 20 => 90 | 21 => 91 | 22 => 92 | 23 => 93 | 24 => 94 | 25 => 95 | 26 => 96 | 27 => 97 | 46 => 129 | 47 => 130 | 48 => 131 | 49 => 132 | 50 => 133 | 57 => 163 | n => n, fun | 22 => 23 | 24 => 35 | 25 => 75 | 3 => 3 | 39 => 66 | 0 => 0 | 53 => 158 | 55 => 160 | 4 => 4 | 46 => 151 | 45 => 150 | 50 => 155 | 5 => 5 | 9 => 9 | 66 => 194 | 70 => 198 | 76 => 232 | 77 => 233 | n => n, fun | n => n⟩
theorem Tryz.laySort0 : Go.Proofs.SlLaysF0.n6 Tryz.prog Tryz.laySort0_ren := {
  mixed := by kernel_rfl
  f6 := ⟨Tryz.f33.name, by decide, Tryz.func33.trans (congrArg some (by kernel_rfl))⟩
  f14 := ⟨Tryz.f59.name, by decide, Tryz.func59.trans (congrArg some (by kernel_rfl))⟩
  f15 := Tryz.func60.trans (congrArg some (by kernel_rfl))
  f20 := ⟨Tryz.f90.name, by decide, Tryz.func90.trans (congrArg some (by kernel_rfl))⟩
  f21 := ⟨Tryz.f91.name, by decide, Tryz.func91.trans (congrArg some (by kernel_rfl))⟩
  f22 := ⟨Tryz.f92.name, by decide, Tryz.func92.trans (congrArg some (by kernel_rfl))⟩
  f23 := ⟨Tryz.f93.name, by decide, Tryz.func93.trans (congrArg some (by kernel_rfl))⟩
  f24 := ⟨Tryz.f94.name, by decide, Tryz.func94.trans (congrArg some (by kernel_rfl))⟩
  f25 := ⟨Tryz.f95.name, by decide, Tryz.func95.trans (congrArg some (by kernel_rfl))⟩
  f26 := ⟨Tryz.f96.name, by decide, Tryz.func96.trans (congrArg some (by kernel_rfl))⟩
  f27 := ⟨Tryz.f97.name, by decide, Tryz.func97.trans (congrArg some (by kernel_rfl))⟩
  f28 := Tryz.func98.trans (congrArg some (by kernel_rfl))
  f29 := Tryz.func99.trans (congrArg some (by kernel_rfl))
  f46 := ⟨Tryz.f129.name, by decide, Tryz.func129.trans (congrArg some (by kernel_rfl))⟩
  f47 := Tryz.func130.trans (congrArg some (by kernel_rfl))
  f48 := Tryz.func131.trans (congrArg some (by kernel_rfl))
  f49 := ⟨Tryz.f132.name, by decide, Tryz.func132.trans (congrArg some (by kernel_rfl))⟩
  f50 := ⟨Tryz.f133.name, by decide, Tryz.func133.trans (congrArg some (by kernel_rfl))⟩
  f57 := ⟨Tryz.f163.name, by decide, Tryz.func163.trans (congrArg some (by kernel_rfl))⟩
  t0 := Tryz.underlying0
  a0 := Tryz.isAgg0
  z0 := Tryz.sizeOf0
  v0 := Tryz.zeroValue0
  t3 := Tryz.underlying3
  a3 := Tryz.isAgg3
  z3 := Tryz.sizeOf3
  v3 := Tryz.zeroValue3
  t4 := Tryz.underlying4
  a4 := Tryz.isAgg4
  z4 := Tryz.sizeOf4
  v4 := Tryz.zeroValue4
  t5 := Tryz.underlying5
  a5 := Tryz.isAgg5
  z5 := Tryz.sizeOf5
  v5 := Tryz.zeroValue5
  t9 := Tryz.underlying9
  a9 := Tryz.isAgg9
  z9 := Tryz.sizeOf9
  v9 := Tryz.zeroValue9
  t22 := Tryz.underlying23
  a22 := Tryz.isAgg23
  z22 := Tryz.sizeOf23
  v22 := Tryz.zeroValue23
  t25 := Tryz.underlying75
  a25 := Tryz.isAgg75
  z25 := Tryz.sizeOf75
  v25 := Tryz.zeroValue75
  t39 := Tryz.underlying66
  a39 := Tryz.isAgg66
  z39 := Tryz.sizeOf66
  v39 := Tryz.zeroValue66
  t45 := Tryz.underlying150
  a45 := Tryz.isAgg150
  z45 := Tryz.sizeOf150
  v45 := Tryz.zeroValue150
  t46 := Tryz.underlying151
  a46 := Tryz.isAgg151
  z46 := Tryz.sizeOf151
  v46 := Tryz.zeroValue151
  t50 := Tryz.underlying155
  a50 := Tryz.isAgg155
  z50 := Tryz.sizeOf155
  v50 := Tryz.zeroValue155
  t53 := Tryz.underlying158
  a53 := Tryz.isAgg158
  z53 := Tryz.sizeOf158
  v53 := Tryz.zeroValue158
  t55 := Tryz.underlying160
  a55 := Tryz.isAgg160
  z55 := Tryz.sizeOf160
  v55 := Tryz.zeroValue160
  t66 := Tryz.underlying194
  a66 := Tryz.isAgg194
  z66 := Tryz.sizeOf194
  v66 := Tryz.zeroValue194
  t70 := Tryz.underlying198
  a70 := Tryz.isAgg198
  z70 := Tryz.sizeOf198
  v70 := Tryz.zeroValue198
  t76 := Tryz.underlying232
  a76 := Tryz.isAgg232
  z76 := Tryz.sizeOf232
  v76 := Tryz.zeroValue232
  t77 := Tryz.underlying233
  a77 := Tryz.isAgg233
  z77 := Tryz.sizeOf233
  v77 := Tryz.zeroValue233 }
def Tryz.layCloneR_ren : Go.Shelf.Ren := ⟨fun | 41 => 32 | n => n, fun | 22 => 23 | 23 => 35 | 4 => 4 | n => n, fun | n => n⟩
theorem Tryz.layCloneR : Go.Proofs.SlLaysE0.n41 Tryz.prog Tryz.layCloneR_ren := {
  mixed := by kernel_rfl
  f41 := ⟨Tryz.f32.name, by decide, Tryz.func32.trans (congrArg some (by kernel_rfl))⟩
  t4 := Tryz.underlying4
  a4 := Tryz.isAgg4
  z4 := Tryz.sizeOf4
  v4 := Tryz.zeroValue4
  t22 := Tryz.underlying23
  a22 := Tryz.isAgg23
  z22 := Tryz.sizeOf23
  v22 := Tryz.zeroValue23 }
def Tryz.layCloneV_ren : Go.Shelf.Ren := ⟨fun | 41 => 161 | n => n, fun | 22 => 35 | 23 => 29 | 4 => 4 | n => n, fun | n => n⟩
theorem Tryz.layCloneV : Go.Proofs.SlLaysE0.n41 Tryz.prog Tryz.layCloneV_ren := {
  mixed := by kernel_rfl
  f41 := ⟨Tryz.f161.name, by decide, Tryz.func161.trans (congrArg some (by kernel_rfl))⟩
  t4 := Tryz.underlying4
  a4 := Tryz.isAgg4
  z4 := Tryz.sizeOf4
  v4 := Tryz.zeroValue4
  t22 := Tryz.underlying35
  a22 := Tryz.isAgg35
  z22 := Tryz.sizeOf35
  v22 := Tryz.zeroValue35 }
end Go.Proofs
namespace Go.Proofs.YtlnkbhbpkmnkaaaGreatDoor.F
open Go.RowKit Go.Proofs Go.Shelf Go.Joins

theorem paired {P : Value → List V → Prop} : ∀ (vs : List Value) (rows : List (List V)), vs.length = rows.length → (∀ (j : Nat) x r, vs[j]? = some x → rows[j]? = some r → P x r) → ∃ d : List {p : Value × List V // P p.1 p.2}, d.map (·.1.1) = vs ∧ d.map (·.1.2) = rows
  | [], [], _, _ => ⟨[], rfl, rfl⟩
  | [], _ :: _, h, _ => by simp at h
  | _ :: _, [], h, _ => by simp at h
  | v :: vs, r :: rows, h, hp => by
    obtain ⟨d, h1, h2⟩ := paired vs rows (by simpa using h) (fun j x q hx hq => hp (j + 1) x q (by simpa using hx) (by simpa using hq))
    exact ⟨⟨(v, r), hp 0 v r rfl rfl⟩ :: d, by simp [h1], by simp [h2]⟩
section
variable {α : Type} [Inhabited α] {enc : α → Value}
theorem sort_cell {w : World} {blk off m : Nat} {d dk : Array α} {os : Array Obj} (hs : dk.size = d.size) (hH : Go.Sort.Holds enc w blk off d) (henc : ∀ x, ∃ a n c, enc x = .slice a n c) {a : Addr} {u : Value} (hb : a.block < w.heap.size) (hsp : a.spot = none) (hc : w.cell? a = some u) (hu : ∀ s n c, u ≠ .slice s n c) : (sortWorld enc w blk off m dk os).cell? a = some u := by
  unfold sortWorld
  rw [Go.Sort.cell?_grow _ _ _ (by simpa using hb), Go.Sort.cell?_putRow_other]
  · exact hc
  · rcases Nat.lt_or_ge a.off off with h1 | h1
    · exact .inr (.inl h1)
    · rcases Nat.lt_or_ge a.off (off + dk.size) with h2 | h2
      · refine .inl fun e => ?_
        have h := (hH (a.off - off) (by omega)).1
        obtain ⟨s, n, c, es⟩ := henc d[a.off - off]!
        rw [show (⟨blk, off + (a.off - off), none⟩ : Addr) = a from by
          obtain ⟨ab, ao, asp⟩ := a
          simp only at e hsp h1 ⊢
          subst e hsp
          congr 1; omega, hc, es] at h
        injection h with h
        exact hu s n c h
      · exact .inr (.inr h2)
theorem sort_sl {w : World} {blk off m : Nat} {d dk : Array α} {os : Array Obj} (hs : dk.size = d.size) (hH : Go.Sort.Holds enc w blk off d) (henc : ∀ x, ∃ a n c, enc x = .slice a n c) {v : Value} {r : List V} (h : E.Sl w v r) : E.Sl (sortWorld enc w blk off m dk os) v r := by
  obtain ⟨a, c, e, hc, hl⟩ := h
  refine ⟨a, c, e, hc, fun hne => ?_⟩
  obtain ⟨b, o, ea, hb, hcell⟩ := hl hne
  refine ⟨b, o, ea, ?_, fun j x hj => ?_⟩
  · unfold sortWorld
    rw [Go.Sort.size_grow]
    have : (Go.Sort.putRow enc (Go.Sort.ahead w m) blk off dk).heap.size = w.heap.size := by simp
    omega
  · obtain ⟨h0, h1, h2⟩ := hcell j x hj
    exact ⟨sort_cell hs hH henc hb rfl h0 (fun _ _ _ => by simp), sort_cell hs hH henc hb rfl h1 (fun _ _ _ => by simp), sort_cell hs hH henc hb rfl h2 (fun _ _ _ => by simp)⟩
theorem sort_below {w : World} {B blk off m : Nat} {dk : Array α} {os : Array Obj} (hB : B ≤ blk) (hw : B ≤ w.heap.size) : Below B w (sortWorld enc w blk off m dk os) := by
  refine ⟨rfl, rfl, rfl, ?_, fun k hk => ?_⟩
  · unfold sortWorld
    rw [Go.Sort.size_grow]
    have : (Go.Sort.putRow enc (Go.Sort.ahead w m) blk off dk).heap.size = w.heap.size := by simp
    omega
  · unfold sortWorld
    have hne : ¬ blk = k := by omega
    have hk' : k < w.heap.size := by omega
    simp [Go.Sort.grow, Go.Sort.putRow, Go.Sort.mapBlock, Array.getElem?_append, Array.getElem_modify, hne, hk', Go.Sort.ahead]
end
theorem cloneR_any (base : Nat) (v : Value) (n : Nat) (xs : List Value) (w : World) (h : w.ownsRow base 35 1 v n xs) (h1 : ∀ u ∈ xs, u.oneCell' = true) (hn : n ≤ 1000000) :
    Calls Tryz.prog 32 #[v] w fun en w' => ∃ a c, en = .returned (.slice a n c) ∧ w'.ownsRow w.heap.size 35 1 (.slice a n c) n xs ∧ Below w.heap.size w w' := by
  rcases own_forms h with ⟨e1, e0⟩ | ⟨g, c, e1, _, hg, hc1, hc2⟩
  · subst e1 e0
    refine (AnyE.slices_Clone_nil Tryz.layCloneR 0 0 w).mono ?_
    rintro en w' ⟨rfl, rfl⟩
    refine ⟨none, 0, rfl, ?_, Below.refl _ _⟩
    have := h.1
    rw [Nat.zero_mul] at this
    rw [List.length_eq_zero_iff.1 this]
    exact World.ownsRow_nil _ _ _ _
  · subst e1
    obtain ⟨i0, hi0, hz0', hz1, hz2⟩ := info_parts infoSl
    refine (AnyE.slices_Clone Tryz.layCloneR i0 (.slice none 0 0) 1 24 hi0 hz0' hz1 hz2 rfl (by decide) Tryz.sizeOf35 g 0 n c xs w h.1 (by unfold maxLen; omega) (by omega) (fun j u hj => ?_) h1).mono ?_
    · have hjl : j < n * 1 := by
        rcases Nat.lt_or_ge j xs.length with hh | hh
        · rw [h.1] at hh; exact hh
        · rw [List.getElem?_eq_none hh] at hj; cases hj
      rw [Nat.zero_add, h.cellAt j hjl]; exact hj
    · rintro en w' ⟨v', rfl, ho, _, hb⟩
      obtain ⟨a, c', rfl, _⟩ := own_slice ho
      exact ⟨a, c', rfl, ho, hb⟩
theorem own_at {w : World} {B g n c z : Nat} {T : TypeId} {xs : List Value} (h : w.ownsRow B T z (.slice (some ⟨g, 0, none⟩) n c) n xs) : w.ownsRow g T z (.slice (some ⟨g, 0, none⟩) n c) n xs := by
  refine ⟨h.1, .inr ?_⟩
  rcases h.2 with ⟨e, _⟩ | ⟨g', cap, cur, e, _, hh⟩
  · cases e
  · refine ⟨g', cap, cur, e, ?_, hh⟩
    injection e with e1 _ _
    injection e1 with e1
    injection e1 with e1 _ _
    omega
end Go.Proofs.YtlnkbhbpkmnkaaaGreatDoor.F
namespace Go.Proofs.YtlnkbhbpkmnkaaaGreatDoor.F
open Go.RowKit Go.Proofs Go.Shelf Go.Joins

/-- A row's value at a place: nothing where it has none. -/
def atV (r : List V) (p : Nat) : V := (r[p]?).getD (0, 0, ⟨#[]⟩)
def vOf (x : V) : Value := .agg #[.int .i64 x.1, .int .i64 x.2.1, .string x.2.2]
set_option maxHeartbeats 4000000 in
theorem at_any (v : Value) (r : List V) (p : Nat) (w : World) (h : E.Sl w v r) (hp : p ≤ 1000000) :
    Calls Tryz.prog 83 #[v, .int .i64 (p : Int)] w fun e w' => e = .returned (.agg #[.int .i64 (atV r p).1, .int .i64 (atV r p).2.1, .string (atV r p).2.2]) ∧ Gr w w' := by
  have H := mkH h
  obtain ⟨a, c, rfl, _, _⟩ := h
  have hn0 : ¬ (p : Int) < 0 := by omega
  by_cases hlt : p < r.length
  · obtain ⟨x, hx⟩ : ∃ x, r[p]? = some x := ⟨_, List.getElem?_eq_getElem hlt⟩
    obtain ⟨a', c', e1, _, q1⟩ := H.out
    injection e1 with e11 _ e13
    subst e11 e13
    obtain ⟨b, o, rfl, hb, q⟩ := q1 (fun e => by rw [e] at hlt; simp at hlt)
    obtain ⟨x0, x1, x2⟩ := q p x hx
    have HA := mkH (show atV r p = x by unfold atV; rw [hx]; rfl)
    obtain ⟨xk, xn, xt⟩ := x
    have hz : (p : Int) < (r.length : Int) := by omega
    have hz2 : ¬ (r.length : Int) ≤ (p : Int) := by omega
    have hp0 : (0 : Int) ≤ (p : Int) := by omega
    rw [HA.out]
    clear hx HA H q q1
    go_enter Tryz.func83, Tryz.ntmps83
    go_wp2
    refine bodyPost_ret (v := .agg #[.int .i64 xk, .int .i64 xn, .string xt]) ?_ rfl ?_
    · simp [results, Tryz.results83, go_sem]
    · exact ⟨rfl, (Gr.refl _).alloc _⟩
  · have hz : ¬ (p : Int) < (r.length : Int) := by omega
    have hz2 : (r.length : Int) ≤ (p : Int) := by omega
    have HA := mkH (show atV r p = (0, 0, ⟨#[]⟩) by unfold atV; rw [List.getElem?_eq_none (by omega)]; rfl)
    rw [HA.out]
    clear HA H
    go_enter Tryz.func83, Tryz.ntmps83
    go_wp2
    refine bodyPost_ret (v := .agg #[.int .i64 0, .int .i64 0, .string ⟨#[]⟩]) ?_ rfl ?_
    · simp [results, Tryz.results83, go_sem]
    · exact ⟨rfl, (Gr.refl _).alloc _⟩
/-- An order's items: by which place, and whether the other way round. -/
def encO (x : Nat × Bool) : List Value := [.int .i64 (x.1 : Int), .bool x.2]
/-- Which of two rows is ahead in an order. -/
def stC : List (Nat × Bool) → List V → List V → Int
  | [], _, _ => 0
  | (p, ds) :: os, a, b => if (if ds then S.cmpW (atV b p) (atV a p) else S.cmpW (atV a p) (atV b p)) = 0 then stC os a b else (if ds then S.cmpW (atV b p) (atV a p) else S.cmpW (atV a p) (atV b p))
theorem stC_range : ∀ (os : List (Nat × Bool)) (a b : List V), stC os a b = -1 ∨ stC os a b = 0 ∨ stC os a b = 1
  | [], _, _ => .inr (.inl rfl)
  | (p, ds) :: os, a, b => by
    have h1 := S.cmpW_range (atV a p) (atV b p)
    have h2 := S.cmpW_range (atV b p) (atV a p)
    have ih := stC_range os a b
    unfold stC
    cases ds <;> simp only [Bool.false_eq_true, if_false, if_true]
    · by_cases e : S.cmpW (atV a p) (atV b p) = 0
      · rw [if_pos e]; exact ih
      · rw [if_neg e]; exact h1
    · by_cases e : S.cmpW (atV b p) (atV a p) = 0
      · rw [if_pos e]; exact ih
      · rw [if_neg e]; exact h2
theorem stC_swap : ∀ (os : List (Nat × Bool)) (a b : List V), stC os b a = -stC os a b
  | [], _, _ => rfl
  | (p, ds) :: os, a, b => by
    have h := S.cmpW_swap (atV a p) (atV b p)
    unfold stC
    cases ds <;> simp only [Bool.false_eq_true, if_false, if_true]
    · by_cases e : S.cmpW (atV a p) (atV b p) = 0
      · rw [if_pos e, if_pos (by omega)]; exact stC_swap os a b
      · rw [if_neg e, if_neg (by omega)]; exact h
    · by_cases e : S.cmpW (atV b p) (atV a p) = 0
      · rw [if_pos e, if_pos (by omega)]; exact stC_swap os a b
      · rw [if_neg e, if_neg (by omega)]; omega
theorem stC_zero_at {os : List (Nat × Bool)} {a b : List V} (h : stC os a b = 0) : ∀ x ∈ os, atV a x.1 = atV b x.1 := by
  induction os with
  | nil => intro x hx; cases hx
  | cons y os ih =>
    obtain ⟨p, ds⟩ := y
    unfold stC at h
    by_cases e : (if ds then S.cmpW (atV b p) (atV a p) else S.cmpW (atV a p) (atV b p)) = 0
    · rw [if_pos e] at h
      intro x hx
      rcases List.mem_cons.1 hx with rfl | hx
      · cases ds <;> simp only [Bool.false_eq_true, if_false, if_true] at e
        · exact S.cmpW_zero.mp e
        · exact (S.cmpW_zero.mp e).symm
      · exact ih h x hx
    · rw [if_neg e] at h
      exact absurd h e
theorem stC_same {os : List (Nat × Bool)} {a a' : List V} (h : ∀ x ∈ os, atV a x.1 = atV a' x.1) (b : List V) : stC os a b = stC os a' b := by
  induction os with
  | nil => rfl
  | cons y os ih =>
    obtain ⟨p, ds⟩ := y
    have h1 := h (p, ds) (List.mem_cons_self ..)
    simp only at h1
    unfold stC
    rw [h1, ih fun x hx => h x (List.mem_cons_of_mem _ hx)]
theorem stC_trans : ∀ (os : List (Nat × Bool)) (a b c : List V), stC os a b ≤ 0 → stC os b c ≤ 0 → stC os a c ≤ 0
  | [], _, _, _, _, _ => by simp [stC]
  | (p, ds) :: os, a, b, c, h1, h2 => by
    have r1 := S.cmpW_range (atV a p) (atV b p)
    have r2 := S.cmpW_range (atV b p) (atV c p)
    have s1 := S.cmpW_swap (atV a p) (atV b p)
    have s2 := S.cmpW_swap (atV b p) (atV c p)
    have s3 := S.cmpW_swap (atV a p) (atV c p)
    have ih := stC_trans os a b c
    unfold stC at h1 h2 ⊢
    by_cases e1 : S.cmpW (atV a p) (atV b p) = 0
    · have q1 := S.cmpW_zero.mp e1
      by_cases e2 : S.cmpW (atV b p) (atV c p) = 0
      · have q2 := S.cmpW_zero.mp e2
        have e3 : S.cmpW (atV a p) (atV c p) = 0 := by rw [q1, q2]; exact S.cmpW_zero.mpr rfl
        cases ds <;> simp only [Bool.false_eq_true, if_false, if_true] at *
        · rw [if_pos e1] at h1; rw [if_pos e2] at h2; rw [if_pos e3]; exact ih h1 h2
        · rw [if_pos (by omega)] at h1; rw [if_pos (by omega)] at h2; rw [if_pos (by omega)]; exact ih h1 h2
      · have e3 : S.cmpW (atV a p) (atV c p) = S.cmpW (atV b p) (atV c p) := by rw [q1]
        cases ds <;> simp only [Bool.false_eq_true, if_false, if_true] at *
        · rw [if_neg e2] at h2; rw [e3, if_neg e2]; exact h2
        · rw [if_neg (by omega)] at h2; rw [if_neg (by omega)]; omega
    · by_cases e2 : S.cmpW (atV b p) (atV c p) = 0
      · have q2 := S.cmpW_zero.mp e2
        have e3 : S.cmpW (atV a p) (atV c p) = S.cmpW (atV a p) (atV b p) := by rw [← q2]
        cases ds <;> simp only [Bool.false_eq_true, if_false, if_true] at *
        · rw [if_neg e1] at h1; rw [e3, if_neg e1]; exact h1
        · rw [if_neg (by omega)] at h1; rw [if_neg (by omega)]; omega
      · cases ds <;> simp only [Bool.false_eq_true, if_false, if_true] at *
        · rw [if_neg e1] at h1
          rw [if_neg e2] at h2
          have := cmpW_trans (m := -1) (x := atV a p) (y := atV b p) (z := atV c p) (by omega) (by omega)
          rw [if_neg (by omega)]; omega
        · rw [if_neg (by omega)] at h1
          rw [if_neg (by omega)] at h2
          have := cmpW_trans (m := 1) (x := atV a p) (y := atV b p) (z := atV c p) (by omega) (by omega)
          rw [if_neg (by omega)]; omega
end Go.Proofs.YtlnkbhbpkmnkaaaGreatDoor.F
