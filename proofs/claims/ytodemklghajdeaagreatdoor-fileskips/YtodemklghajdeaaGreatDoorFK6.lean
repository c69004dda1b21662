/- What millpondkeep.FileSkips does, said of every call: it answers true, if filed does. -/
import Derived.Test.YtodemklghajdeaaGreatDoorFW2
import Derived.Test.YtodemklghajdeaaGreatDoorSK7
import Derived.Test.YtodemklghajdeaaGreatDoorFZK
import Derived.Test.YtodemklghajdeaaGreatDoorFX3
import Derived.Test.YtodemklghajdeaaGreatDoorFZ9
import Derived.Test.YtodemklghajdeaaGreatDoorFZA
import Derived.Test.YtodemklghajdeaaGreatDoorFW6
namespace Go.Proofs.YtodemklghajdeaaGreatDoor
open Go.RowKit Go.Proofs Go.Shelf Go.Joins

/-- No error, and then this is so; or an error. -/
def ErrPost (P : Prop) (w : World) (e : Ending) (w' : World) : Prop := (e = .returned .nilIface ∧ P ∨ ∃ x, e = .returned (.iface 80 (.int .i64 x))) ∧ Below w.heap.size w w'
def HasC (l : List Col) (s : ByteArray) : Prop := 0 ≤ C.findC l s

set_option maxHeartbeats 4000000 in
set_option maxRecDepth 100000 in
theorem leaf_any (g o cp : Nat) (l : List Col) (b : Nat) (c : Int) (col : ByteArray) (k n : Int) (t : ByteArray) (pl pr : Value) (w : World) (h : C.SlC w g o l) (h8 : l.length ≤ 8)
    (hh : w.heap[b]? = some (.cells #[.int .i64 c, .string col, .int .i64 k, .int .i64 n, .string t, pl, pr] 110)) :
    Calls Tryz.prog 76 #[.slice (some ⟨g, o, none⟩) l.length cp, .pointer (some ⟨b, 0, none⟩)] w (ErrPost (HasC l col) w) := by
  have HF := mkH (C.find_any g o cp l col w h h8)
  have c0 : w.cell? ⟨b, 0, none⟩ = some (.int .i64 c) := S.cell_of_heap hh 0
  have c1 : w.cell? ⟨b, 1, none⟩ = some (.string col) := S.cell_of_heap hh 1
  have c2 : w.cell? ⟨b, 2, none⟩ = some (.int .i64 k) := S.cell_of_heap hh 2
  have hbl : b < w.heap.size := E.blk_lt hh
  have HH := mkH h
  clear hh h
  rcases C.find_cases l col with ⟨hf, _⟩ | ⟨j, hj, hf, _⟩
  · have hf' : C.findC l col < 0 := by omega
    rw [hf] at HF
    clear hf hf'
    go_enter Tryz.func76, Tryz.ntmps76
    go_wp2_with fail
    refine HF.out.mono ?_
    rintro e w1 ⟨rfl, hb1⟩
    go_wp2
    go_ret
    exact ⟨.inr ⟨_, rfl⟩, hb1⟩
  · have HP : Hid (HasC l col) := mkH (by unfold HasC; omega)
    rw [hf] at HF
    have ex : ∃ x, l[j]! = x := ⟨_, rfl⟩
    obtain ⟨⟨y1, y2, y3, y4, y5, y6, y7⟩, hx⟩ := ex
    obtain ⟨e0, e1, e2, e3, e4, e5, e6⟩ := HH.out.cells hj hx
    have hjz : (j : Int) < (l.length : Int) := by omega
    have hj0 : ¬ (j : Int) < 0 := by omega
    have hj1 : (0 : Int) ≤ (j : Int) := by omega
    clear hf hx
    go_enter Tryz.func76, Tryz.ntmps76
    go_wp2_with fail
    refine HF.out.mono ?_
    rintro e w1 ⟨rfl, hb1⟩
    have d0 := (hb1.cell (p := ⟨b, 0, none⟩) hbl).trans c0
    have d2 := (hb1.cell (p := ⟨b, 2, none⟩) hbl).trans c2
    have d3 := (hb1.cell (p := ⟨g, o + j * 7 + 2, none⟩) HH.out.1).trans e2
    clear c0 c1 c2 e0 e1 e2 e3 e4 e5 e6
    by_cases h7 : c = 7
    · subst h7
      go_wp2
      go_ret
      exact ⟨.inl ⟨rfl, HP.out⟩, hb1⟩
    · have b7 : (c == 7) = false := by simpa using h7
      by_cases h8' : c = 8
      · subst h8'
        go_wp2
        go_ret
        exact ⟨.inl ⟨rfl, HP.out⟩, hb1⟩
      · have b8 : (c == 8) = false := by simpa using h8'
        by_cases hk : k = 0
        · subst hk
          go_wp2
          go_ret
          exact ⟨.inl ⟨rfl, HP.out⟩, hb1⟩
        · have bk : (k == 0) = false := by simpa using hk
          by_cases hy : k = y3
          · subst hy
            go_wp2_with fail
            go_region
            go_wp2
            go_ret
            exact ⟨.inl ⟨rfl, HP.out⟩, hb1.drew⟩
          · have by3 : (k == y3) = false := by simpa using hy
            go_wp2_with fail
            go_region
            go_wp2
            go_ret
            exact ⟨.inr ⟨_, rfl⟩, hb1.drew⟩

set_option maxHeartbeats 4000000 in
set_option maxRecDepth 100000 in
theorem part_any (g o cp : Nat) (l : List Col) (h8 : l.length ≤ 8) : ∀ (T : S.CT) (v : Value) (w : World), S.InC w T v → C.SlC w g o l →
    Calls Tryz.prog 51 #[.slice (some ⟨g, o, none⟩) l.length cp, v] w (ErrPost (S.Asks (HasC l) T) w)
  | .nil, v, w, h, _ => by
    obtain rfl : v = .pointer none := h
    go_enter Tryz.func51, Tryz.ntmps51
    go_wp2
    go_ret
    exact ⟨.inl ⟨rfl, trivial⟩, Below.refl _ _⟩
  | .node a0 o0 ⟨c, col, k, n, t⟩ x y, v, w, h, hs => by
    obtain ⟨b, pl, pr, rfl, hh, _, hl, hr⟩ := h
    have HL : Hid (∀ W, Below w.heap.size w W → Calls Tryz.prog 51 #[.slice (some ⟨g, o, none⟩) l.length cp, pl] W (ErrPost (S.Asks (HasC l) x) W)) := fun W hb => part_any g o cp l h8 x pl W (hl.up hb) (hs.below hb)
    have HR : Hid (∀ W, Below w.heap.size w W → Calls Tryz.prog 51 #[.slice (some ⟨g, o, none⟩) l.length cp, pr] W (ErrPost (S.Asks (HasC l) y) W)) := fun W hb => part_any g o cp l h8 y pr W (hr.up hb) (hs.below hb)
    have HF := mkH (leaf_any g o cp l b c col k n t pl pr w hs h8 hh)
    have c0 : w.cell? ⟨b, 0, none⟩ = some (.int .i64 c) := S.cell_of_heap hh 0
    have c5 : w.cell? ⟨b, 5, none⟩ = some pl := S.cell_of_heap hh 5
    have c6 : w.cell? ⟨b, 6, none⟩ = some pr := S.cell_of_heap hh 6
    have hbl : b < w.heap.size := E.blk_lt hh
    clear hh hl hr hs
    by_cases h9 : c = 9 ∨ c = 10
    · have HA : Hid (S.Asks (HasC l) x → S.Asks (HasC l) y → S.Asks (HasC l) (.node a0 o0 ⟨c, col, k, n, t⟩ x y)) := fun h1 h2 => by
        simp only [S.Asks]; rw [if_neg (by omega), if_pos h9]; exact ⟨h1, h2⟩
      clear HF
      have key : Calls Tryz.prog 51 #[.slice (some ⟨g, o, none⟩) l.length cp, .pointer (some ⟨b, 0, none⟩)] w (ErrPost (S.Asks (HasC l) (.node a0 o0 ⟨c, col, k, n, t⟩ x y)) w) := by
        generalize S.Asks (HasC l) (.node a0 o0 ⟨c, col, k, n, t⟩ x y) = Q at *
        rcases h9 with rfl | rfl
        all_goals
          go_enter Tryz.func51, Tryz.ntmps51
          go_wp2_with fail
          refine (HL.out _ (Below.refl _ _)).mono ?_
          rintro e w1 ⟨he, hb1⟩
          rcases he with ⟨rfl, ha⟩ | ⟨z, rfl⟩
          · have d6 := (hb1.cell (p := ⟨b, 6, none⟩) hbl).trans c6
            go_wp2_with fail
            refine (HR.out _ hb1).mono ?_
            rintro e w2 ⟨he, hb2⟩
            rcases he with ⟨rfl, hc⟩ | ⟨z, rfl⟩
            · go_wp2
              go_ret
              exact ⟨.inl ⟨rfl, HA.out ha hc⟩, ups hb1 hb2⟩
            · go_wp2
              go_ret
              exact ⟨.inr ⟨_, rfl⟩, ups hb1 hb2⟩
          · go_wp2
            go_ret
            exact ⟨.inr ⟨_, rfl⟩, hb1⟩
      exact key
    · by_cases h11 : c = 11
      · have HA : Hid (S.Asks (HasC l) x → S.Asks (HasC l) (.node a0 o0 ⟨c, col, k, n, t⟩ x y)) := fun h1 => by
          simp only [S.Asks]; rw [if_pos h11]; exact h1
        subst h11
        clear HF HR h9
        generalize S.Asks (HasC l) (.node a0 o0 ⟨11, col, k, n, t⟩ x y) = Q at *
        go_enter Tryz.func51, Tryz.ntmps51
        go_wp2_with fail
        refine (HL.out _ (Below.refl _ _)).mono ?_
        rintro e w1 ⟨he, hb1⟩
        rcases he with ⟨rfl, ha⟩ | ⟨z, rfl⟩
        · go_wp2
          go_ret
          exact ⟨.inl ⟨rfl, HA.out ha⟩, hb1⟩
        · go_wp2
          go_ret
          exact ⟨.inr ⟨_, rfl⟩, hb1⟩
      · have HA : Hid (HasC l col → S.Asks (HasC l) (.node a0 o0 ⟨c, col, k, n, t⟩ x y)) := fun h1 => by
          simp only [S.Asks]; rw [if_neg h11, if_neg h9]; exact h1
        have b9 : (c == 9) = false := by rw [beq_eq_false_iff_ne]; omega
        have b10 : (c == 10) = false := by rw [beq_eq_false_iff_ne]; omega
        have b11 : (c == 11) = false := by rw [beq_eq_false_iff_ne]; omega
        clear HL HR h9 h11
        generalize S.Asks (HasC l) (.node a0 o0 ⟨c, col, k, n, t⟩ x y) = Q at *
        go_enter Tryz.func51, Tryz.ntmps51
        go_wp2_with fail
        refine HF.out.mono ?_
        rintro e w1 ⟨he, hb1⟩
        rcases he with ⟨rfl, ha⟩ | ⟨z, rfl⟩
        · go_wp2
          go_ret
          exact ⟨.inl ⟨rfl, HA.out ha⟩, hb1⟩
        · go_wp2
          go_ret
          exact ⟨.inr ⟨_, rfl⟩, hb1⟩

set_option maxHeartbeats 4000000 in
set_option maxRecDepth 100000 in
theorem cond_any (g o cp : Nat) (l : List Col) (h8 : l.length ≤ 8) (T : S.CT) (v : Value) (w : World) (h : S.InC w T v) (hs : C.SlC w g o l) :
    Calls Tryz.prog 22 #[.slice (some ⟨g, o, none⟩) l.length cp, v] w (ErrPost (S.Asks (HasC l) T ∧ S.withinT T 24 = true) w) := by
  have H1 := mkH (S.ends_any T v w h)
  have H2 := mkH (part_any g o cp l h8 T v w h hs)
  clear h hs
  generalize S.Asks (HasC l) T = Q at *
  cases hw : S.withinT T 24 with
  | false =>
    rw [hw] at H1
    clear hw
    go_enter Tryz.func22, Tryz.ntmps22
    go_wp2_with fail
    refine H1.out.mono ?_; rintro e w1 ⟨rfl, rfl⟩
    go_wp2
    go_ret
    exact ⟨.inr ⟨_, rfl⟩, Below.refl _ _⟩
  | true =>
    rw [hw] at H1
    clear hw
    go_enter Tryz.func22, Tryz.ntmps22
    go_wp2_with fail
    refine H1.out.mono ?_; rintro e w1 ⟨rfl, rfl⟩
    go_wp2_with fail
    refine H2.out.mono ?_
    rintro e w2 ⟨he, hb2⟩
    rcases he with ⟨rfl, ha⟩ | ⟨z, rfl⟩
    · go_wp2
      go_ret
      exact ⟨.inl ⟨rfl, ha, trivial⟩, hb2⟩
    · go_wp2
      go_ret
      exact ⟨.inr ⟨_, rfl⟩, hb2⟩
end Go.Proofs.YtodemklghajdeaaGreatDoor

namespace Go.Proofs.YtodemklghajdeaaGreatDoor
open Go.RowKit Go.Proofs Go.Shelf Go.Joins

def gsOf (l : List Col) (p : List (List V)) (s : ByteArray) : S.St := if C.findC l s < 0 then S.zeroS else S.stOf (colOf p (C.findC l s).toNat)
theorem whole_made (l : List Col) (p : List (List V)) (h1 : 1 ≤ p.length) (h6 : p.length ≤ 6) : wholeG l (groupOf l p) = true := by
  simp [wholeG, groupOf, h1, h6]
theorem stat_made (l : List Col) (p : List (List V)) {j : Nat} (hj : j < l.length) : (groupOf l p).2.1[j]? = some (S.stOf (colOf p j)) := by
  simp [groupOf, hj]

theorem step_call3 {ops : Array Oper} {o : Oper} {a : Act} {W : World} {K : Act → World → Prop} {Q : Exit → Act → World → Prop} {E : Prop} (hgd : o.guard = none) (f : Nat) (x y z : Operand) (t s r : TypeId)
    (ho : o.op = .call { callee := .value (.func f), args := #[x, y, z], argTypes := #[t, s, r] }) (u v q : Value) (hx : a.eval x = u) (hy : a.eval y = v) (hz : a.eval z = q) (eg : ∀ args w, (callFunc f args).run Tryz.prog w = .ok (.enter f args) w)
    (R : Ending → World → Prop) (hc : Calls Tryz.prog f #[u, v, q] W R) (h : ∀ e w', R e w' → ∃ v, e = .returned v ∧ K (a.put o.dst v) w') :
    if Region.wanted o (yielded ops a.tmps) = true then Oper.wp Tryz.prog o a W K Q else E :=
  step_call hgd f #[x, y, z] #[t, s, r] ho #[u, v, q] (by simp [hx, hy, hz]) eg R hc h

set_option maxHeartbeats 4000000 in
set_option maxRecDepth 100000 in
theorem mayF_any (l : List Col) (gs : List Grp) (p : List (List V)) (k : Nat) (cv gv : Value) (g o cp pl pf pw : Nat) (s : ByteArray) (w : World) (hF : FilAt w cv gv (l, gs)) (hk : gs[k]? = some (groupOf l p)) (h1 : 1 ≤ l.length) (h8 : l.length ≤ 8) (hp1 : 1 ≤ p.length) (hp6 : p.length ≤ 6) (hon : Once l)
    (hs : C.SlC w g o l) (hcl : w.cell? ⟨pl, 0, none⟩ = some (.slice (some ⟨g, o, none⟩) l.length cp)) (hc0 : w.cell? ⟨pf, 0, none⟩ = some cv) (hc1 : w.cell? ⟨pf, 1, none⟩ = some gv) (hcw : w.cell? ⟨pw, 0, none⟩ = some (.int .i64 k)) (hpl : pl < w.heap.size) (hpf : pf < w.heap.size) (hpw : pw < w.heap.size) :
    Calls Tryz.prog 55 #[.string s, .pointer (some ⟨pl, 0, none⟩), .pointer (some ⟨pf, 0, none⟩), .pointer (some ⟨pw, 0, none⟩)] w fun e w' => e = .returned (.agg (S.cellsS (gsOf l p s))) ∧ Below w.heap.size w w' := by
  have HF := mkH (fun W (hW : Below w.heap.size w W) => C.find_any g o cp l s W (hs.below hW) h8)
  have hbA : Below w.heap.size w (w.alloc (.cells (S.cellsS S.zeroS) 70)) := (Below.refl _ _).alloc (Nat.le_refl _) _
  obtain ⟨ca, cc, ec, _⟩ := hF.1.slice
  obtain ⟨ga, gc, eg, _⟩ := hF.2.slice
  dsimp only at ec eg
  subst ec eg
  rcases C.find_cases l s with ⟨hf, _⟩ | ⟨j, hj, hf, _⟩
  · have HG : Hid (gsOf l p s = S.zeroS) := mkH (by unfold gsOf; rw [if_pos (by omega)])
    rw [HG.out]
    simp only [hf] at HF
    clear HG hf hF hk hon hs
    go_enter Tryz.func55, Tryz.ntmps55
    go_wp2_with fail
    refine (HF.out _ hbA).mono ?_
    rintro e w1 ⟨rfl, hb1⟩
    have K1 : S.KAt w1 w.heap.size S.zeroS := S.KAt.up (heap_alloc_new _ _) hb1
    obtain ⟨c0, c1, c2, c3, c4, c5, c6, c7⟩ := S.KAt.cells (c := 0) (m := 0) (k := 0) (n := 0) (t := ⟨#[]⟩) (k' := 0) (n' := 0) (t' := ⟨#[]⟩) K1
    obtain ⟨f0, f1, f2, f3, f4, f5, f6, f7⟩ := K1.free
    have B1 : Hid (Below w.heap.size w w1) := mkH (ups hbA hb1)
    clear hb1 K1 hbA
    go_wp2
    exact bodyPost_ret (v := .agg #[.int .i64 0, .int .i64 0, .int .i64 0, .int .i64 0, .string ⟨#[]⟩, .int .i64 0, .int .i64 0, .string ⟨#[]⟩]) (by simp [results, Tryz.results55, go_sem, c0, c1, c2, c3, c4, c5, c6, c7]) rfl ⟨rfl, S.b8c B1.out (Nat.le_refl _) _ _ _ _ _ _ _ _⟩
  · have HG : Hid (gsOf l p s = S.stOf (colOf p j)) := mkH (by unfold gsOf; rw [if_neg (by omega), hf]; rfl)
    rw [HG.out]
    simp only [hf] at HF
    have ex : ∃ x, l[j]! = x := ⟨_, rfl⟩
    obtain ⟨⟨y1, y2, y3, y4, y5, y6, y7⟩, hx⟩ := ex
    have hx? : (l[j]?.getD zC) = (y1, y2, y3, y4, y5, y6, y7) := by
      rw [List.getElem?_eq_getElem hj, Option.getD_some, ← hx, getElem!_pos l j hj]
    have hpos : posI l y1 = j := by
      have := pos_own hon hj
      rw [hx?] at this
      unfold posI
      simp only at this
      rw [if_pos (by omega), this]
    have HKN := mkH (fun W (hW : Below w.heap.size w W) => known_any k j (.slice ca l.length cc) (.slice ga gs.length gc) l gs (groupOf l p) (S.stOf (colOf p j)) y1 y2 y3 y4 y5 y6 y7 W (hF.up hW) hk h1 h8 (whole_made l p hp1 hp6) hpos (stat_made l p hj))
    have HS := mkH hs
    have hjz : (j : Int) < (l.length : Int) := by omega
    have hj0 : ¬ (j : Int) < 0 := by omega
    have hj1 : (0 : Int) ≤ (j : Int) := by omega
    obtain ⟨⟨s1, s2, ⟨k1, n1, t1⟩, ⟨k2, n2, t2⟩⟩, hst⟩ : ∃ st, S.stOf (colOf p j) = st := ⟨_, rfl⟩
    rw [hst] at HKN ⊢
    unfold S.cellsS at HKN ⊢
    simp only at HKN ⊢
    clear hst
    clear HG hf hF hk hon hs hpos hx?
    go_enter Tryz.func55, Tryz.ntmps55
    go_wp2_with fail
    refine (HF.out _ hbA).mono ?_
    rintro e w1 ⟨rfl, hb1'⟩
    have K1 : S.KAt w1 w.heap.size S.zeroS := S.KAt.up (heap_alloc_new _ _) hb1'
    have hb1 := ups hbA hb1'
    have hlt1 : w.heap.size < w1.heap.size := E.blk_lt K1
    clear hb1' hbA
    obtain ⟨e0, e1, e2, e3, e4, e5, e6⟩ := (HS.out.below hb1).cells hj hx
    have d0 := (hb1.cell (p := ⟨pl, 0, none⟩) hpl).trans hcl
    have d1 := (hb1.cell (p := ⟨pf, 0, none⟩) hpf).trans hc0
    have d2 := (hb1.cell (p := ⟨pf, 1, none⟩) hpf).trans hc1
    have d3 := (hb1.cell (p := ⟨pw, 0, none⟩) hpw).trans hcw
    clear hcl hc0 hc1 hcw hx HF
    have hgl : g < w1.heap.size := (HS.out.below hb1).1
    have hpl1 : pl < w1.heap.size := Nat.lt_of_lt_of_le hpl hb1.size
    have hpf1 : pf < w1.heap.size := Nat.lt_of_lt_of_le hpf hb1.size
    have hpw1 : pw < w1.heap.size := Nat.lt_of_lt_of_le hpw hb1.size
    have HK : Hid (∀ W, Below w1.heap.size w1 W → W.cell? ⟨pl, 0, none⟩ = some (.slice (some ⟨g, o, none⟩) l.length cp) ∧ W.cell? ⟨pf, 0, none⟩ = some (.slice ca l.length cc) ∧ W.cell? ⟨pf, 1, none⟩ = some (.slice ga gs.length gc) ∧ W.cell? ⟨pw, 0, none⟩ = some (.int .i64 k) ∧ W.cell? ⟨g, o + j * 7, none⟩ = some (.int .i64 y1) ∧ W.cell? ⟨g, o + j * 7 + 1, none⟩ = some (.string y2) ∧ W.cell? ⟨g, o + j * 7 + 2, none⟩ = some (.int .i64 y3) ∧ W.cell? ⟨g, o + j * 7 + 3, none⟩ = some (.bool y4) ∧ W.cell? ⟨g, o + j * 7 + 4, none⟩ = some (.int .i64 y5) ∧ W.cell? ⟨g, o + j * 7 + 5, none⟩ = some (.int .i64 y6) ∧ W.cell? ⟨g, o + j * 7 + 6, none⟩ = some (.string y7)) := mkH (fun W hW =>
      ⟨(hW.cell (p := ⟨pl, 0, none⟩) hpl1).trans d0, (hW.cell (p := ⟨pf, 0, none⟩) hpf1).trans d1, (hW.cell (p := ⟨pf, 1, none⟩) hpf1).trans d2, (hW.cell (p := ⟨pw, 0, none⟩) hpw1).trans d3, (hW.cell (p := ⟨g, o + j * 7, none⟩) hgl).trans e0, (hW.cell (p := ⟨g, o + j * 7 + 1, none⟩) hgl).trans e1, (hW.cell (p := ⟨g, o + j * 7 + 2, none⟩) hgl).trans e2, (hW.cell (p := ⟨g, o + j * 7 + 3, none⟩) hgl).trans e3, (hW.cell (p := ⟨g, o + j * 7 + 4, none⟩) hgl).trans e4, (hW.cell (p := ⟨g, o + j * 7 + 5, none⟩) hgl).trans e5, (hW.cell (p := ⟨g, o + j * 7 + 6, none⟩) hgl).trans e6⟩)
    have HK1 : Hid (∀ W, Below w1.heap.size w1 W → S.KAt W w.heap.size S.zeroS) := mkH (fun W hW => S.KAt.up K1 hW)
    have HB1 := mkH hb1
    have HEK : Hid (∀ args w, (callFunc 28 args).run Tryz.prog w = .ok (.enter 28 args) w) := mkH (enters_of Tryz.func28 (by kernel_rfl) rfl)
    clear K1 hb1
    go_wp2_with fail
    clear HK
    go_region_law
      (first
        | (refine step_call3 (by rfl) 28 (.tmp 13) (.tmp 14) (.tmp 18) 29 3 47 (by rfl) (.agg #[.slice ca l.length cc, .slice ga gs.length gc]) (.int .i64 k) (.agg #[.int .i64 y1, .string y2, .int .i64 y3, .bool y4, .int .i64 y5, .int .i64 y6, .string y7]) (by rfl) (by rfl) (by rfl) HEK.out _ (HKN.out w1.drew HB1.out.drew) ?_
           rintro e w2 ⟨rfl, hb2'⟩
           have hb2 : Below w1.heap.size w1 w2 := ups (Below.refl _ _).drew hb2'
           have K2 := HK1.out w2 hb2
           obtain ⟨c0, c1, c2, c3, c4, c5, c6, c7⟩ := S.KAt.cells (c := 0) (m := 0) (k := 0) (n := 0) (t := ⟨#[]⟩) (k' := 0) (n' := 0) (t' := ⟨#[]⟩) K2
           obtain ⟨f0, f1, f2, f3, f4, f5, f6, f7⟩ := K2.free
           clear K2
           refine ⟨_, rfl, ?_⟩)
        | fail)
    all_goals
      have HB2 := mkH (ups HB1.out hb2)
      clear hb2 hb2'
      go_wp2
      exact bodyPost_ret (v := .agg #[.int .i64 s1, .int .i64 s2, .int .i64 k1, .int .i64 n1, .string t1, .int .i64 k2, .int .i64 n2, .string t2]) (by simp [results, Tryz.results55, go_sem, c0, c1, c2, c3, c4, c5, c6, c7]) rfl ⟨rfl, S.b8c HB2.out (Nat.le_refl _) _ _ _ _ _ _ _ _⟩
end Go.Proofs.YtodemklghajdeaaGreatDoor

namespace Go.Proofs.YtodemklghajdeaaGreatDoor
open Go.RowKit Go.Proofs Go.Shelf Go.Joins

theorem heap3 (w : World) (X Y Z : Obj) : (((w.alloc X).alloc Y).alloc Z).heap[w.heap.size]? = some X ∧ (((w.alloc X).alloc Y).alloc Z).heap[w.heap.size + 1]? = some Y ∧ (((w.alloc X).alloc Y).alloc Z).heap[w.heap.size + 2]? = some Z := by
  have a2 : Below (w.alloc X).heap.size (w.alloc X) (((w.alloc X).alloc Y).alloc Z) := S.below_a2 (w.alloc X) Y Z
  have a1 : Below ((w.alloc X).alloc Y).heap.size ((w.alloc X).alloc Y) (((w.alloc X).alloc Y).alloc Z) := (Below.refl _ _).alloc (Nat.le_refl _) _
  refine ⟨(a2.block _ (by simp)).trans (heap_alloc_new w X), ?_, ?_⟩
  · have := heap_alloc_new (w.alloc X) Y
    rw [World.size_alloc] at this
    exact (a1.block _ (by simp)).trans this
  · have := heap_alloc_new ((w.alloc X).alloc Y) Z
    rwa [World.size_alloc, World.size_alloc] at this

set_option maxHeartbeats 4000000 in
set_option maxRecDepth 100000 in
theorem fileMay_any (l : List Col) (gs : List Grp) (p : List (List V)) (k : Nat) (cv gv : Value) (g o cp : Nat) (T : S.CT) (v : Value) (w : World) (hF : FilAt w cv gv (l, gs)) (hk : gs[k]? = some (groupOf l p)) (h1 : 1 ≤ l.length) (h8 : l.length ≤ 8) (hp1 : 1 ≤ p.length) (hp6 : p.length ≤ 6) (hon : Once l)
    (hs : C.SlC w g o l) (hv : S.InC w T v) (ho : S.OppB w) (hd : S.withinT T 24 = true) :
    Calls Tryz.prog 24 #[.agg #[cv, gv], .int .i64 k, .slice (some ⟨g, o, none⟩) l.length cp, v] w fun e w' => e = .returned (.bool (S.mayT (gsOf l p) false T)) ∧ Below w.heap.size w w' := by
  have hbA : Below w.heap.size w (((w.alloc (.cells #[cv, gv] 29)).alloc (.cells #[.int .i64 k] 3)).alloc (.cells #[.slice (some ⟨g, o, none⟩) l.length cp] 22)) := b3 w _ _ _
  have HM : Hid (∀ W, Below w.heap.size w W → W.heap[w.heap.size]? = some (.cells #[cv, gv] 29) → W.heap[w.heap.size + 1]? = some (.cells #[.int .i64 k] 3) → W.heap[w.heap.size + 2]? = some (.cells #[.slice (some ⟨g, o, none⟩) l.length cp] 22) →
      Calls Tryz.prog 54 #[v, .func (.func 55) #[] #[.pointer (some ⟨w.heap.size + 2, 0, none⟩), .pointer (some ⟨w.heap.size, 0, none⟩), .pointer (some ⟨w.heap.size + 1, 0, none⟩)]] W fun e w' => e = .returned (.bool (S.mayT (gsOf l p) false T)) ∧ Below W.heap.size W w') := mkH (fun W hW q0 q1 q2 =>
    S.May_any _ (gsOf l p) T v W (hv.up hW) (fun W' s hW' => S.toldMay_any _ _ _ (gsOf l p) s W' (fun W2 s2 hW2 => by
      have hb := ups (ups hW hW') hW2
      have hb' := ups hW' hW2
      have r0 := (hb'.block _ (E.blk_lt q0)).trans q0
      have r1 := (hb'.block _ (E.blk_lt q1)).trans q1
      have r2 := (hb'.block _ (E.blk_lt q2)).trans q2
      exact mayF_any l gs p k cv gv g o cp _ _ _ s2 W2 (hF.up hb) hk h1 h8 hp1 hp6 hon (hs.below hb) (S.cell_of_heap r2 0) (S.cell_of_heap r0 0) (S.cell_of_heap r0 1) (S.cell_of_heap r1 0) (E.blk_lt r2) (E.blk_lt r0) (E.blk_lt r1))) (ho.below hW) hd)
  have hmf : ∀ (fn : Fn) (first cap : Array Value) (w : World), (Instr.makeFunc fn first cap).run Tryz.prog w = .ok (.func fn first cap) w := fun _ _ _ _ => rfl
  obtain ⟨ca, cc, ec, _⟩ := hF.1.slice
  obtain ⟨ga, gc, eg, _⟩ := hF.2.slice
  dsimp only at ec eg
  subst ec eg
  generalize S.mayT (gsOf l p) false T = R at *
  clear hF hk hon hs hv ho hd
  go_enter Tryz.func24, Tryz.ntmps24
  go_wp2_with fail
  refine (HM.out _ hbA (heap3 w _ _ _).1 (heap3 w _ _ _).2.1 (heap3 w _ _ _).2.2).mono ?_
  rintro e w1 ⟨rfl, hb1⟩
  go_wp2
  go_ret
  exact ⟨rfl, ups hbA hb1⟩
end Go.Proofs.YtodemklghajdeaaGreatDoor

namespace Go.Proofs.YtodemklghajdeaaGreatDoor
open Go.RowKit Go.Proofs Go.Shelf Go.Joins

def gvOf (l : List Col) (r : List V) (s : ByteArray) : V := r[(C.findC l s).toNat]?.getD zV

set_option maxHeartbeats 4000000 in
set_option maxRecDepth 100000 in
theorem skipsF_any (l : List Col) (r : List V) (g o cp rp ip lp rb ro rn rc i b1 o1 ac1 : Nat) (s : ByteArray) (w : World) (h8 : l.length ≤ 8) (hs : C.SlC w g o l) (hrl : r.length = l.length) (hhas : HasC l s)
    (hcl : w.cell? ⟨lp, 0, none⟩ = some (.slice (some ⟨g, o, none⟩) l.length cp)) (hcr : w.cell? ⟨rp, 0, none⟩ = some (.slice (some ⟨rb, ro, none⟩) rn rc)) (hci : w.cell? ⟨ip, 0, none⟩ = some (.int .i64 i)) (hin : i < rn)
    (hrow : w.cell? ⟨rb, ro + i, none⟩ = some (.slice (some ⟨b1, o1, none⟩) l.length ac1)) (hc : ∀ j x, r[j]? = some x → w.cell? ⟨b1, o1 + j * 3, none⟩ = some (.int .i64 x.1) ∧ w.cell? ⟨b1, o1 + j * 3 + 1, none⟩ = some (.int .i64 x.2.1) ∧ w.cell? ⟨b1, o1 + j * 3 + 2, none⟩ = some (.string x.2.2))
    (q1 : lp < w.heap.size) (q2 : rp < w.heap.size) (q3 : ip < w.heap.size) (q4 : rb < w.heap.size) (q5 : b1 < w.heap.size) :
    Calls Tryz.prog 26 #[.string s, .pointer (some ⟨rp, 0, none⟩), .pointer (some ⟨ip, 0, none⟩), .pointer (some ⟨lp, 0, none⟩)] w fun e w' => e = .returned (.agg #[.int .i64 (gvOf l r s).1, .int .i64 (gvOf l r s).2.1, .string (gvOf l r s).2.2]) ∧ Below w.heap.size w w' := by
  obtain ⟨j, hj, hf⟩ : ∃ j : Nat, j < l.length ∧ C.findC l s = j := by
    rcases C.find_cases l s with ⟨hf, _⟩ | ⟨j, hj, hf, _⟩
    · unfold HasC at hhas; omega
    · exact ⟨j, hj, hf⟩
  have HF := mkH (fun W (hW : Below w.heap.size w W) => C.find_any g o cp l s W (hs.below hW) h8)
  simp only [hf] at HF
  obtain ⟨⟨v1, v2, v3⟩, hv⟩ : ∃ v, gvOf l r s = v := ⟨_, rfl⟩
  have hrj : r[j]? = some (v1, v2, v3) := by
    unfold gvOf at hv
    rw [hf, Int.toNat_natCast, List.getElem?_eq_getElem (by omega)] at hv
    rw [List.getElem?_eq_getElem (by omega)]
    simpa using hv
  rw [hv]
  obtain ⟨x0, x1, x2⟩ := hc j _ hrj
  have hiz : (i : Int) < (rn : Int) := by omega
  have hi0 : (0 : Int) ≤ (i : Int) := by omega
  have hjz : (j : Int) < (l.length : Int) := by omega
  have hj0 : (0 : Int) ≤ (j : Int) := by omega
  have HEF : Hid (∀ args w, (callFunc 27 args).run Tryz.prog w = .ok (.enter 27 args) w) := mkH (enters_of Tryz.func27 (by kernel_rfl) rfl)
  clear hv hrj hc hs hhas hf hrl
  go_enter Tryz.func26, Tryz.ntmps26
  go_wp2_with fail
  have hbA : Below w.heap.size w (w.alloc (.cells #[.int .i64 0, .int .i64 0, .string ⟨#[]⟩] 45)) := (Below.refl _ _).alloc (Nat.le_refl _) _
  have hZ := heap_alloc_new w (.cells #[.int .i64 0, .int .i64 0, .string ⟨#[]⟩] 45)
  have HW : Hid (∀ W, Below w.heap.size w W → W.cell? ⟨lp, 0, none⟩ = some (.slice (some ⟨g, o, none⟩) l.length cp) ∧ W.cell? ⟨rp, 0, none⟩ = some (.slice (some ⟨rb, ro, none⟩) rn rc) ∧ W.cell? ⟨ip, 0, none⟩ = some (.int .i64 i) ∧ W.cell? ⟨rb, ro + i, none⟩ = some (.slice (some ⟨b1, o1, none⟩) l.length ac1) ∧ W.cell? ⟨b1, o1 + j * 3, none⟩ = some (.int .i64 v1) ∧ W.cell? ⟨b1, o1 + j * 3 + 1, none⟩ = some (.int .i64 v2) ∧ W.cell? ⟨b1, o1 + j * 3 + 2, none⟩ = some (.string v3)) := mkH (fun W hW =>
    ⟨(hW.cell (p := ⟨lp, 0, none⟩) q1).trans hcl, (hW.cell (p := ⟨rp, 0, none⟩) q2).trans hcr, (hW.cell (p := ⟨ip, 0, none⟩) q3).trans hci, (hW.cell (p := ⟨rb, ro + i, none⟩) q4).trans hrow, (hW.cell (p := ⟨b1, o1 + j * 3, none⟩) q5).trans x0, (hW.cell (p := ⟨b1, o1 + j * 3 + 1, none⟩) q5).trans x1, (hW.cell (p := ⟨b1, o1 + j * 3 + 2, none⟩) q5).trans x2⟩)
  generalize w.alloc (.cells #[.int .i64 0, .int .i64 0, .string ⟨#[]⟩] 45) = wA at *
  obtain ⟨p0, p1, p2, p3, p4, p5, p6⟩ := HW.out wA hbA
  have HZ : Hid (∀ W, Below wA.heap.size wA W → W.heap[w.heap.size]? = some (.cells #[.int .i64 0, .int .i64 0, .string ⟨#[]⟩] 45)) := mkH (fun W hW => (hW.block _ (E.blk_lt hZ)).trans hZ)
  have HBA := mkH hbA
  clear hcl hcr hci hrow x0 x1 x2 hbA hZ
  go_region_law
    (first
      | (refine step_call2 (by rfl) 27 (.tmp 10) (.tmp 11) 22 9 (by rfl) (.slice (some ⟨g, o, none⟩) l.length cp) (.string s) (by rfl) (by rfl) HEF.out _ (HF.out wA.drew HBA.out.drew) ?_
         rintro e w2 ⟨rfl, hb2'⟩
         have hb2 : Below wA.heap.size wA w2 := ups (Below.refl _ _).drew hb2'
         obtain ⟨r0, r1, r2, r3, r4, r5, r6⟩ := HW.out w2 (ups HBA.out hb2)
         obtain ⟨z0, z1, z2, t0, t1, t2⟩ := row3 (HZ.out w2 hb2)
         refine ⟨_, rfl, ?_⟩)
      | fail)
  all_goals
    have HB2 := mkH (ups HBA.out hb2)
    clear hb2 hb2'
    go_wp2
    exact bodyPost_ret (v := .agg #[.int .i64 v1, .int .i64 v2, .string v3]) (by simp [results, Tryz.results26, go_sem, z0, z1, z2]) rfl ⟨rfl, ((HB2.out.setCell (p := ⟨w.heap.size, 0, none⟩) (Nat.le_refl _) _).setCell (p := ⟨w.heap.size, 1, none⟩) (Nat.le_refl _) _).setCell (p := ⟨w.heap.size, 2, none⟩) (Nat.le_refl _) _⟩
end Go.Proofs.YtodemklghajdeaaGreatDoor

namespace Go.Proofs.YtodemklghajdeaaGreatDoor
open Go.RowKit Go.Proofs Go.Shelf Go.Joins

theorem fit_kind {c : Col} {v : V} (h : fitV c v = true) : v.1 = 0 ∨ v.1 = kd c := by
  unfold fitV C.fitB at h
  simp only [Bool.and_eq_true, Bool.or_eq_true, beq_iff_eq] at h
  omega
theorem skip_link {l : List Col} {p : List (List V)} (hr : RowsOk l p) (hk : Kinds l) {r : List V} (hm : r ∈ p) {s : ByteArray} (hs : HasC l s) : S.Link (gsOf l p s) (gvOf l r s) := by
  obtain ⟨j, hj, hf⟩ : ∃ j : Nat, j < l.length ∧ C.findC l s = j := by
    rcases C.find_cases l s with ⟨hf, _⟩ | ⟨j, hj, hf, _⟩
    · unfold HasC at hs; omega
    · exact ⟨j, hj, hf⟩
  have hkind : ∀ x ∈ colOf p j, x.1 = 0 ∨ x.1 = kd (l[j]?.getD zC) := fun x hx => by
    obtain ⟨q, hq, rfl⟩ := List.mem_map.1 hx
    exact fit_kind ((hr q hq).2 j hj).1
  have hkd := hk j hj
  unfold gsOf gvOf
  rw [hf, if_neg (by omega), Int.toNat_natCast]
  refine ⟨colOf p j, S.isSt_of _ (fun x hx => ?_), fun x hx y hy h1 h2 => ?_, List.mem_map.2 ⟨r, hm, rfl⟩⟩
  · rcases hkind x hx with h | h <;> omega
  · have := hkind x hx; have := hkind y hy; omega
theorem skip_sound {l : List Col} {p : List (List V)} (hr : RowsOk l p) (hk : Kinds l) {r : List V} (hm : r ∈ p) {T : S.CT} (ho : S.okT T) (ha : S.Asks (HasC l) T) (hn : S.mayT (gsOf l p) false T = false) :
    ¬ S.evT (fun s => (gvOf l r s).1) (fun s => (gvOf l r s).2.1) (fun s => (gvOf l r s).2.2) T = 1 := fun h => by
  have := (S.sound (HasC l) (gsOf l p) (gvOf l r) (fun s hs => skip_link hr hk hm hs) T ho ha).1 h
  rw [hn] at this
  cases this
end Go.Proofs.YtodemklghajdeaaGreatDoor

namespace Go.Proofs.YtodemklghajdeaaGreatDoor
open Go.RowKit Go.Proofs Go.Shelf Go.Joins

theorem skipHolds_any (l : List Col) (r : List V) (g o cp rp ip lp rb ro rn rc i b1 o1 ac1 : Nat) (T : S.CT) (v : Value) (w : World) (h8 : l.length ≤ 8) (hs : C.SlC w g o l) (hrl : r.length = l.length)
    (hcl : w.cell? ⟨lp, 0, none⟩ = some (.slice (some ⟨g, o, none⟩) l.length cp)) (hcr : w.cell? ⟨rp, 0, none⟩ = some (.slice (some ⟨rb, ro, none⟩) rn rc)) (hci : w.cell? ⟨ip, 0, none⟩ = some (.int .i64 i)) (hin : i < rn)
    (hrow : w.cell? ⟨rb, ro + i, none⟩ = some (.slice (some ⟨b1, o1, none⟩) l.length ac1)) (hc : ∀ j x, r[j]? = some x → w.cell? ⟨b1, o1 + j * 3, none⟩ = some (.int .i64 x.1) ∧ w.cell? ⟨b1, o1 + j * 3 + 1, none⟩ = some (.int .i64 x.2.1) ∧ w.cell? ⟨b1, o1 + j * 3 + 2, none⟩ = some (.string x.2.2))
    (q1 : lp < w.heap.size) (q2 : rp < w.heap.size) (q3 : ip < w.heap.size) (q4 : rb < w.heap.size) (q5 : b1 < w.heap.size) (hv : S.InC w T v) (ha : S.Asks (HasC l) T) (hd : S.withinT T 24 = true) :
    Calls Tryz.prog 25 #[v, .func (.func 26) #[] #[.pointer (some ⟨rp, 0, none⟩), .pointer (some ⟨ip, 0, none⟩), .pointer (some ⟨lp, 0, none⟩)]] w fun e w' => e = .returned (.int .i64 (S.evT (fun s => (gvOf l r s).1) (fun s => (gvOf l r s).2.1) (fun s => (gvOf l r s).2.2) T)) ∧ Below w.heap.size w w' :=
  S.HoldsG_any (HasC l) _ _ _ _ T v w hv ha (fun W s hp hW => S.toldSkip_any _ _ _ (fun s => (gvOf l r s).1) (fun s => (gvOf l r s).2.1) (fun s => (gvOf l r s).2.2) s W (fun W2 hW2 => by
    have hb := ups hW hW2
    exact skipsF_any l r g o cp rp ip lp rb ro rn rc i b1 o1 ac1 s W2 h8 (hs.below hb) hrl hp ((hb.cell (p := ⟨lp, 0, none⟩) q1).trans hcl) ((hb.cell (p := ⟨rp, 0, none⟩) q2).trans hcr) ((hb.cell (p := ⟨ip, 0, none⟩) q3).trans hci) hin ((hb.cell (p := ⟨rb, ro + i, none⟩) q4).trans hrow)
      (fun j x hx => ⟨(hb.cell (p := ⟨b1, o1 + j * 3, none⟩) q5).trans (hc j x hx).1, (hb.cell (p := ⟨b1, o1 + j * 3 + 1, none⟩) q5).trans (hc j x hx).2.1, (hb.cell (p := ⟨b1, o1 + j * 3 + 2, none⟩) q5).trans (hc j x hx).2.2⟩)
      (Nat.lt_of_lt_of_le q1 hb.size) (Nat.lt_of_lt_of_le q2 hb.size) (Nat.lt_of_lt_of_le q3 hb.size) (Nat.lt_of_lt_of_le q4 hb.size) (Nat.lt_of_lt_of_le q5 hb.size))) hd
end Go.Proofs.YtodemklghajdeaaGreatDoor

namespace Go.Proofs.YtodemklghajdeaaGreatDoor
open Go.RowKit Go.Proofs Go.Shelf Go.Joins

theorem own_posS (l : List Col) : ∀ c ∈ l, pos l c.1 < l.length := fun c hc => by
  have hi : c.1 ∈ ids l := List.mem_map.2 ⟨c, hc, rfl⟩
  have := List.idxOf_lt_length_of_mem hi
  unfold pos
  simpa [ids] using this
theorem box1 {W : World} {b : Nat} {v : Value} {T : TypeId} (h : W.heap[b]? = some (.cells #[v] T)) : W.cell? ⟨b, 0, none⟩ = some v ∧ W.frozen? ⟨b, 0, none⟩ = false := by
  simp [World.cell?, World.frozen?, h]
def boxS (s : Value) (w : World) : Nat := match s with
  | .pointer (some a) => (intOf ((w.cell? a).getD .nilIface)).toNat
  | _ => 0
theorem own_nothing (w : World) (B : Nat) {p : List (List V)} {j : Nat} : w.ownsRow B 45 3 (.slice none 0 0) 0 (E.flatV ((colOf p j).take 0)) := ⟨rfl, .inl ⟨rfl, rfl⟩⟩
def FiledS : Prop := ∀ W, C.NcB W → C.EtB W → Calls Tryz.prog 8 #[] W fun e w' => e = .returned (.bool true) ∧ Below W.heap.size W w'
def CondS (w : World) (xv : Value) : Prop := ∀ W, Below w.heap.size w W → Calls Tryz.prog 21 #[xv] W fun e w' => ∃ v T, e = .returned v ∧ S.InC w' T v ∧ S.depthT T ≤ 14 ∧ Below W.heap.size W w'

set_option maxHeartbeats 16000000 in
set_option maxRecDepth 100000 in
theorem fileSkips_any (hfiled : FiledS) (lv rv : Value) (xa : Option Addr) (xn xc : Nat) (l : List Col) (rows : List (List V)) (w : World) (hl : SlE 7 C.encC w lv l) (hr : SlR w rv rows) (hx : CondS w (.slice xa xn xc)) (hms : ∀ c ∈ l, c.2.1.size ≤ maxLen ∧ c.2.2.2.2.2.2.size ≤ maxLen)
    (hrs : ∀ r ∈ rows, ∀ v ∈ r, v.2.2.size ≤ maxLen) (h64 : All64 rows) (hw : C.NcB w) (hg : C.EtB w) (hop : S.OppB w) :
    Calls Tryz.prog 5 #[lv, rv, .slice xa xn xc] w fun e w' => e = .returned (.bool true) ∧ Below w.heap.size w w' := by
  have HL := mkH hl
  have HR := mkH hr
  have HX := mkH hx
  have HOP := mkH hop
  have HMS := mkH hms
  have HRS := mkH hrs
  have H64 := mkH h64
  have HNC := mkH hw
  have HET := mkH hg
  have HC1 := mkH (fun W (hW : Below w.heap.size w W) => columns_any lv l W (hl.up hW) hms)
  have HC2 := mkH (fun W (hW : Below w.heap.size w W) => keepRows_any rv rows W (hr.up hW) hrs)
  have HFD := mkH (fun W (hW : Below w.heap.size w W) => hfiled W (hw.below hW) (hg.below hW))
  obtain ⟨la, lc, rfl, _⟩ := hl.slice
  obtain ⟨ra, rc, rfl, _⟩ := hr.slice
  clear hl hr hms hrs h64 hw hg hx hop
  go_enter Tryz.func5, Tryz.ntmps5
  go_wp2_with fail
  have hbL : Below w.heap.size w (w.alloc (.cells #[.slice la l.length lc] 22)) := (Below.refl _ _).alloc (Nat.le_refl _) _
  have hLB := heap_alloc_new w (.cells #[.slice la l.length lc] 22)
  generalize w.alloc (.cells #[.slice la l.length lc] 22) = wL at *
  have HLB : Hid (∀ W, Below wL.heap.size wL W → W.heap[w.heap.size]? = some (.cells #[.slice la l.length lc] 22)) := mkH (fun W hW => (hW.block _ (E.blk_lt hLB)).trans hLB)
  have HBL := mkH hbL
  clear hLB
  refine (HC1.out _ hbL).mono ?_
  rintro e w1 ⟨b1, rfl, hf1, hb1⟩
  clear hbL
  cases b1 with
  | false =>
    have hbf := ups HBL.out hb1
    go_wp2
    go_ret
    exact ⟨rfl, hbf⟩
  | true =>
    have HF1 := mkH (hf1 rfl)
    clear hf1
    go_wp2_with fail
    refine (HC2.out w1 (ups HBL.out hb1)).mono ?_
    rintro e w2 ⟨b2, rfl, hf2, hb2⟩
    have hb02 := ups hb1 hb2
    cases b2 with
    | false =>
      have hbf := ups HBL.out hb02
      go_wp2
      go_ret
      exact ⟨rfl, hbf⟩
    | true =>
      have HF2 := mkH (hf2 rfl)
      clear hf2 hb1 hb2
      have hl20 := HF1.out.1
      have hr70 := HF2.out.1
      go_wp2_with fail
      refine (HFD.out w2 (ups HBL.out hb02)).mono ?_
      rintro e w3 ⟨rfl, hb3⟩
      have hb03 := ups hb02 hb3
      clear hb3 hb02
      go_wp2_with fail
      refine (HX.out w3 (ups HBL.out hb03)).mono ?_
      rintro e w4 ⟨cnd, T, rfl, hIn, hdep, hb4⟩
      have hb04 := ups hb03 hb4
      have HIN := mkH hIn
      have hb0 := ups HBL.out hb04
      have HB04 := mkH hb04
      obtain ⟨k0, _⟩ := box1 (HLB.out w4 hb04)
      have HMK := mkH (make_any (.slice la l.length lc) (.slice ra rows.length rc) l rows w4 (HL.out.up hb0) (HR.out.up hb0) (by omega) (by omega) HMS.out HRS.out H64.out (HNC.out.below hb0) (HET.out.below hb0))
      have HB0 := mkH hb0
      clear hb4 hb03 hIn hdep hb04 hb0
      go_wp2_with fail
      cases hm : makeR l rows with
      | none =>
        rw [hm] at HMK
        clear hm
        refine HMK.out.mono ?_
        rintro e w6 ⟨T6, v6, rfl, hb6⟩
        have hbf := (ups HB0.out hb6).alloc (by have := HB0.out.size; have := hb6.size; omega) (.cells #[.slice none 0 0, .slice none 0 0] 29)
        go_wp2
        go_ret
        exact ⟨rfl, hbf⟩
      | some f =>
        have hok : makeOk l rows = true := by
          cases h : makeOk l rows with
          | true => rfl
          | false => rw [makeR_no h] at hm; cases hm
        rw [makeR_yes hok] at hm
        injection hm with hm
        subst hm
        rw [makeR_yes hok] at HMK
        have HOK := mkH hok
        have HRF := mkH (makeOk_iff.1 hok).1
        have hl8 := HRF.out.eight
        have hl1 := HRF.out.one
        have hgl : (groupsOf l rows).length = nGr rows.length := by unfold groupsOf; rw [List.length_map, parts_len]
        have hr60 := (makeOk_iff.1 hok).2.2.1
        have hg10 := nGr_le hr60
        have HWL := mkH (write_len hok H64.out)
        have HSZ : Hid (∀ g ∈ groupsOf l rows, ∀ b ∈ g.2.2, b.length ≤ 1000000) := mkH (fun g hg b hb => Nat.le_trans (byte_len (f := (l, groupsOf l rows)) hg hb) (by have := HWL.out; omega))
        clear hok
        refine HMK.out.mono ?_
        rintro e w6 ⟨cv, gv, rfl, hF6, hb6⟩
        obtain ⟨ca, cc, rfl, _⟩ := hF6.1.slice
        obtain ⟨ga, gc, rfl, _⟩ := hF6.2.slice
        dsimp only at hF6 ⊢
        rw [hgl] at hF6 ⊢
        obtain ⟨lb, lo, lc', hle, _, hSL⟩ := slC_of HL.out hl1
        injection hle with hla _ hlc
        subst hla
        subst hlc
        have HSL := mkH hSL
        have hbX : Below w6.heap.size w6 (w6.alloc (.cells #[.slice ca l.length cc, .slice ga (nGr rows.length) gc] 29)) := (Below.refl _ _).alloc (Nat.le_refl _) _
        have HFX := mkH (hF6.up hbX)
        have HBX := mkH (ups (ups HB04.out hb6) hbX)
        have HIX := mkH (HIN.out.up (ups hb6 hbX))
        have HFB := mkH (heap_alloc_new w6 (.cells #[.slice ca l.length cc, .slice ga (nGr rows.length) gc] 29))
        have hs6 : w6.heap.size < (w6.alloc (.cells #[.slice ca l.length cc, .slice ga (nGr rows.length) gc] 29)).heap.size := by simp
        clear hF6 hb6 hbX HMK hSL k0
        obtain ⟨k0, _⟩ := box1 (HLB.out _ HBX.out)
        go_wp2_with fail
        generalize w6.alloc (.cells #[.slice ca l.length cc, .slice ga (nGr rows.length) gc] 29) = wX at *
        have HCD := mkH (cond_any lb lo lc l hl8 T cnd wX HIX.out (HSL.out.below (ups HBL.out HBX.out)))
        refine HCD.out.mono ?_
        rintro e w7 ⟨he, hb7⟩
        rcases he with ⟨rfl, ha⟩ | ⟨z, rfl⟩
        · obtain ⟨hasks, hwithin⟩ := ha
          have HAS := mkH hasks
          have HWI := mkH hwithin
          have HB7 := mkH (ups HBX.out hb7)
          have HF7 := mkH (HFX.out.up hb7)
          have HI7 := mkH (HIX.out.up hb7)
          have HFB7 := mkH ((hb7.block _ hs6).trans HFB.out)
          have HIN7 := mkH HIX.out.ok
          obtain ⟨f0, f1⟩ := row2 HFB7.out
          generalize hFb : w6.heap.size = Fb at *
          clear hasks hwithin hb7 HCD HFX HIX HFB k0 hs6 hFb HIN HB04 HB0 HX HMS HRS HC1 HC2 HFD HBX
          go_wp2_with fail
          have HRO := mkH (rowsOk_of (makeOk_iff.1 HOK.out).2.2.2 H64.out)
          clear f0 f1
          go_loopw [46] (fun s46 wr => ∃ k : Nat, k ≤ nGr rows.length ∧ s46 = .int .i64 k ∧ Hid (Below w7.heap.size w7 wr))
            (fun s46 _ => nGr rows.length - (intOf s46).toNat)
          case atStart => exact ⟨0, Nat.zero_le _, rfl, Below.refl _ _⟩
          case round =>
            obtain ⟨k, hk, rfl, HBK⟩ := hrel
            by_cases hkl : k < nGr rows.length
            · have hkz : (k : Int) < (nGr rows.length : Int) := by omega
              have hk0 : (0 : Int) ≤ (k : Int) := by omega
              have HGK : Hid ((groupsOf l rows)[k]? = some (groupOf l (part6 rows k))) := mkH (by unfold groupsOf parts; rw [List.map_map, List.getElem?_map, List.getElem?_range hkl]; rfl)
              have hpl := part6_len hkl
              have HPM : Hid (∀ r ∈ part6 rows k, r ∈ rows) := mkH (fun r hr => List.mem_of_mem_drop (List.mem_of_mem_take hr))
              have HRP : Hid (RowsOk l (part6 rows k)) := mkH (fun r hr => HRO.out r (HPM.out r hr))
              have HRG : Hid (readG l (groupOf l (part6 rows k)) l = some (part6 rows k)) := mkH (by
                rw [read_group (sameIK_refl l) HRP.out HRF.out.kinds hpl.1 hpl.2 l]
                congr 1
                exact Eq.trans (List.map_congr_left (fun r hr => pick_row HRF.out.once (sameIK_refl l) (HRP.out r hr).1)) (List.map_id' _))
              have HSK : Hid (∀ b ∈ (groupOf l (part6 rows k)).2.2, b.length ≤ 1000000) := mkH (HSZ.out _ (List.mem_of_getElem? HGK.out))
              generalize part6 rows k = p at *
              have hb7r := HBK.out
              obtain ⟨k0, _⟩ := box1 (HLB.out _ (ups HB7.out hb7r))
              have HFBr := mkH ((hb7r.block _ (E.blk_lt HFB7.out)).trans HFB7.out)
              obtain ⟨f0, f1⟩ := row2 HFBr.out
              have HRD := mkH (read_any k (.slice ca l.length cc) (.slice ga (nGr rows.length) gc) (.slice (some ⟨lb, lo, none⟩) l.length lc) l (groupsOf l rows) (groupOf l p) l wr (HF7.out.up hb7r) HGK.out (HL.out.up (ups HBL.out (ups HB7.out hb7r))) hl8 hl1 hl8 (own_posS l) HSK.out)
              rw [HRG.out] at HRD
              clear hb7r hk hkl
              go_wp2_with fail
              refine HRD.out.mono ?_
              rintro e w8 ⟨pv, rfl, hso, hb8⟩
              obtain ⟨pa, pc, rfl, _⟩ := hso.slr.slice
              have HQ8 := mkH hso.slr
              have HB8 := mkH (ups HBK.out hb8)
              clear hso hb8 HRD k0 f0 f1 HFBr
              have hbR : Below w8.heap.size w8 (w8.alloc (.cells #[.slice pa p.length pc] 23)) := (Below.refl _ _).alloc (Nat.le_refl _) _
              have hRb := heap_alloc_new w8 (.cells #[.slice pa p.length pc] 23)
              have hsR : (w8.alloc (.cells #[.slice pa p.length pc] 23)).heap.size = w8.heap.size + 1 := by simp
              go_wp2_with fail
              have HBR := mkH (ups HB8.out hbR)
              have HQR := mkH (HQ8.out.up hbR)
              generalize w8.alloc (.cells #[.slice pa p.length pc] 23) = wR at *
              generalize hRe : w8.heap.size = Rb at *
              have HRBk : Hid (∀ W, Below wR.heap.size wR W → W.heap[Rb]? = some (.cells #[.slice pa p.length pc] 23)) := mkH (fun W hW => (hW.block _ (E.blk_lt hRb)).trans hRb)
              have HLR : Hid (∀ W, Below wR.heap.size wR W → W.heap[w.heap.size]? = some (.cells #[.slice (some ⟨lb, lo, none⟩) l.length lc] 22)) := mkH (fun W hW => HLB.out W (ups (ups HB7.out HBR.out) hW))
              have HFR : Hid (∀ W, Below wR.heap.size wR W → W.heap[Fb]? = some (.cells #[.slice ca l.length cc, .slice ga (nGr rows.length) gc] 29)) := mkH (fun W hW => ((ups HBR.out hW).block _ (E.blk_lt HFB7.out)).trans HFB7.out)
              have HI0 : Hid (Below wR.heap.size wR (wR.alloc (.cells #[.int .i64 0] 3)) ∧ wR.heap.size ≤ Rb + 1 ∧ (wR.alloc (.cells #[.int .i64 0] 3)).heap[Rb + 1]? = some (.cells #[.int .i64 (0 : Nat)] 3)) := mkH ⟨(Below.refl _ _).alloc (Nat.le_refl _) _, by omega, by have := heap_alloc_new wR (.cells #[.int .i64 0] 3); rwa [hsR] at this⟩
              clear hbR hRb hRe HQ8 HB8 hsR
              go_loopw [13] (fun s13 wi => ∃ (q K : Nat), q ≤ p.length ∧ s13 = .pointer (some ⟨K, 0, none⟩) ∧ Hid (Below wR.heap.size wR wi ∧ wR.heap.size ≤ K ∧ wi.heap[K]? = some (.cells #[.int .i64 q] 3)))
                (fun s13 wi => p.length - boxS s13 wi)
              case atStart => exact ⟨0, Rb + 1, Nat.zero_le _, rfl, HI0⟩
              case round =>
                obtain ⟨q, K, hq, rfl, HI⟩ := hrel
                obtain ⟨kK, _⟩ := box1 HI.out.2.2
                obtain ⟨kR, _⟩ := box1 (HRBk.out _ HI.out.1)
                have hbox : boxS (.pointer (some ⟨K, 0, none⟩)) wr = q := by simp [boxS, kK, intOf]
                by_cases hql : q < p.length
                · have hqz : (q : Int) < (p.length : Int) := by omega
                  have hq0 : (0 : Int) ≤ (q : Int) := by omega
                  obtain ⟨kL, _⟩ := box1 (HLR.out _ HI.out.1)
                  obtain ⟨f0, f1⟩ := row2 (HFR.out _ HI.out.1)
                  have hbw := ups (ups HB7.out HBR.out) HI.out.1
                  have hb7w := ups HBR.out HI.out.1
                  have HMY := mkH (fileMay_any l (groupsOf l rows) p k (.slice ca l.length cc) (.slice ga (nGr rows.length) gc) lb lo lc T cnd wr (HF7.out.up hb7w) HGK.out hl1 hl8 hpl.1 hpl.2 HRF.out.once (HSL.out.below (ups HBL.out hbw)) (HI7.out.up hb7w) (HOP.out.below (ups HBL.out hbw)) HWI.out)
                  have HEND : Hid (∀ W, Below wr.heap.size wr W → Below wR.heap.size wR (W.alloc (.cells #[.int .i64 ((q + 1 : Nat) : Int)] 3)) ∧ wR.heap.size ≤ W.heap.size ∧ (W.alloc (.cells #[.int .i64 ((q + 1 : Nat) : Int)] 3)).heap[W.heap.size]? = some (.cells #[.int .i64 ((q + 1 : Nat) : Int)] 3)) := mkH (fun W hW =>
                    ⟨(ups HI.out.1 hW).alloc (ups HI.out.1 hW).size _, (ups HI.out.1 hW).size, heap_alloc_new _ _⟩)
                  have hKl : K < wr.heap.size := E.blk_lt HI.out.2.2
                  cases hmay : S.mayT (gsOf l p) false T with
                  | true =>
                    rw [hmay] at HMY
                    clear hmay
                    go_wp2_with fail
                    refine HMY.out.mono ?_
                    rintro e w9 ⟨rfl, hbz⟩
                    have kK9 := (hbz.cell (p := ⟨K, 0, none⟩) hKl).trans kK
                    have hK9 : K < w9.heap.size := Nat.lt_of_lt_of_le hKl hbz.size
                    clear kK kR kL f0 f1 hbw hb7w HMY
                    go_wp2
                    refine ⟨⟨q + 1, _, by omega, rfl, HEND.out _ hbz⟩, ?_⟩
                    rw [hbox]
                    have hbx := (box1 (HEND.out _ hbz).2.2).1
                    have : boxS (.pointer (some ⟨w9.heap.size, 0, none⟩)) (w9.alloc (.cells #[.int .i64 ((q + 1 : Nat) : Int)] 3)) = q + 1 := by simp only [boxS, hbx, Option.getD_some, intOf]; omega
                    first
                      | (have h2 := this; simp only [Int.natCast_add, Int.natCast_one] at h2; rw [h2]; omega)
                      | (erw [this]; omega)
                  | false =>
                    rw [hmay] at HMY
                    obtain ⟨r, hr⟩ : ∃ r, p[q]? = some r := ⟨_, List.getElem?_eq_getElem hql⟩
                    have hrl := (HRP.out r (List.mem_of_getElem? hr)).1
                    obtain ⟨rb, ro, rc', rv, hre, hrb, hrc, hrS⟩ := HQR.out.at hr
                    injection hre with hra _ hrcc
                    subst hra
                    subst hrcc
                    obtain ⟨a1, ac1, rfl, _, hS1⟩ := hrS
                    obtain ⟨b1, o1, rfl, hb1, hc1⟩ := hS1 (by intro e; rw [e] at hrl; simp at hrl; omega)
                    rw [hrl] at hrc
                    have hbi := HI.out.1
                    have HNO := mkH (skip_sound HRP.out HRF.out.kinds (List.mem_of_getElem? hr) HIN7.out HAS.out hmay)
                    have HHO : Hid (∀ W, Below wr.heap.size wr W → Calls Tryz.prog 25 #[cnd, .func (.func 26) #[] #[.pointer (some ⟨Rb, 0, none⟩), .pointer (some ⟨K, 0, none⟩), .pointer (some ⟨w.heap.size, 0, none⟩)]] W fun e w' => e = .returned (.int .i64 (S.evT (fun s => (gvOf l r s).1) (fun s => (gvOf l r s).2.1) (fun s => (gvOf l r s).2.2) T)) ∧ Below W.heap.size W w') := mkH (fun W hW => by
                      have hbR := ups hbi hW
                      have hbw := ups (ups HB7.out HBR.out) hbR
                      have hK2 := (hW.block K hKl).trans HI.out.2.2
                      exact skipHolds_any l r lb lo lc Rb K w.heap.size rb ro p.length pc q b1 o1 ac1 T cnd W hl8 (HSL.out.below (ups HBL.out hbw)) hrl (box1 (HLR.out W hbR)).1 (box1 (HRBk.out W hbR)).1 (box1 hK2).1 hql ((hbR.cell (p := ⟨rb, ro + q, none⟩) hrb).trans hrc)
                        (fun j x hx => ⟨(hbR.cell (p := ⟨b1, o1 + j * 3, none⟩) hb1).trans (hc1 j x hx).1, (hbR.cell (p := ⟨b1, o1 + j * 3 + 1, none⟩) hb1).trans (hc1 j x hx).2.1, (hbR.cell (p := ⟨b1, o1 + j * 3 + 2, none⟩) hb1).trans (hc1 j x hx).2.2⟩)
                        (E.blk_lt (HLR.out W hbR)) (E.blk_lt (HRBk.out W hbR)) (E.blk_lt hK2) (Nat.lt_of_lt_of_le hrb hbR.size) (Nat.lt_of_lt_of_le hb1 hbR.size) (HI7.out.up (ups HBR.out hbR)) HAS.out HWI.out)
                    generalize S.evT (fun s => (gvOf l r s).1) (fun s => (gvOf l r s).2.1) (fun s => (gvOf l r s).2.2) T = ev at *
                    have hne : (ev == 1) = false := by rw [beq_eq_false_iff_ne]; exact HNO.out
                    clear hmay hr hrl hrb hrc hb1 hc1 hS1 hbi HNO
                    go_wp2_with fail
                    refine HMY.out.mono ?_
                    rintro e w9 ⟨rfl, hb9⟩
                    have kK9 := (hb9.cell (p := ⟨K, 0, none⟩) hKl).trans kK
                    have hK9 : K < w9.heap.size := Nat.lt_of_lt_of_le hKl hb9.size
                    clear kK kR kL f0 f1 hbw hb7w HMY
                    go_wp2_with fail
                    refine (HHO.out w9 hb9).mono ?_
                    rintro e w10 ⟨rfl, hb10⟩
                    have kK10 := (hb10.cell (p := ⟨K, 0, none⟩) hK9).trans kK9
                    have hK10 : K < w10.heap.size := Nat.lt_of_lt_of_le hK9 hb10.size
                    have hbz := ups hb9 hb10
                    clear hb9 hb10 kK9 HHO
                    go_wp2
                    refine ⟨⟨q + 1, _, by omega, rfl, HEND.out _ hbz⟩, ?_⟩
                    rw [hbox]
                    have hbx := (box1 (HEND.out _ hbz).2.2).1
                    have : boxS (.pointer (some ⟨w10.heap.size, 0, none⟩)) (w10.alloc (.cells #[.int .i64 ((q + 1 : Nat) : Int)] 3)) = q + 1 := by simp only [boxS, hbx, Option.getD_some, intOf]; omega
                    first
                      | (have h2 := this; simp only [Int.natCast_add, Int.natCast_one] at h2; rw [h2]; omega)
                      | (erw [this]; omega)
                · have eq : q = p.length := by omega
                  subst eq
                  have HBI := mkH HI.out.1
                  go_wp2_with fail
                  clear HI kK kR hbox hql hq
                  go_loopw [14] (fun s14 wi => ∃ j : Nat, j ≤ l.length ∧ s14 = .int .i64 j ∧ Hid (Below wR.heap.size wR wi))
                    (fun s14 _ => l.length - (intOf s14).toNat)
                  case atStart => exact ⟨0, Nat.zero_le _, rfl, HBI⟩
                  case round =>
                    obtain ⟨j, hj, rfl, HBJ⟩ := hrel
                    obtain ⟨kL, _⟩ := box1 (HLR.out _ HBJ.out)
                    by_cases hjl : j < l.length
                    · have hjz : (j : Int) < (l.length : Int) := by omega
                      have hj0 : (0 : Int) ≤ (j : Int) := by omega
                      obtain ⟨iV, hiV, hzV, hz1V, hz2V⟩ := info_parts E.info32
                      have HIV := mkH (And.intro hiV (And.intro hzV (And.intro hz1V hz2V)))
                      clear hiV hzV hz1V hz2V
                      have HO0 : Hid (wr.ownsRow wR.heap.size 45 3 (.slice none 0 0) 0 (E.flatV ((colOf p j).take 0))) := mkH (own_nothing wr _)
                      go_wp2_with fail
                      go_loopw [15, 16] (fun s15 s16 wi => ∃ i : Nat, i ≤ p.length ∧ s16 = .int .i64 i ∧ Hid (wi.ownsRow wR.heap.size 45 3 s15 i (E.flatV ((colOf p j).take i))) ∧ Hid (Below wR.heap.size wR wi))
                        (fun _ s16 _ => p.length - (intOf s16).toNat)
                      case atStart => exact ⟨0, Nat.zero_le _, rfl, HO0, HBJ⟩
                      case round =>
                        obtain ⟨i, hi, rfl, HOW, HBI2⟩ := hrel
                        obtain ⟨kR, _⟩ := box1 (HRBk.out _ HBI2.out)
                        obtain ⟨oa, oc, rfl, _⟩ := E.ownsRow_slice HOW.out
                        by_cases hil : i < p.length
                        · have hilz : (i : Int) < (p.length : Int) := by omega
                          have hi0 : (0 : Int) ≤ (i : Int) := by omega
                          obtain ⟨r, hr⟩ : ∃ r, p[i]? = some r := ⟨_, List.getElem?_eq_getElem hil⟩
                          have hrl := (HRP.out r (List.mem_of_getElem? hr)).1
                          obtain ⟨rb, ro, rc', rv, hre, hrb, hrc, hrS⟩ := HQR.out.at hr
                          injection hre with hra _ hrcc
                          subst hra
                          subst hrcc
                          obtain ⟨a1, ac1, rfl, _, hS1⟩ := hrS
                          obtain ⟨b1, o1, rfl, hb1, hc1⟩ := hS1 (by intro e; rw [e] at hrl; simp at hrl; omega)
                          rw [hrl] at hrc
                          obtain ⟨⟨kx, nx, tx⟩, hx⟩ : ∃ x, r[j]? = some x := ⟨_, List.getElem?_eq_getElem (by omega)⟩
                          have HTK : Hid ((colOf p j).take (i + 1) = (colOf p j).take i ++ [(kx, nx, tx)]) := mkH (by
                            rw [E.take_next (x := (kx, nx, tx))]
                            simp [colOf, hr, hx])
                          have hbi := HBI2.out
                          have k1 := (hbi.cell (p := ⟨rb, ro + i, none⟩) hrb).trans hrc
                          have x0 := (hbi.cell (p := ⟨b1, o1 + j * 3, none⟩) hb1).trans (hc1 j _ hx).1
                          have x1 := (hbi.cell (p := ⟨b1, o1 + j * 3 + 1, none⟩) hb1).trans (hc1 j _ hx).2.1
                          have x2 := (hbi.cell (p := ⟨b1, o1 + j * 3 + 2, none⟩) hb1).trans (hc1 j _ hx).2.2
                          have hsw := hbi.size
                          clear hr hrl hrb hrc hb1 hc1 hS1 hx hbi kL
                          go_wp2_with (at_builtin; refine wpList_append_lies _ rfl _ _ 57 rfl wR.heap.size 45 iV (.agg #[.int .i64 0, .int .i64 0, .string ⟨#[]⟩]) 3 32 Tryz.underlying57 HIV.out.1 HIV.out.2.1 HIV.out.2.2.1 HIV.out.2.2.2 rfl (by decide) _ _ _ rfl (HOW.out.alloc _) ⟨wr.heap.size, 0, none⟩ 1 1 [.int .i64 kx, .int .i64 nx, .string tx] rfl rfl (fun j u hj => World.news_of_block (heap_alloc_new _ _) j u hj) (E.flatV_one [(kx, nx, tx)]) Nat.one_pos ?a4 ?a5 (by simp; omega) _ rfl ?_)
                          case a4 => unfold maxLen; omega
                          case a5 => omega
                          intro g6 c6 w6' ho6 hg6 hat6 hlt6
                          have HO6 : Hid (w6'.ownsRow wR.heap.size 45 3 (.slice (some ⟨g6, 0, none⟩) (i + 1) c6) (i + 1) (E.flatV ((colOf p j).take (i + 1)))) := mkH (by rw [HTK.out, E.flatV, List.flatMap_append]; exact ho6)
                          have HB6 : Hid (Below wR.heap.size wR w6') := mkH (E.below_grown_own (HBI2.out.alloc hsw _) (HOW.out.alloc _) hg6 (by simp; omega))
                          clear ho6 hg6 hat6 hlt6 x0 x1 x2 k1 kR
                          go_wp2
                          exact ⟨⟨i + 1, by omega, by go_num, HO6, HB6⟩, by simp [intOf]; omega⟩
                        · have ei : i = p.length := by omega
                          subst ei
                          have hbj := HBI2.out
                          have hbw := ups (ups HB7.out HBR.out) hbj
                          obtain ⟨kL2, _⟩ := box1 (HLR.out _ hbj)
                          obtain ⟨f0, f1⟩ := row2 (HFR.out _ hbj)
                          have ex : ∃ x, l[j]! = x := ⟨_, rfl⟩
                          obtain ⟨⟨y1, y2, y3, y4, y5, y6, y7⟩, hx⟩ := ex
                          have hx? : (l[j]?.getD zC) = (y1, y2, y3, y4, y5, y6, y7) := by
                            rw [List.getElem?_eq_getElem hjl, Option.getD_some, ← hx, getElem!_pos l j hjl]
                          obtain ⟨e0, e1, e2, e3, e4, e5, e6⟩ := (HSL.out.below (ups HBL.out hbw)).cells hjl hx
                          have hpos : posI l y1 = j := by
                            have := pos_own HRF.out.once hjl
                            rw [hx?] at this
                            unfold posI
                            simp only at this
                            rw [if_pos (by omega), this]
                          have HKN := mkH (fun W (hW : Below wr.heap.size wr W) => known_any k j (.slice ca l.length cc) (.slice ga (nGr rows.length) gc) l (groupsOf l rows) (groupOf l p) (S.stOf (colOf p j)) y1 y2 y3 y4 y5 y6 y7 W (HF7.out.up (ups (ups HBR.out hbj) hW)) HGK.out hl1 hl8 (whole_made l p hpl.1 hpl.2) hpos (stat_made l p hjl))
                          have HOF : Hid (∀ W, Below wr.heap.size wr W → Calls Tryz.prog 29 #[.slice oa p.length oc] W fun e w' => e = .returned (.agg (S.cellsS (S.stOf (colOf p j)))) ∧ Below W.heap.size W w') := mkH (fun W hW => by
                            have hfull : (colOf p j).take p.length = colOf p j := by rw [List.take_of_length_le (by rw [colOf_len]; omega)]
                            have ho := HOW.out
                            rw [hfull] at ho
                            have hsl : E.Sl wr (.slice oa p.length oc) (colOf p j) := E.Sl_of_owns (by rw [colOf_len]; exact ho)
                            exact S.of_any (.slice oa p.length oc) (colOf p j) W (hsl.up hW) (by rw [colOf_len]; omega))
                          obtain ⟨⟨s1, s2, ⟨k1, n1, t1⟩, ⟨k2, n2, t2⟩⟩, hst⟩ : ∃ st, S.stOf (colOf p j) = st := ⟨_, rfl⟩
                          rw [hst] at HKN HOF
                          unfold S.cellsS at HKN HOF
                          simp only at HKN HOF
                          have HEK : Hid (∀ args w, (callFunc 28 args).run Tryz.prog w = .ok (.enter 28 args) w) := mkH (enters_of Tryz.func28 (by kernel_rfl) rfl)
                          have HEO : Hid (∀ args w, (callFunc 29 args).run Tryz.prog w = .ok (.enter 29 args) w) := mkH (enters_of Tryz.func29 (by kernel_rfl) rfl)
                          go_wp2_with fail
                          clear hst hx hx? hpos hbj hbw kR HOW kL
                          go_region_law
                            (first
                              | (refine step_call3 (by rfl) 28 (.tmp 99) (.tmp 100) (.tmp 104) 29 3 47 (by rfl) (.agg #[.slice ca l.length cc, .slice ga (nGr rows.length) gc]) (.int .i64 k) (.agg #[.int .i64 y1, .string y2, .int .i64 y3, .bool y4, .int .i64 y5, .int .i64 y6, .string y7]) (by rfl) (by rfl) (by rfl) HEK.out _ (HKN.out wr.drew (Below.refl _ _).drew) ?_
                                 rintro e w9 ⟨rfl, hb9'⟩
                                 have hb9 : Below wr.heap.size wr w9 := ups (Below.refl _ _).drew hb9'
                                 refine ⟨_, rfl, ?_⟩)
                              | (refine step_call1 (by rfl) 29 (.tmp 106) 57 (by rfl) (.slice oa p.length oc) (by rfl) HEO.out _ (HOF.out w9 hb9) ?_
                                 rintro e w10 ⟨rfl, hb10'⟩
                                 have hb10 := ups hb9 hb10'
                                 refine ⟨_, rfl, ?_⟩)
                              | fail)
                          all_goals
                            have HBZ := mkH (ups HBI2.out hb10)
                            clear hb9 hb9' hb10 hb10'
                            go_wp2
                            exact ⟨⟨j + 1, by omega, by go_num, HBZ⟩, by simp [intOf]; omega⟩
                    · have ej : j = l.length := by omega
                      subst ej
                      go_wp2
                      exact ⟨⟨k + 1, by omega, by go_num, ups HBR.out HBJ.out⟩, by simp [intOf]; omega⟩
            · have ek : k = nGr rows.length := by omega
              subst ek
              have hbf := ups (ups HBL.out HB7.out) HBK.out
              go_wp2
              go_ret
              exact ⟨rfl, hbf⟩
        · have hbf := ups (ups HBL.out HBX.out) hb7
          go_wp2
          go_ret
          exact ⟨rfl, hbf⟩
end Go.Proofs.YtodemklghajdeaaGreatDoor
