/- What schema.More does, said of every call. -/
import Derived.Test.YtjghcilcmmlobaaDoorW6
import Derived.Deep.RegionHeld3
import Derived.Deep.AppendLies
namespace Go.Proofs.YtjghcilcmmlobaaDoor
open Go.RowKit Go.Proofs Go.Lib Go.Joins
open Go.Sort (grow)

def S7 (W : World) (b : Nat) (v0 v1 v2 v3 v4 v5 v6 : Value) : Prop := W.cell? ⟨b, 0, none⟩ = some v0 ∧ W.cell? ⟨b, 1, none⟩ = some v1 ∧ W.cell? ⟨b, 2, none⟩ = some v2 ∧ W.cell? ⟨b, 3, none⟩ = some v3 ∧ W.cell? ⟨b, 4, none⟩ = some v4 ∧ W.cell? ⟨b, 5, none⟩ = some v5 ∧ W.cell? ⟨b, 6, none⟩ = some v6
theorem s7 {W : World} {b : Nat} {v0 v1 v2 v3 v4 v5 v6 : Value} (h : W.heap[b]? = some (.cells #[v0, v1, v2, v3, v4, v5, v6] 54)) : S7 W b v0 v1 v2 v3 v4 v5 v6 := by
  refine ⟨?_, ?_, ?_, ?_, ?_, ?_, ?_⟩ <;> simp [World.cell?, h]
theorem heap_alloc_new (w : World) (o : Obj) : (w.alloc o).heap[w.heap.size]? = some o := by
  show (w.heap.push o)[w.heap.size]? = some o
  simp
theorem step_more {ops : Array Oper} {o : Oper} {a : Act} {K : Act → World → Prop} {Q : Exit → Act → World → Prop} {E : Prop} {W : World} (hgd : o.guard = none) (s x : Operand)
    (ho : o.op = .call { callee := .builtin .append, args := #[s, x], argTypes := #[55, 55] }) (base n : Nat) (v : Value) (xs : List Value) (hown : W.ownsRow base 54 7 v n xs) (b : Nat) (cs : List Value)
    (hb : W.heap[b]? = some (.cells cs.toArray 54)) (hs : a.eval s = v) (hx : a.eval x = .slice (some ⟨b, 0, none⟩) 1 1) (hl : cs.length = 7) (h1 : ∀ u ∈ cs, u.oneCell' = true) (hn : n ≤ 1000) (hbase : base ≤ W.heap.size)
    (h : ∀ g cap w', Hid (w'.ownsRow base 54 7 (.slice (some ⟨g, 0, none⟩) (n + 1) cap) (n + 1) (xs ++ cs) ∧ W.grownBy w' v.ownBlock) → K (a.put o.dst (.slice (some ⟨g, 0, none⟩) (n + 1) cap)) w') :
    if Region.wanted o (yielded ops a.tmps) = true then Oper.wp Tryd.prog o a W K Q else E := by
  obtain ⟨i0, hi0, hz0, hz1, hz2⟩ := info_parts info54
  exact step_append_lies W hgd s x 55 ho base 54 i0 zeroC 7 72 Tryd.underlying55 hi0 hz0 hz1 hz2 rfl (by omega) v n xs hs hown ⟨b, 0, none⟩ 1 1 cs hx (by omega) (fun j u hj => World.news_of_block hb j u (by simpa using hj)) h1 (by omega) (by unfold maxLen; omega) (by omega) hbase _ rfl (fun g cap w' h2 h3 _ _ => h g cap w' ⟨h2, h3⟩)

set_option maxHeartbeats 4000000 in
set_option maxRecDepth 100000 in
theorem more_yes (g cp : Nat) (l : List Col) (next i : Int) (nm : ByteArray) (k : Int) (mu : Bool) (dk dn : Int) (dt : ByteArray) (w : World) (h : SlC w g 0 l) (h8 : l.length < 8) (hf : findC l nm = -1) (hmay : mayB (next, nm, k, mu, dk, dn, dt) = true) (hmu : (mu && dk == 0) = false) (hn1 : 1 ≤ next) (hn2 : next ≤ 1000) (hw : NcB w) :
    Calls Tryd.prog 28 #[.slice (some ⟨g, 0, none⟩) l.length cp, .int .i64 next, .agg #[.int .i64 i, .string nm, .int .i64 k, .bool mu, .int .i64 dk, .int .i64 dn, .string dt]] w fun e w' => ∃ g' c', e = .returned (.tuple #[.slice (some ⟨g', 0, none⟩) (l.length + 1) c', .int .i64 (next + 1), .nilIface]) ∧ w'.ownsRow w.heap.size 54 7 (.slice (some ⟨g', 0, none⟩) (l.length + 1) c') (l.length + 1) (cellsC (l ++ [(next, nm, k, mu, dk, dn, dt)])) ∧ Below w.heap.size w w' := by
  have hm := (mayB_iff _).1 hmay
  have hl8 : ¬ (8 : Int) ≤ (l.length : Int) := by omega
  have HW : Hid (IntKind.i64.wrap (next + 1) = next + 1) := by rw [show IntKind.i64.wrap (next + 1) = next + 1 by rw [IntKind.wrap_i64]; omega]; exact rfl
  have HF : Hid (∀ W, Below w.heap.size w W → Calls Tryd.prog 33 #[.slice (some ⟨g, 0, none⟩) l.length cp, .string nm] W fun e w' => e = .returned (.int .i64 (-1)) ∧ Below W.heap.size W w') := fun W hb => by
    have := find_any g 0 cp l nm W (h.below hb) (by omega)
    rwa [hf] at this
  have HM : Hid (∀ W, Below w.heap.size w W → Calls Tryd.prog 51 #[.agg #[.int .i64 next, .string nm, .int .i64 k, .bool mu, .int .i64 dk, .int .i64 dn, .string dt]] W fun e w' => e = .returned (.bool true) ∧ Below W.heap.size W w') := fun W hb => by
    have := mayBe_any next nm k mu dk dn dt W (col_small hm.2.2.1) (fit_small hm.2.2.2) (hw.below hb)
    rwa [hmay] at this
  have HC : Hid (∀ W, Below w.heap.size w W → Calls Tryd.prog 27 #[.slice (some ⟨g, 0, none⟩) l.length cp] W fun e w' => ∃ g' c', e = .returned (.slice (some ⟨g', 0, none⟩) l.length c') ∧ w'.ownsRow W.heap.size 54 7 (.slice (some ⟨g', 0, none⟩) l.length c') l.length (cellsC l) ∧ Below W.heap.size W w') := fun W hb => clone_any g 0 cp l W (h.below hb) (by omega)
  have B1 : Hid (∀ X : Obj, Below w.heap.size w (w.alloc X)) := fun X => (Below.refl _ _).alloc (Nat.le_refl _) _
  clear h hf hmay hm hw
  cases mu with
  | false =>
    go_enter Tryd.func28, Tryd.ntmps28
    go_wp2_with (first
      | (go_at_call 33; refine (HF.out _ (B1.out _)).mono ?_; rintro e w1 ⟨rfl, hb1⟩; have hcl0 : ∀ o, w1.cell? ⟨w.heap.size, o, none⟩ = _ := fun o => hb1.cell (p := ⟨w.heap.size, o, none⟩) (by simp))
      | (go_at_call 51; refine (HM.out _ (Below.ups (B1.out _) hb1)).mono ?_; rintro e w2 ⟨rfl, hb2⟩; have hcl2 : ∀ o, w2.cell? ⟨w.heap.size, o, none⟩ = _ := fun o => hb2.cell (p := ⟨w.heap.size, o, none⟩) (Nat.lt_of_lt_of_le (by simp) hb1.size)))
    have hh2 : Hid (w2.heap[w.heap.size]? = some (.cells #[.int .i64 next, .string nm, .int .i64 k, .bool false, .int .i64 dk, .int .i64 dn, .string dt] 54)) := by
      have e1 := hb1.block w.heap.size (by simp)
      have e2 := hb2.block w.heap.size (Nat.lt_of_lt_of_le (by simp) hb1.size)
      exact e2.trans (e1.trans (heap_alloc_new _ _))
    have hB2 : Hid (Below w.heap.size w w2) := Below.ups (Below.ups (B1.out _) hb1) hb2
    have hlt : w.heap.size < w2.heap.size := Nat.lt_of_lt_of_le (Nat.lt_of_lt_of_le (by simp) hb1.size) hb2.size
    clear hcl0 hcl2 hb1 hb2
    have HX : Hid (∀ W, Below w2.heap.size w2 W → Calls Tryd.prog 27 #[.slice (some ⟨g, 0, none⟩) l.length cp] W fun e w' => ∃ g' c', e = .returned (.slice (some ⟨g', 0, none⟩) l.length c') ∧ w'.ownsRow w.heap.size 54 7 (.slice (some ⟨g', 0, none⟩) l.length c') l.length (cellsC l) ∧ w2.heap.size ≤ g' ∧ Below W.heap.size W w' ∧ Below w2.heap.size w2 w') := fun W hb => (HC.out W (Below.ups hB2.out hb)).mono fun e w' ⟨g', c', he, ho, hb'⟩ => ⟨g', c', he, ownsRow_le ho (Nat.le_trans (Nat.le_of_lt hlt) hb.size), Nat.le_trans hb.size (ho.lt _ rfl).1, hb', Below.ups hb hb'⟩
    have HK : Hid (∀ W : World, Below w2.heap.size w2 W → S7 W w.heap.size (.int .i64 next) (.string nm) (.int .i64 k) (.bool false) (.int .i64 dk) (.int .i64 dn) (.string dt)) := fun W hb => s7 ((hb.block _ hlt).trans hh2.out)
    obtain ⟨i0, hi0, hz0, hz1, hz2⟩ := info_parts info54
    have HI := mkH (And.intro hi0 (And.intro hz0 (And.intro hz1 hz2)))
    clear hi0 hz0 hz1 hz2
    obtain ⟨q0, q1, q2, q3, q4, q5, q6⟩ := HK.out w2 (Below.refl _ _)
    go_region_held3 (fun w' => w'.cell? ⟨w.heap.size, 0, none⟩ = some (.int .i64 next) ∧ w'.cell? ⟨w.heap.size, 1, none⟩ = some (.string nm) ∧ w'.cell? ⟨w.heap.size, 2, none⟩ = some (.int .i64 k) ∧ w'.cell? ⟨w.heap.size, 3, none⟩ = some (.bool false) ∧ w'.cell? ⟨w.heap.size, 4, none⟩ = some (.int .i64 dk) ∧ w'.cell? ⟨w.heap.size, 5, none⟩ = some (.int .i64 dn) ∧ w'.cell? ⟨w.heap.size, 6, none⟩ = some (.string dt))
      (first
        | (go_keep; done)
        | exact HK.out _ hb3b
        | exact HK.out _ ((hb3b.alloc hb3b.size _).grown ho4.out.2 (by have := hb3b.size; simp; omega) (fun j hj => by cases hj; exact hg3))
        | exact HK.out _ (hb3b.grown ho4.out.2 hb3b.size (fun j hj => by cases hj; exact hg3))
        | fail)
      (first
        | (go_at_call 27; refine (HX.out _ ?_).mono ?_; (first | exact (Below.refl _ _).drew | exact (Below.refl _ _).drew.alloc (by simp) _ | exact ((Below.refl _ _).alloc (Nat.le_refl _) _).drew); rintro e w3 ⟨g3, c3, rfl, ho3, hg3, hb3, hb3b⟩)
        | (refine step_more (by rfl) (.tmp 37) (.tmp 39) (by rfl) w.heap.size l.length (.slice (some ⟨g3, 0, none⟩) l.length c3) (cellsC l) (ho3.alloc _) w3.heap.size [.int .i64 next, .string nm, .int .i64 k, .bool false, .int .i64 dk, .int .i64 dn, .string dt] (heap_alloc_new _ _) (by rfl) (by rfl) rfl (by simp [Value.oneCell']) (by omega) (by have := hb3b.size; simp; omega) ?_; intro g4 c4 w4 ho4)
        | (refine step_more (by rfl) (.tmp 37) (.tmp 39) (by rfl) w.heap.size l.length (.slice (some ⟨g3, 0, none⟩) l.length c3) (cellsC l) ho3 w2.heap.size [.int .i64 next, .string nm, .int .i64 k, .bool false, .int .i64 dk, .int .i64 dn, .string dt] ((hb3.block _ (by simp)).trans (heap_alloc_new _ _)) (by rfl) (by rfl) rfl (by simp [Value.oneCell']) (by omega) (by have := hb3b.size; simp; omega) ?_; intro g4 c4 w4 ho4)
        | fail)
    · go_wp2
      go_ret3
      refine ⟨g4, c4, by simp [HW.out], ?_, Below.ups hB2.out ((hb3b.alloc hb3b.size _).grown ho4.out.2 (by have := hb3b.size; simp; omega) (fun j hj => by cases hj; exact hg3))⟩
      rw [cellsC_append]
      exact ho4.out.1
    · go_wp2
      go_ret3
      refine ⟨g4, c4, by simp [HW.out], ?_, Below.ups hB2.out (hb3b.grown ho4.out.2 hb3b.size (fun j hj => by cases hj; exact hg3))⟩
      rw [cellsC_append]
      exact ho4.out.1
  | true =>
    have hdk : (dk == 0) = false := by simpa using hmu
    go_enter Tryd.func28, Tryd.ntmps28
    go_wp2_with (first
      | (go_at_call 33; refine (HF.out _ (B1.out _)).mono ?_; rintro e w1 ⟨rfl, hb1⟩; have hcl0 : ∀ o, w1.cell? ⟨w.heap.size, o, none⟩ = _ := fun o => hb1.cell (p := ⟨w.heap.size, o, none⟩) (by simp))
      | (go_at_call 51; refine (HM.out _ (Below.ups (B1.out _) hb1)).mono ?_; rintro e w2 ⟨rfl, hb2⟩; have hcl2 : ∀ o, w2.cell? ⟨w.heap.size, o, none⟩ = _ := fun o => hb2.cell (p := ⟨w.heap.size, o, none⟩) (Nat.lt_of_lt_of_le (by simp) hb1.size)))
    have hh2 : Hid (w2.heap[w.heap.size]? = some (.cells #[.int .i64 next, .string nm, .int .i64 k, .bool true, .int .i64 dk, .int .i64 dn, .string dt] 54)) := by
      have e1 := hb1.block w.heap.size (by simp)
      have e2 := hb2.block w.heap.size (Nat.lt_of_lt_of_le (by simp) hb1.size)
      exact e2.trans (e1.trans (heap_alloc_new _ _))
    have hB2 : Hid (Below w.heap.size w w2) := Below.ups (Below.ups (B1.out _) hb1) hb2
    have hlt : w.heap.size < w2.heap.size := Nat.lt_of_lt_of_le (Nat.lt_of_lt_of_le (by simp) hb1.size) hb2.size
    clear hcl0 hcl2 hb1 hb2
    have HX : Hid (∀ W, Below w2.heap.size w2 W → Calls Tryd.prog 27 #[.slice (some ⟨g, 0, none⟩) l.length cp] W fun e w' => ∃ g' c', e = .returned (.slice (some ⟨g', 0, none⟩) l.length c') ∧ w'.ownsRow w.heap.size 54 7 (.slice (some ⟨g', 0, none⟩) l.length c') l.length (cellsC l) ∧ w2.heap.size ≤ g' ∧ Below W.heap.size W w' ∧ Below w2.heap.size w2 w') := fun W hb => (HC.out W (Below.ups hB2.out hb)).mono fun e w' ⟨g', c', he, ho, hb'⟩ => ⟨g', c', he, ownsRow_le ho (Nat.le_trans (Nat.le_of_lt hlt) hb.size), Nat.le_trans hb.size (ho.lt _ rfl).1, hb', Below.ups hb hb'⟩
    have HK : Hid (∀ W : World, Below w2.heap.size w2 W → S7 W w.heap.size (.int .i64 next) (.string nm) (.int .i64 k) (.bool true) (.int .i64 dk) (.int .i64 dn) (.string dt)) := fun W hb => s7 ((hb.block _ hlt).trans hh2.out)
    obtain ⟨i0, hi0, hz0, hz1, hz2⟩ := info_parts info54
    have HI := mkH (And.intro hi0 (And.intro hz0 (And.intro hz1 hz2)))
    clear hi0 hz0 hz1 hz2
    obtain ⟨q0, q1, q2, q3, q4, q5, q6⟩ := HK.out w2 (Below.refl _ _)
    go_region_held3 (fun w' => w'.cell? ⟨w.heap.size, 0, none⟩ = some (.int .i64 next) ∧ w'.cell? ⟨w.heap.size, 1, none⟩ = some (.string nm) ∧ w'.cell? ⟨w.heap.size, 2, none⟩ = some (.int .i64 k) ∧ w'.cell? ⟨w.heap.size, 3, none⟩ = some (.bool true) ∧ w'.cell? ⟨w.heap.size, 4, none⟩ = some (.int .i64 dk) ∧ w'.cell? ⟨w.heap.size, 5, none⟩ = some (.int .i64 dn) ∧ w'.cell? ⟨w.heap.size, 6, none⟩ = some (.string dt))
      (first
        | (go_keep; done)
        | exact HK.out _ hb3b
        | exact HK.out _ ((hb3b.alloc hb3b.size _).grown ho4.out.2 (by have := hb3b.size; simp; omega) (fun j hj => by cases hj; exact hg3))
        | exact HK.out _ (hb3b.grown ho4.out.2 hb3b.size (fun j hj => by cases hj; exact hg3))
        | fail)
      (first
        | (go_at_call 27; refine (HX.out _ ?_).mono ?_; (first | exact (Below.refl _ _).drew | exact (Below.refl _ _).drew.alloc (by simp) _ | exact ((Below.refl _ _).alloc (Nat.le_refl _) _).drew); rintro e w3 ⟨g3, c3, rfl, ho3, hg3, hb3, hb3b⟩)
        | (refine step_more (by rfl) (.tmp 37) (.tmp 39) (by rfl) w.heap.size l.length (.slice (some ⟨g3, 0, none⟩) l.length c3) (cellsC l) (ho3.alloc _) w3.heap.size [.int .i64 next, .string nm, .int .i64 k, .bool true, .int .i64 dk, .int .i64 dn, .string dt] (heap_alloc_new _ _) (by rfl) (by rfl) rfl (by simp [Value.oneCell']) (by omega) (by have := hb3b.size; simp; omega) ?_; intro g4 c4 w4 ho4)
        | (refine step_more (by rfl) (.tmp 37) (.tmp 39) (by rfl) w.heap.size l.length (.slice (some ⟨g3, 0, none⟩) l.length c3) (cellsC l) ho3 w2.heap.size [.int .i64 next, .string nm, .int .i64 k, .bool true, .int .i64 dk, .int .i64 dn, .string dt] ((hb3.block _ (by simp)).trans (heap_alloc_new _ _)) (by rfl) (by rfl) rfl (by simp [Value.oneCell']) (by omega) (by have := hb3b.size; simp; omega) ?_; intro g4 c4 w4 ho4)
        | fail)
    · go_wp2
      go_ret3
      refine ⟨g4, c4, by simp [HW.out], ?_, Below.ups hB2.out ((hb3b.alloc hb3b.size _).grown ho4.out.2 (by have := hb3b.size; simp; omega) (fun j hj => by cases hj; exact hg3))⟩
      rw [cellsC_append]
      exact ho4.out.1
    · go_wp2
      go_ret3
      refine ⟨g4, c4, by simp [HW.out], ?_, Below.ups hB2.out (hb3b.grown ho4.out.2 hb3b.size (fun j hj => by cases hj; exact hg3))⟩
      rw [cellsC_append]
      exact ho4.out.1

def okMore (l : List Col) (c : Col) : Prop := findC l c.2.1 = -1 ∧ l.length < 8 ∧ mayB c = true ∧ (c.2.2.2.1 && c.2.2.2.2.1 == 0) = false

set_option maxHeartbeats 4000000 in
set_option maxRecDepth 100000 in
theorem more_no (g cp : Nat) (l : List Col) (next i : Int) (nm : ByteArray) (k : Int) (mu : Bool) (dk dn : Int) (dt : ByteArray) (w : World) (h : SlC w g 0 l) (h8 : l.length ≤ 8) (hnm : nm.size ≤ maxLen) (hdt : dt.size ≤ maxLen) (hno : ¬ okMore l (next, nm, k, mu, dk, dn, dt)) (hw : NcB w) :
    Calls Tryd.prog 28 #[.slice (some ⟨g, 0, none⟩) l.length cp, .int .i64 next, .agg #[.int .i64 i, .string nm, .int .i64 k, .bool mu, .int .i64 dk, .int .i64 dn, .string dt]] w fun e w' => ∃ x, e = .returned (.tuple #[.slice none 0 0, .int .i64 0, .iface 87 (.int .i64 x)]) ∧ Below w.heap.size w w' := by
  have HF : Hid (∀ W, Below w.heap.size w W → Calls Tryd.prog 33 #[.slice (some ⟨g, 0, none⟩) l.length cp, .string nm] W fun e w' => e = .returned (.int .i64 (findC l nm)) ∧ Below W.heap.size W w') := fun W hb => find_any g 0 cp l nm W (h.below hb) h8
  have HM : Hid (∀ W, Below w.heap.size w W → Calls Tryd.prog 51 #[.agg #[.int .i64 next, .string nm, .int .i64 k, .bool mu, .int .i64 dk, .int .i64 dn, .string dt]] W fun e w' => e = .returned (.bool (mayB (next, nm, k, mu, dk, dn, dt))) ∧ Below W.heap.size W w') := fun W hb => mayBe_any next nm k mu dk dn dt W hnm hdt (hw.below hb)
  have B1 : Hid (∀ X : Obj, Below w.heap.size w (w.alloc X)) := fun X => (Below.refl _ _).alloc (Nat.le_refl _) _
  clear h hw hnm hdt
  by_cases hf : 0 ≤ findC l nm
  · generalize findC l nm = f at HF hf
    clear HM hno
    go_enter Tryd.func28, Tryd.ntmps28
    go_wp2_with (first
      | (go_at_call 33; refine (HF.out _ (B1.out _)).mono ?_; rintro e w1 ⟨rfl, hb1⟩))
    go_ret3
    exact ⟨_, rfl, Below.ups (B1.out _) hb1⟩
  · have hf1 : findC l nm = -1 := by
      rcases find_cases l nm with ⟨e, _⟩ | ⟨j, _, e, _⟩
      · exact e
      · omega
    rw [hf1] at HF
    by_cases h7 : l.length < 8
    · have hl8 : ¬ (8 : Int) ≤ (l.length : Int) := by omega
      cases hm : mayB (next, nm, k, mu, dk, dn, dt) with
      | false =>
        rw [hm] at HM
        clear hno hf hf1 hm
        go_enter Tryd.func28, Tryd.ntmps28
        go_wp2_with (first
          | (go_at_call 33; refine (HF.out _ (B1.out _)).mono ?_; rintro e w1 ⟨rfl, hb1⟩; have hcl0 : ∀ o, w1.cell? ⟨w.heap.size, o, none⟩ = _ := fun o => hb1.cell (p := ⟨w.heap.size, o, none⟩) (by simp))
          | (go_at_call 51; refine (HM.out _ (Below.ups (B1.out _) hb1)).mono ?_; rintro e w2 ⟨rfl, hb2⟩; have hcl2 : ∀ o, w2.cell? ⟨w.heap.size, o, none⟩ = _ := fun o => hb2.cell (p := ⟨w.heap.size, o, none⟩) (Nat.lt_of_lt_of_le (by simp) hb1.size)))
        go_ret3
        exact ⟨_, rfl, Below.ups (Below.ups (B1.out _) hb1) hb2⟩
      | true =>
        rw [hm] at HM
        have hmu : (mu && dk == 0) = true := by
          cases hq : (mu && dk == 0) with
          | true => rfl
          | false => exact (hno ⟨hf1, h7, hm, hq⟩).elim
        have h1 : mu = true := by simp at hmu; exact hmu.1
        have h2 : dk = 0 := by simp at hmu; exact hmu.2
        subst h1 h2
        clear hno hf hf1 hm hmu
        go_enter Tryd.func28, Tryd.ntmps28
        go_wp2_with (first
          | (go_at_call 33; refine (HF.out _ (B1.out _)).mono ?_; rintro e w1 ⟨rfl, hb1⟩; have hcl0 : ∀ o, w1.cell? ⟨w.heap.size, o, none⟩ = _ := fun o => hb1.cell (p := ⟨w.heap.size, o, none⟩) (by simp))
          | (go_at_call 51; refine (HM.out _ (Below.ups (B1.out _) hb1)).mono ?_; rintro e w2 ⟨rfl, hb2⟩; have hcl2 : ∀ o, w2.cell? ⟨w.heap.size, o, none⟩ = _ := fun o => hb2.cell (p := ⟨w.heap.size, o, none⟩) (Nat.lt_of_lt_of_le (by simp) hb1.size)))
        go_ret3
        exact ⟨_, rfl, Below.ups (Below.ups (B1.out _) hb1) hb2⟩
    · have hl8 : (8 : Int) ≤ (l.length : Int) := by omega
      clear HM hno hf hf1
      go_enter Tryd.func28, Tryd.ntmps28
      go_wp2_with (first
        | (go_at_call 33; refine (HF.out _ (B1.out _)).mono ?_; rintro e w1 ⟨rfl, hb1⟩))
      go_ret3
      exact ⟨_, rfl, Below.ups (B1.out _) hb1⟩
end Go.Proofs.YtjghcilcmmlobaaDoor
