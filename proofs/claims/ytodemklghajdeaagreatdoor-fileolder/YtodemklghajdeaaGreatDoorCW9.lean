/- What schema.Rename does, said of every call. -/
import Derived.Test.YtodemklghajdeaaGreatDoorCW6
import Derived.Deep.RegionHeld3
import Derived.Deep.AppendLies
namespace Go.Proofs.YtodemklghajdeaaGreatDoor.C
open Go.RowKit Go.Proofs Go.Lib Go.Joins
open Go.Sort (grow)

def S7 (W : World) (b : Nat) (v0 v1 v2 v3 v4 v5 v6 : Value) : Prop := W.cell? ⟨b, 0, none⟩ = some v0 ∧ W.cell? ⟨b, 1, none⟩ = some v1 ∧ W.cell? ⟨b, 2, none⟩ = some v2 ∧ W.cell? ⟨b, 3, none⟩ = some v3 ∧ W.cell? ⟨b, 4, none⟩ = some v4 ∧ W.cell? ⟨b, 5, none⟩ = some v5 ∧ W.cell? ⟨b, 6, none⟩ = some v6
theorem s7 {W : World} {b : Nat} {v0 v1 v2 v3 v4 v5 v6 : Value} (h : W.heap[b]? = some (.cells #[v0, v1, v2, v3, v4, v5, v6] 47)) : S7 W b v0 v1 v2 v3 v4 v5 v6 := by
  refine ⟨?_, ?_, ?_, ?_, ?_, ?_, ?_⟩ <;> simp [World.cell?, h]
theorem heap_alloc_new (w : World) (o : Obj) : (w.alloc o).heap[w.heap.size]? = some o := by
  show (w.heap.push o)[w.heap.size]? = some o
  simp
theorem step_more {ops : Array Oper} {o : Oper} {a : Act} {K : Act → World → Prop} {Q : Exit → Act → World → Prop} {E : Prop} {W : World} (hgd : o.guard = none) (s x : Operand)
    (ho : o.op = .call { callee := .builtin .append, args := #[s, x], argTypes := #[22, 22] }) (base n : Nat) (v : Value) (xs : List Value) (hown : W.ownsRow base 47 7 v n xs) (b : Nat) (cs : List Value)
    (hb : W.heap[b]? = some (.cells cs.toArray 47)) (hs : a.eval s = v) (hx : a.eval x = .slice (some ⟨b, 0, none⟩) 1 1) (hl : cs.length = 7) (h1 : ∀ u ∈ cs, u.oneCell' = true) (hn : n ≤ 1000) (hbase : base ≤ W.heap.size)
    (h : ∀ g cap w', Hid (w'.ownsRow base 47 7 (.slice (some ⟨g, 0, none⟩) (n + 1) cap) (n + 1) (xs ++ cs) ∧ W.grownBy w' v.ownBlock) → K (a.put o.dst (.slice (some ⟨g, 0, none⟩) (n + 1) cap)) w') :
    if Region.wanted o (yielded ops a.tmps) = true then Oper.wp Tryz.prog o a W K Q else E := by
  obtain ⟨i0, hi0, hz0, hz1, hz2⟩ := info_parts info54
  exact step_append_lies W hgd s x 22 ho base 47 i0 zeroC 7 72 Tryz.underlying22 hi0 hz0 hz1 hz2 rfl (by omega) v n xs hs hown ⟨b, 0, none⟩ 1 1 cs hx (by omega) (fun j u hj => World.news_of_block hb j u (by simpa using hj)) h1 (by omega) (by unfold maxLen; omega) (by omega) hbase _ rfl (fun g cap w' h2 h3 _ _ => h g cap w' ⟨h2, h3⟩)

set_option maxHeartbeats 4000000 in
set_option maxRecDepth 100000 in
theorem more_yes (g o cp : Nat) (l : List Col) (next i : Int) (nm : ByteArray) (k : Int) (mu : Bool) (dk dn : Int) (dt : ByteArray) (w : World) (h : SlC w g o l) (h8 : l.length < 8) (hf : findC l nm = -1) (hmay : mayB (next, nm, k, mu, dk, dn, dt) = true) (hmu : (mu && dk == 0) = false) (hn1 : 1 ≤ next) (hn2 : next ≤ 1000000000000000) (hw : NcB w) :
    Calls Tryz.prog 16 #[.slice (some ⟨g, o, none⟩) l.length cp, .int .i64 next, .agg #[.int .i64 i, .string nm, .int .i64 k, .bool mu, .int .i64 dk, .int .i64 dn, .string dt]] w fun e w' => ∃ g' c', e = .returned (.tuple #[.slice (some ⟨g', 0, none⟩) (l.length + 1) c', .int .i64 (next + 1), .nilIface]) ∧ w'.ownsRow w.heap.size 47 7 (.slice (some ⟨g', 0, none⟩) (l.length + 1) c') (l.length + 1) (cellsC (l ++ [(next, nm, k, mu, dk, dn, dt)])) ∧ Below w.heap.size w w' := by
  have hm := (mayB_iff _).1 hmay
  have hl8 : ¬ (8 : Int) ≤ (l.length : Int) := by omega
  have HW : Hid (IntKind.i64.wrap (next + 1) = next + 1) := by rw [show IntKind.i64.wrap (next + 1) = next + 1 by rw [IntKind.wrap_i64]; omega]; exact rfl
  have HF : Hid (∀ W, Below w.heap.size w W → Calls Tryz.prog 27 #[.slice (some ⟨g, o, none⟩) l.length cp, .string nm] W fun e w' => e = .returned (.int .i64 (-1)) ∧ Below W.heap.size W w') := fun W hb => by
    have := find_any g o cp l nm W (h.below hb) (by omega)
    rwa [hf] at this
  have HM : Hid (∀ W, Below w.heap.size w W → Calls Tryz.prog 46 #[.agg #[.int .i64 next, .string nm, .int .i64 k, .bool mu, .int .i64 dk, .int .i64 dn, .string dt]] W fun e w' => e = .returned (.bool true) ∧ Below W.heap.size W w') := fun W hb => by
    have := mayBe_any next nm k mu dk dn dt W (col_small hm.2.2.1) (fit_small hm.2.2.2) (hw.below hb)
    rwa [hmay] at this
  have HC : Hid (∀ W, Below w.heap.size w W → Calls Tryz.prog 40 #[.slice (some ⟨g, o, none⟩) l.length cp] W fun e w' => ∃ g' c', e = .returned (.slice (some ⟨g', 0, none⟩) l.length c') ∧ w'.ownsRow W.heap.size 47 7 (.slice (some ⟨g', 0, none⟩) l.length c') l.length (cellsC l) ∧ Below W.heap.size W w') := fun W hb => clone_any g o cp l W (h.below hb) (by omega)
  have B1 : Hid (∀ X : Obj, Below w.heap.size w (w.alloc X)) := fun X => (Below.refl _ _).alloc (Nat.le_refl _) _
  clear h hf hmay hm hw
  cases mu with
  | false =>
    go_enter Tryz.func16, Tryz.ntmps16
    go_wp2_with (first
      | (go_at_call 27; refine (HF.out _ (B1.out _)).mono ?_; rintro e w1 ⟨rfl, hb1⟩; have hcl0 : ∀ o, w1.cell? ⟨w.heap.size, o, none⟩ = _ := fun o => hb1.cell (p := ⟨w.heap.size, o, none⟩) (by simp))
      | (go_at_call 46; refine (HM.out _ (Below.ups (B1.out _) hb1)).mono ?_; rintro e w2 ⟨rfl, hb2⟩; have hcl2 : ∀ o, w2.cell? ⟨w.heap.size, o, none⟩ = _ := fun o => hb2.cell (p := ⟨w.heap.size, o, none⟩) (Nat.lt_of_lt_of_le (by simp) hb1.size)))
    have hh2 : Hid (w2.heap[w.heap.size]? = some (.cells #[.int .i64 next, .string nm, .int .i64 k, .bool false, .int .i64 dk, .int .i64 dn, .string dt] 47)) := by
      have e1 := hb1.block w.heap.size (by simp)
      have e2 := hb2.block w.heap.size (Nat.lt_of_lt_of_le (by simp) hb1.size)
      exact e2.trans (e1.trans (heap_alloc_new _ _))
    have hB2 : Hid (Below w.heap.size w w2) := Below.ups (Below.ups (B1.out _) hb1) hb2
    have hlt : w.heap.size < w2.heap.size := Nat.lt_of_lt_of_le (Nat.lt_of_lt_of_le (by simp) hb1.size) hb2.size
    clear hcl0 hcl2 hb1 hb2
    have HX : Hid (∀ W, Below w2.heap.size w2 W → Calls Tryz.prog 40 #[.slice (some ⟨g, o, none⟩) l.length cp] W fun e w' => ∃ g' c', e = .returned (.slice (some ⟨g', 0, none⟩) l.length c') ∧ w'.ownsRow w.heap.size 47 7 (.slice (some ⟨g', 0, none⟩) l.length c') l.length (cellsC l) ∧ w2.heap.size ≤ g' ∧ Below W.heap.size W w' ∧ Below w2.heap.size w2 w') := fun W hb => (HC.out W (Below.ups hB2.out hb)).mono fun e w' ⟨g', c', he, ho, hb'⟩ => ⟨g', c', he, ownsRow_le ho (Nat.le_trans (Nat.le_of_lt hlt) hb.size), Nat.le_trans hb.size (ho.lt _ rfl).1, hb', Below.ups hb hb'⟩
    have HK : Hid (∀ W : World, Below w2.heap.size w2 W → S7 W w.heap.size (.int .i64 next) (.string nm) (.int .i64 k) (.bool false) (.int .i64 dk) (.int .i64 dn) (.string dt)) := fun W hb => s7 ((hb.block _ hlt).trans hh2.out)
    obtain ⟨i0, hi0, hz0, hz1, hz2⟩ := info_parts info54
    have HI := mkH (And.intro hi0 (And.intro hz0 (And.intro hz1 hz2)))
    clear hi0 hz0 hz1 hz2
    obtain ⟨q0, q1, q2, q3, q4, q5, q6⟩ := HK.out w2 (Below.refl _ _)
    go_region_held3 (fun w' => w'.cell? ⟨w.heap.size, 0, none⟩ = some (.int .i64 next) ∧ w'.cell? ⟨w.heap.size, 1, none⟩ = some (.string nm) ∧ w'.cell? ⟨w.heap.size, 2, none⟩ = some (.int .i64 k) ∧ w'.cell? ⟨w.heap.size, 3, none⟩ = some (.bool false) ∧ w'.cell? ⟨w.heap.size, 4, none⟩ = some (.int .i64 dk) ∧ w'.cell? ⟨w.heap.size, 5, none⟩ = some (.int .i64 dn) ∧ w'.cell? ⟨w.heap.size, 6, none⟩ = some (.string dt))
      (first
        | (go_keep; done)
        | exact HK.out _ hb3b
        | exact HK.out _ ((hb3b.alloc hb3b.size _).grown ho4.out.2 (by have := hb3b.size; simp; omega) (fun j hj => by cases hj; exact hg3))
        | exact HK.out _ (hb3b.grown ho4.out.2 hb3b.size (fun j hj => by cases hj; exact hg3))
        | fail)
      (first
        | (go_at_call 40; refine (HX.out _ ?_).mono ?_; (first | exact (Below.refl _ _).drew | exact (Below.refl _ _).drew.alloc (by simp) _ | exact ((Below.refl _ _).alloc (Nat.le_refl _) _).drew); rintro e w3 ⟨g3, c3, rfl, ho3, hg3, hb3, hb3b⟩)
        | (refine step_more (by rfl) (.tmp 37) (.tmp 39) (by rfl) w.heap.size l.length (.slice (some ⟨g3, 0, none⟩) l.length c3) (cellsC l) (ho3.alloc _) w3.heap.size [.int .i64 next, .string nm, .int .i64 k, .bool false, .int .i64 dk, .int .i64 dn, .string dt] (heap_alloc_new _ _) (by rfl) (by rfl) rfl (by simp [Value.oneCell']) (by omega) (by have := hb3b.size; simp; omega) ?_; intro g4 c4 w4 ho4)
        | (refine step_more (by rfl) (.tmp 37) (.tmp 39) (by rfl) w.heap.size l.length (.slice (some ⟨g3, 0, none⟩) l.length c3) (cellsC l) ho3 w2.heap.size [.int .i64 next, .string nm, .int .i64 k, .bool false, .int .i64 dk, .int .i64 dn, .string dt] ((hb3.block _ (by simp)).trans (heap_alloc_new _ _)) (by rfl) (by rfl) rfl (by simp [Value.oneCell']) (by omega) (by have := hb3b.size; simp; omega) ?_; intro g4 c4 w4 ho4)
        | fail)
    · go_wp2
      go_ret3
      refine ⟨g4, c4, by simp [HW.out], ?_, Below.ups hB2.out ((hb3b.alloc hb3b.size _).grown ho4.out.2 (by have := hb3b.size; simp; omega) (fun j hj => by cases hj; exact hg3))⟩
      rw [cellsC_append]
      exact ho4.out.1
    · go_wp2
      go_ret3
      refine ⟨g4, c4, by simp [HW.out], ?_, Below.ups hB2.out (hb3b.grown ho4.out.2 hb3b.size (fun j hj => by cases hj; exact hg3))⟩
      rw [cellsC_append]
      exact ho4.out.1
  | true =>
    have hdk : (dk == 0) = false := by simpa using hmu
    go_enter Tryz.func16, Tryz.ntmps16
    go_wp2_with (first
      | (go_at_call 27; refine (HF.out _ (B1.out _)).mono ?_; rintro e w1 ⟨rfl, hb1⟩; have hcl0 : ∀ o, w1.cell? ⟨w.heap.size, o, none⟩ = _ := fun o => hb1.cell (p := ⟨w.heap.size, o, none⟩) (by simp))
      | (go_at_call 46; refine (HM.out _ (Below.ups (B1.out _) hb1)).mono ?_; rintro e w2 ⟨rfl, hb2⟩; have hcl2 : ∀ o, w2.cell? ⟨w.heap.size, o, none⟩ = _ := fun o => hb2.cell (p := ⟨w.heap.size, o, none⟩) (Nat.lt_of_lt_of_le (by simp) hb1.size)))
    have hh2 : Hid (w2.heap[w.heap.size]? = some (.cells #[.int .i64 next, .string nm, .int .i64 k, .bool true, .int .i64 dk, .int .i64 dn, .string dt] 47)) := by
      have e1 := hb1.block w.heap.size (by simp)
      have e2 := hb2.block w.heap.size (Nat.lt_of_lt_of_le (by simp) hb1.size)
      exact e2.trans (e1.trans (heap_alloc_new _ _))
    have hB2 : Hid (Below w.heap.size w w2) := Below.ups (Below.ups (B1.out _) hb1) hb2
    have hlt : w.heap.size < w2.heap.size := Nat.lt_of_lt_of_le (Nat.lt_of_lt_of_le (by simp) hb1.size) hb2.size
    clear hcl0 hcl2 hb1 hb2
    have HX : Hid (∀ W, Below w2.heap.size w2 W → Calls Tryz.prog 40 #[.slice (some ⟨g, o, none⟩) l.length cp] W fun e w' => ∃ g' c', e = .returned (.slice (some ⟨g', 0, none⟩) l.length c') ∧ w'.ownsRow w.heap.size 47 7 (.slice (some ⟨g', 0, none⟩) l.length c') l.length (cellsC l) ∧ w2.heap.size ≤ g' ∧ Below W.heap.size W w' ∧ Below w2.heap.size w2 w') := fun W hb => (HC.out W (Below.ups hB2.out hb)).mono fun e w' ⟨g', c', he, ho, hb'⟩ => ⟨g', c', he, ownsRow_le ho (Nat.le_trans (Nat.le_of_lt hlt) hb.size), Nat.le_trans hb.size (ho.lt _ rfl).1, hb', Below.ups hb hb'⟩
    have HK : Hid (∀ W : World, Below w2.heap.size w2 W → S7 W w.heap.size (.int .i64 next) (.string nm) (.int .i64 k) (.bool true) (.int .i64 dk) (.int .i64 dn) (.string dt)) := fun W hb => s7 ((hb.block _ hlt).trans hh2.out)
    obtain ⟨i0, hi0, hz0, hz1, hz2⟩ := info_parts info54
    have HI := mkH (And.intro hi0 (And.intro hz0 (And.intro hz1 hz2)))
    clear hi0 hz0 hz1 hz2
    obtain ⟨q0, q1, q2, q3, q4, q5, q6⟩ := HK.out w2 (Below.refl _ _)
    go_region_held3 (fun w' => w'.cell? ⟨w.heap.size, 0, none⟩ = some (.int .i64 next) ∧ w'.cell? ⟨w.heap.size, 1, none⟩ = some (.string nm) ∧ w'.cell? ⟨w.heap.size, 2, none⟩ = some (.int .i64 k) ∧ w'.cell? ⟨w.heap.size, 3, none⟩ = some (.bool true) ∧ w'.cell? ⟨w.heap.size, 4, none⟩ = some (.int .i64 dk) ∧ w'.cell? ⟨w.heap.size, 5, none⟩ = some (.int .i64 dn) ∧ w'.cell? ⟨w.heap.size, 6, none⟩ = some (.string dt))
      (first
        | (go_keep; done)
        | exact HK.out _ hb3b
        | exact HK.out _ ((hb3b.alloc hb3b.size _).grown ho4.out.2 (by have := hb3b.size; simp; omega) (fun j hj => by cases hj; exact hg3))
        | exact HK.out _ (hb3b.grown ho4.out.2 hb3b.size (fun j hj => by cases hj; exact hg3))
        | fail)
      (first
        | (go_at_call 40; refine (HX.out _ ?_).mono ?_; (first | exact (Below.refl _ _).drew | exact (Below.refl _ _).drew.alloc (by simp) _ | exact ((Below.refl _ _).alloc (Nat.le_refl _) _).drew); rintro e w3 ⟨g3, c3, rfl, ho3, hg3, hb3, hb3b⟩)
        | (refine step_more (by rfl) (.tmp 37) (.tmp 39) (by rfl) w.heap.size l.length (.slice (some ⟨g3, 0, none⟩) l.length c3) (cellsC l) (ho3.alloc _) w3.heap.size [.int .i64 next, .string nm, .int .i64 k, .bool true, .int .i64 dk, .int .i64 dn, .string dt] (heap_alloc_new _ _) (by rfl) (by rfl) rfl (by simp [Value.oneCell']) (by omega) (by have := hb3b.size; simp; omega) ?_; intro g4 c4 w4 ho4)
        | (refine step_more (by rfl) (.tmp 37) (.tmp 39) (by rfl) w.heap.size l.length (.slice (some ⟨g3, 0, none⟩) l.length c3) (cellsC l) ho3 w2.heap.size [.int .i64 next, .string nm, .int .i64 k, .bool true, .int .i64 dk, .int .i64 dn, .string dt] ((hb3.block _ (by simp)).trans (heap_alloc_new _ _)) (by rfl) (by rfl) rfl (by simp [Value.oneCell']) (by omega) (by have := hb3b.size; simp; omega) ?_; intro g4 c4 w4 ho4)
        | fail)
    · go_wp2
      go_ret3
      refine ⟨g4, c4, by simp [HW.out], ?_, Below.ups hB2.out ((hb3b.alloc hb3b.size _).grown ho4.out.2 (by have := hb3b.size; simp; omega) (fun j hj => by cases hj; exact hg3))⟩
      rw [cellsC_append]
      exact ho4.out.1
    · go_wp2
      go_ret3
      refine ⟨g4, c4, by simp [HW.out], ?_, Below.ups hB2.out (hb3b.grown ho4.out.2 hb3b.size (fun j hj => by cases hj; exact hg3))⟩
      rw [cellsC_append]
      exact ho4.out.1

def okMore (l : List Col) (c : Col) : Prop := findC l c.2.1 = -1 ∧ l.length < 8 ∧ mayB c = true ∧ (c.2.2.2.1 && c.2.2.2.2.1 == 0) = false

set_option maxHeartbeats 4000000 in
set_option maxRecDepth 100000 in
theorem more_no (g o cp : Nat) (l : List Col) (next i : Int) (nm : ByteArray) (k : Int) (mu : Bool) (dk dn : Int) (dt : ByteArray) (w : World) (h : SlC w g o l) (h8 : l.length ≤ 8) (hnm : nm.size ≤ maxLen) (hdt : dt.size ≤ maxLen) (hno : ¬ okMore l (next, nm, k, mu, dk, dn, dt)) (hw : NcB w) :
    Calls Tryz.prog 16 #[.slice (some ⟨g, o, none⟩) l.length cp, .int .i64 next, .agg #[.int .i64 i, .string nm, .int .i64 k, .bool mu, .int .i64 dk, .int .i64 dn, .string dt]] w fun e w' => ∃ x, e = .returned (.tuple #[.slice none 0 0, .int .i64 0, .iface 80 (.int .i64 x)]) ∧ Below w.heap.size w w' := by
  have HF : Hid (∀ W, Below w.heap.size w W → Calls Tryz.prog 27 #[.slice (some ⟨g, o, none⟩) l.length cp, .string nm] W fun e w' => e = .returned (.int .i64 (findC l nm)) ∧ Below W.heap.size W w') := fun W hb => find_any g o cp l nm W (h.below hb) h8
  have HM : Hid (∀ W, Below w.heap.size w W → Calls Tryz.prog 46 #[.agg #[.int .i64 next, .string nm, .int .i64 k, .bool mu, .int .i64 dk, .int .i64 dn, .string dt]] W fun e w' => e = .returned (.bool (mayB (next, nm, k, mu, dk, dn, dt))) ∧ Below W.heap.size W w') := fun W hb => mayBe_any next nm k mu dk dn dt W hnm hdt (hw.below hb)
  have B1 : Hid (∀ X : Obj, Below w.heap.size w (w.alloc X)) := fun X => (Below.refl _ _).alloc (Nat.le_refl _) _
  clear h hw hnm hdt
  by_cases hf : 0 ≤ findC l nm
  · generalize findC l nm = f at HF hf
    clear HM hno
    go_enter Tryz.func16, Tryz.ntmps16
    go_wp2_with (first
      | (go_at_call 27; refine (HF.out _ (B1.out _)).mono ?_; rintro e w1 ⟨rfl, hb1⟩))
    go_ret3
    exact ⟨_, rfl, Below.ups (B1.out _) hb1⟩
  · have hf1 : findC l nm = -1 := by
      rcases find_cases l nm with ⟨e, _⟩ | ⟨j, _, e, _⟩
      · exact e
      · omega
    rw [hf1] at HF
    by_cases h7 : l.length < 8
    · have hl8 : ¬ (8 : Int) ≤ (l.length : Int) := by omega
      cases hm : mayB (next, nm, k, mu, dk, dn, dt) with
      | false =>
        rw [hm] at HM
        clear hno hf hf1 hm
        go_enter Tryz.func16, Tryz.ntmps16
        go_wp2_with (first
          | (go_at_call 27; refine (HF.out _ (B1.out _)).mono ?_; rintro e w1 ⟨rfl, hb1⟩; have hcl0 : ∀ o, w1.cell? ⟨w.heap.size, o, none⟩ = _ := fun o => hb1.cell (p := ⟨w.heap.size, o, none⟩) (by simp))
          | (go_at_call 46; refine (HM.out _ (Below.ups (B1.out _) hb1)).mono ?_; rintro e w2 ⟨rfl, hb2⟩; have hcl2 : ∀ o, w2.cell? ⟨w.heap.size, o, none⟩ = _ := fun o => hb2.cell (p := ⟨w.heap.size, o, none⟩) (Nat.lt_of_lt_of_le (by simp) hb1.size)))
        go_ret3
        exact ⟨_, rfl, Below.ups (Below.ups (B1.out _) hb1) hb2⟩
      | true =>
        rw [hm] at HM
        have hmu : (mu && dk == 0) = true := by
          cases hq : (mu && dk == 0) with
          | true => rfl
          | false => exact (hno ⟨hf1, h7, hm, hq⟩).elim
        have h1 : mu = true := by simp at hmu; exact hmu.1
        have h2 : dk = 0 := by simp at hmu; exact hmu.2
        subst h1 h2
        clear hno hf hf1 hm hmu
        go_enter Tryz.func16, Tryz.ntmps16
        go_wp2_with (first
          | (go_at_call 27; refine (HF.out _ (B1.out _)).mono ?_; rintro e w1 ⟨rfl, hb1⟩; have hcl0 : ∀ o, w1.cell? ⟨w.heap.size, o, none⟩ = _ := fun o => hb1.cell (p := ⟨w.heap.size, o, none⟩) (by simp))
          | (go_at_call 46; refine (HM.out _ (Below.ups (B1.out _) hb1)).mono ?_; rintro e w2 ⟨rfl, hb2⟩; have hcl2 : ∀ o, w2.cell? ⟨w.heap.size, o, none⟩ = _ := fun o => hb2.cell (p := ⟨w.heap.size, o, none⟩) (Nat.lt_of_lt_of_le (by simp) hb1.size)))
        go_ret3
        exact ⟨_, rfl, Below.ups (Below.ups (B1.out _) hb1) hb2⟩
    · have hl8 : (8 : Int) ≤ (l.length : Int) := by omega
      clear HM hno hf hf1
      go_enter Tryz.func16, Tryz.ntmps16
      go_wp2_with (first
        | (go_at_call 27; refine (HF.out _ (B1.out _)).mono ?_; rintro e w1 ⟨rfl, hb1⟩))
      go_ret3
      exact ⟨_, rfl, Below.ups (B1.out _) hb1⟩
end Go.Proofs.YtodemklghajdeaaGreatDoor.C

namespace Go.Proofs.YtodemklghajdeaaGreatDoor.C
open Go.RowKit Go.Proofs Go.Lib Go.Joins
open Go.Sort (grow)

theorem alloc_lt (w : World) (o : Obj) : w.heap.size < (w.alloc o).heap.size := by simp
theorem zeroCells_size (n : Nat) : (Builtin.zeroCells zeroC.cells n).size = n * 7 := by
  simp [Builtin.zeroCells, show zeroC.cells.size = 7 from rfl]

theorem grow_any (n : Nat) (w : World) (h1 : 1 ≤ n) (h8 : n ≤ 8) :
    Calls Tryz.prog 72 #[.slice none 0 0, .int .i64 n] w fun e w' => ∃ g' c', e = .returned (.slice (some ⟨g', 0, none⟩) 0 c') ∧ w'.ownsRow w.heap.size 47 7 (.slice (some ⟨g', 0, none⟩) 0 c') 0 (cellsC []) ∧ Below w.heap.size w w' := by
  obtain ⟨i0, hi0, hz0, hz1, hz2⟩ := info_parts info54
  refine (Any8.slices_Grow_grow Tryz.layGro i0 zeroC hi0 hz0 (by omega) none 0 0 n [] w (Nat.le_refl _) (by omega) (by rw [hz2]; omega) (by omega) (by simp) (fun _ => rfl) (fun a ha => by cases ha)).mono ?_
  rintro e w' ⟨rfl, rfl⟩
  have hge : 0 + n ≤ grownCap w (0 + n) 0 47 := grownCap_ge w _ _ _
  have hle : grownCap w (0 + n) 0 47 ≤ maxLen := grownCap_le_maxLen w (0 + n) 0 47 (by unfold maxLen; omega)
  refine ⟨_, _, rfl, ?_, ((Below.refl _ _).drew).alloc (Nat.le_refl _) _⟩
  change (w.drew.alloc (.cells (#[] ++ Builtin.zeroCells zeroC.cells (0 + n - 0) ++ Builtin.zeroCells zeroC.cells (grownCap w (0 + n) 0 47 - (0 + n))) 47)).ownsRow w.heap.size 47 7 (.slice (some ⟨w.heap.size, 0, none⟩) 0 (grownCap w (0 + n) 0 47)) 0 []
  generalize grownCap w (0 + n) 0 47 = G at hge hle
  exact World.ownsRow_made (w := w.drew) _ G (Nat.le_refl _) hle (by simp only [Array.size_append, zeroCells_size, Array.size_empty]; omega)

theorem wpList_append_C {ops : Array Oper} {rest : List Oper} {o : Oper} {a : Act} {Q : Exit → Act → World → Prop} {W : World} (hgd : o.guard = none) (s x : Operand)
    (ho : o.op = .call { callee := .builtin .append, args := #[s, x], argTypes := #[22, 22] }) (base g c : Nat) (l : List Col) (hs : a.eval s = .slice (some ⟨g, 0, none⟩) l.length c) (hown : W.ownsRow base 47 7 (.slice (some ⟨g, 0, none⟩) l.length c) l.length (cellsC l))
    (g2 o2 c2 : Nat) (m : List Col) (hx : a.eval x = .slice (some ⟨g2, o2, none⟩) m.length c2) (hm : SlC W g2 o2 m) (hn : l.length + m.length ≤ 1000) (hbase : base ≤ W.heap.size)
    (h : ∀ g' cap w', Hid (w'.ownsRow base 47 7 (.slice (some ⟨g', 0, none⟩) (l.length + m.length) cap) (l.length + m.length) (cellsC (l ++ m)) ∧ W.grownBy w' (some g)) → wpList Tryz.prog ops Q rest (a.put o.dst (.slice (some ⟨g', 0, none⟩) (l.length + m.length) cap)) w') : wpList Tryz.prog ops Q (o :: rest) a W := by
  obtain ⟨i0, hi0, hz0, hz1, hz2⟩ := info_parts info54
  refine wpList_append_own W hgd s x 22 ho base 47 i0 zeroC 7 72 Tryz.underlying22 hi0 hz0 hz1 hz2 rfl (by omega) _ _ _ hs hown ⟨g2, o2, none⟩ m.length c2 (cellsC m) hx (cellsC_len m) (fun j u hj => by rw [Addr.add_lit]; exact hm.flat j u hj) (cellsC_one m) (by unfold maxLen; omega) (by omega) hbase ?_
  intro v' w' h2 h3 h4
  rcases ownsRow_forms h2 with ⟨e1, _⟩ | ⟨g', c', e1⟩
  · exact absurd (h4.1 e1).1 (by simp)
  · subst e1
    exact h g' c' w' ⟨by rw [cellsC_append]; exact h2, h3⟩

set_option maxHeartbeats 4000000 in
set_option maxRecDepth 100000 in
theorem concat_any (p g o c g2 o2 c2 : Nat) (a b : List Col) (w : World) (hp0 : w.cell? ⟨p, 0, none⟩ = some (.slice (some ⟨g, o, none⟩) a.length c)) (hp1 : w.cell? ⟨p, 1, none⟩ = some (.slice (some ⟨g2, o2, none⟩) b.length c2)) (hp : p < w.heap.size)
    (ha : SlC w g o a) (hb : SlC w g2 o2 b) (h1 : 1 ≤ a.length + b.length) (h8 : a.length + b.length ≤ 8) :
    Calls Tryz.prog 47 #[.slice (some ⟨p, 0, none⟩) 2 2] w fun e w' => ∃ g' c', e = .returned (.slice (some ⟨g', 0, none⟩) (a.length + b.length) c') ∧ w'.ownsRow w.heap.size 47 7 (.slice (some ⟨g', 0, none⟩) (a.length + b.length) c') (a.length + b.length) (cellsC (a ++ b)) ∧ Below w.heap.size w w' := by
  have HG : Hid (Calls Tryz.prog 72 #[.slice none 0 0, .int .i64 ((a.length : Int) + (b.length : Int))] w fun e w' => ∃ g' c', e = .returned (.slice (some ⟨g', 0, none⟩) 0 c') ∧ w'.ownsRow w.heap.size 47 7 (.slice (some ⟨g', 0, none⟩) 0 c') 0 (cellsC []) ∧ Below w.heap.size w w') := by
    have := grow_any (a.length + b.length) w h1 h8
    rwa [show ((a.length + b.length : Nat) : Int) = (a.length : Int) + (b.length : Int) by omega] at this
  have HA : Hid (SlC w g o a) := ha
  have HB : Hid (SlC w g2 o2 b) := hb
  have HP : Hid (∀ W, Below w.heap.size w W → W.cell? ⟨p, 0, none⟩ = some (.slice (some ⟨g, o, none⟩) a.length c) ∧ W.cell? ⟨p, 1, none⟩ = some (.slice (some ⟨g2, o2, none⟩) b.length c2)) := fun W hW => ⟨(hW.cell (p := ⟨p, 0, none⟩) hp).trans hp0, (hW.cell (p := ⟨p, 1, none⟩) hp).trans hp1⟩
  clear ha hb
  have n1 : ¬ (a.length : Int) < 0 := by omega
  have n2 : ¬ (a.length : Int) + (b.length : Int) < 0 := by omega
  have n3 : IntKind.i64.wrap ((a.length : Int) + (b.length : Int)) = (a.length : Int) + (b.length : Int) := by rw [IntKind.wrap_i64]; omega
  have n4 : IntKind.i64.wrap (a.length : Int) = (a.length : Int) := by rw [IntKind.wrap_i64]; omega
  go_enter Tryz.func47, Tryz.ntmps47
  go_wp2
  refine wp_loop_rounds 3 ?_
  rw [rounds_succ]
  go_wp2
  rw [rounds_succ]
  go_wp2
  rw [rounds_succ]
  go_wp2_with (first
    | (go_at_call 72; refine HG.out.mono ?_; rintro e w1 ⟨g3, c3, rfl, ho3, hb3⟩; obtain ⟨r0, r1⟩ := HP.out _ hb3))
  refine wp_loop_rounds 3 ?_
  rw [rounds_succ]
  go_wp2_with (at_builtin; refine wpList_append_C rfl _ _ rfl w.heap.size g3 c3 [] rfl ho3 g o c a rfl (HA.out.below hb3) (by simp; omega) hb3.size ?_; intro g4 c4 w4 ho4; have hb4 : Below w.heap.size w w4 := hb3.grown ho4.out.2 hb3.size (fun j hj => by cases hj; exact (ho3.lt _ rfl).1); obtain ⟨s0, s1⟩ := HP.out _ hb4; have HO4 : Hid (w4.ownsRow w.heap.size 47 7 (.slice (some ⟨g4, 0, none⟩) a.length c4) a.length (cellsC a)) := mkH (by have := ho4.out.1; simpa using this); clear ho4)
  rw [rounds_succ]
  go_wp2_with (at_builtin; refine wpList_append_C rfl _ _ rfl w.heap.size g4 c4 a rfl HO4.out g2 o2 c2 b rfl (HB.out.below hb4) (by omega) hb4.size ?_; intro g5 c5 w5 ho5; have hb5 : Below w.heap.size w w5 := hb4.grown ho5.out.2 hb4.size (fun j hj => by cases hj; exact (HO4.out.lt _ rfl).1))
  rw [rounds_succ]
  go_wp2
  go_ret
  exact ⟨g5, c5, rfl, ho5.out.1, hb5⟩

set_option maxHeartbeats 4000000 in
set_option maxRecDepth 100000 in
theorem less_yes (g o cp : Nat) (l : List Col) (nm : ByteArray) (k : Nat) (w : World) (h : SlC w g o l) (hf : findC l nm = k) (hk : k < l.length) (h1 : l.length ≠ 1) (h8 : l.length ≤ 8) (hcap : l.length ≤ cp) :
    Calls Tryz.prog 17 #[.slice (some ⟨g, o, none⟩) l.length cp, .string nm] w fun e w' => ∃ g' c', e = .returned (.tuple #[.slice (some ⟨g', 0, none⟩) (l.take k ++ l.drop (k + 1)).length c', .nilIface]) ∧ w'.ownsRow w.heap.size 47 7 (.slice (some ⟨g', 0, none⟩) (l.take k ++ l.drop (k + 1)).length c') (l.take k ++ l.drop (k + 1)).length (cellsC (l.take k ++ l.drop (k + 1))) ∧ Below w.heap.size w w' := by
  have HF : Hid (∀ W, Below w.heap.size w W → Calls Tryz.prog 27 #[.slice (some ⟨g, o, none⟩) l.length cp, .string nm] W fun e w' => e = .returned (.int .i64 k) ∧ Below W.heap.size W w') := fun W hb => by
    have := find_any g o cp l nm W (h.below hb) h8
    rwa [hf] at this
  have la : (l.take k).length = k := by simp; omega
  have lb : (l.drop (k + 1)).length = l.length - (k + 1) := by simp
  obtain ⟨m, hm⟩ : ∃ m, m = k + 1 := ⟨_, rfl⟩
  rw [← hm] at lb ⊢
  have HC : Hid (∀ W p o2 c2 nb, Below w.heap.size w W → p < W.heap.size → nb = (l.drop m).length → W.heap[p]? = some (.cells #[.slice (some ⟨g, o, none⟩) k cp, .slice (some ⟨g, o2, none⟩) nb c2] 22) → SlC W g o2 (l.drop m) → Calls Tryz.prog 47 #[.slice (some ⟨p, 0, none⟩) 2 2] W fun e w' => ∃ g' c', e = .returned (.slice (some ⟨g', 0, none⟩) (l.take k ++ l.drop m).length c') ∧ w'.ownsRow W.heap.size 47 7 (.slice (some ⟨g', 0, none⟩) (l.take k ++ l.drop m).length c') (l.take k ++ l.drop m).length (cellsC (l.take k ++ l.drop m)) ∧ Below W.heap.size W w') := fun W p o2 c2 nb hb hp hnb hh hs => by
    rw [List.length_append]
    exact concat_any p g o cp g o2 c2 (l.take k) (l.drop m) W (by rw [la]; simp [World.cell?, hh]) (by rw [← hnb]; simp [World.cell?, hh]) hp ((h.below hb).take k) hs (by omega) (by omega)
  have HS : Hid (SlC w g o l) := h
  have ex : ∃ x, l[0]! = x := ⟨_, rfl⟩
  obtain ⟨⟨x1, x2, x3, x4, x5, x6, x7⟩, hx⟩ := ex
  have HQ : Hid (∀ W, Below w.heap.size w W → W.cell? ⟨g, o, none⟩ = some (.int .i64 x1)) := fun W hb => by have := ((h.below hb).cells (k := 0) (by omega) hx).1; simpa using this
  clear hx
  generalize hM : l.take k ++ l.drop m = M at *
  have hl1 : ((l.length : Int) == 1) = false := by
    have : ¬ (l.length : Int) = 1 := by omega
    simpa using this
  have hk0 : (0 : Int) ≤ (k : Int) := by omega
  have hk1 : IntKind.i64.wrap ((k : Int) + 1) = (m : Int) := by rw [IntKind.wrap_i64]; omega
  have hkc : (k : Int) ≤ (cp : Int) := by omega
  have hm0 : (0 : Int) ≤ (m : Int) := by omega
  have hml : (m : Int) ≤ (l.length : Int) := by omega
  have hmc : (m : Int) ≤ (cp : Int) := by omega
  have hlc : (l.length : Int) ≤ (cp : Int) := by omega
  have HL : Hid (l.length - m = (l.drop m).length) := by rw [lb, hm]; exact rfl
  have HD : Hid (cp = m → l.drop m = []) := fun e => List.drop_eq_nil_of_le (by omega)
  clear h hf la lb hm
  by_cases hcc : cp = m
  · have HN : Hid (l.drop m = []) := HD.out hcc
    subst hcc
    clear HD
    go_enter Tryz.func17, Tryz.ntmps17
    go_wp2_with (first
      | (go_at_call 27; refine (HF.out _ (Below.refl _ _)).mono ?_; rintro e w1 ⟨rfl, hb1⟩))
    have q0 := HQ.out w1 hb1
    have hgw : g < w1.heap.size := Nat.lt_of_lt_of_le HS.out.1 hb1.size
    go_region_held3 (fun w' => w'.cell? ⟨g, o, none⟩ = some (.int .i64 x1)) (first | (go_keep; done) | exact HQ.out _ (Below.ups (hb1.alloc hb1.size _).drew hb3))
      (first
        | (go_at_call 47; refine (HC.out _ w1.heap.size o 0 0 ?_ ?_ ?_ ?_ ?_).mono ?_; exact (hb1.alloc hb1.size _).drew; exact alloc_lt w1 _; (rw [HN.out]; rfl); exact heap_alloc_new w1 _; (rw [HN.out]; exact ⟨Nat.lt_of_lt_of_le HS.out.1 (hb1.alloc hb1.size _).size, fun j hj => by simp at hj⟩); rintro e w3 ⟨g3, c3, rfl, ho3, hb3⟩)
        | fail)
    go_wp2
    go_ret2
    exact ⟨g3, c3, rfl, ownsRow_le ho3 (hb1.alloc hb1.size _).size, Below.ups (hb1.alloc hb1.size _).drew hb3⟩
  · clear HD
    have hcc' : ¬ (cp : Int) = (m : Int) := by omega
    go_enter Tryz.func17, Tryz.ntmps17
    go_wp2_with (first
      | (go_at_call 27; refine (HF.out _ (Below.refl _ _)).mono ?_; rintro e w1 ⟨rfl, hb1⟩))
    have q0 := HQ.out w1 hb1
    have hgw : g < w1.heap.size := Nat.lt_of_lt_of_le HS.out.1 hb1.size
    go_region_held3 (fun w' => w'.cell? ⟨g, o, none⟩ = some (.int .i64 x1)) (first | (go_keep; done) | exact HQ.out _ (Below.ups (hb1.alloc hb1.size _).drew hb3))
      (first
        | (go_at_call 47; refine (HC.out _ w1.heap.size (o + m * 7) (cp - m) (l.length - m) ?_ ?_ ?_ ?_ ?_).mono ?_; exact (hb1.alloc hb1.size _).drew; exact alloc_lt w1 _; exact HL.out; exact heap_alloc_new w1 _; (have := (HS.out.below (hb1.alloc hb1.size (.cells #[.slice (some ⟨g, o, none⟩) k cp, .slice (some ⟨g, o + m * 7, none⟩) (l.length - m) (cp - m)] 22)).drew).drop m; exact this); rintro e w3 ⟨g3, c3, rfl, ho3, hb3⟩)
        | fail)
    go_wp2
    go_ret2
    exact ⟨g3, c3, rfl, ownsRow_le ho3 (hb1.alloc hb1.size _).size, Below.ups (hb1.alloc hb1.size _).drew hb3⟩

set_option maxHeartbeats 4000000 in
theorem less_no (g o cp : Nat) (l : List Col) (nm : ByteArray) (w : World) (h : SlC w g o l) (hno : findC l nm = -1 ∨ l.length = 1) (h8 : l.length ≤ 8) :
    Calls Tryz.prog 17 #[.slice (some ⟨g, o, none⟩) l.length cp, .string nm] w fun e w' => (∃ x, e = .returned (.tuple #[.slice none 0 0, .iface 80 (.int .i64 x)]) ∧ (0 ≤ findC l nm → x = 6)) ∧ Below w.heap.size w w' := by
  have HF : Hid (∀ W, Below w.heap.size w W → Calls Tryz.prog 27 #[.slice (some ⟨g, o, none⟩) l.length cp, .string nm] W fun e w' => e = .returned (.int .i64 (findC l nm)) ∧ Below W.heap.size W w') := fun W hb => find_any g o cp l nm W (h.below hb) h8
  clear h
  by_cases hf : findC l nm < 0
  · generalize findC l nm = f at *
    clear hno h8
    go_enter Tryz.func17, Tryz.ntmps17
    go_wp2_with (first
      | (go_at_call 27; refine (HF.out _ (Below.refl _ _)).mono ?_; rintro e w1 ⟨rfl, hb1⟩))
    go_ret2
    exact ⟨⟨_, rfl, fun h => by omega⟩, hb1⟩
  · have hl : l.length = 1 := by rcases hno with h | h <;> omega
    have hl1 : ((l.length : Int) == 1) = true := by rw [hl]; rfl
    generalize findC l nm = f at *
    generalize l.length = n at *
    clear hno h8 hl
    go_enter Tryz.func17, Tryz.ntmps17
    go_wp2_with (first
      | (go_at_call 27; refine (HF.out _ (Below.refl _ _)).mono ?_; rintro e w1 ⟨rfl, hb1⟩))
    go_ret2
    exact ⟨⟨_, rfl, fun _ => rfl⟩, hb1⟩
end Go.Proofs.YtodemklghajdeaaGreatDoor.C

namespace Go.Proofs.YtodemklghajdeaaGreatDoor.C
open Go.RowKit Go.Proofs Go.Lib Go.Joins
open Go.Sort (grow)

theorem cellsC_set (to : ByteArray) : ∀ (l : List Col) (k : Nat), k < l.length → (cellsC l).set (k * 7 + 1) (.string to) = cellsC (l.set k (renC l[k]! to))
  | [], k, h => absurd h (Nat.not_lt_zero _)
  | c :: l, 0, _ => rfl
  | c :: l, k + 1, h => by
    have ih := cellsC_set to l k (by simpa using h)
    have e : cellsC (c :: l) = encC c ++ cellsC l := rfl
    have e2 : (c :: l)[k + 1]! = l[k]! := by simp
    rw [e, e2, List.set_cons_succ, show cellsC (c :: l.set k (renC l[k]! to)) = encC c ++ cellsC (l.set k (renC l[k]! to)) from rfl, ← ih]
    rw [List.set_append_right _ _ (by rw [encC_len]; omega), encC_len, show (k + 1) * 7 + 1 - 7 = k * 7 + 1 by omega]

set_option maxHeartbeats 4000000 in
set_option maxRecDepth 100000 in
theorem rename_yes (g o cp : Nat) (l : List Col) (nm to : ByteArray) (k : Nat) (w : World) (h : SlC w g o l) (hf : findC l nm = k) (hk : k < l.length) (hto : colB to = true) (hft : findC l to = -1) (h8 : l.length ≤ 8) (hw : NcB w) :
    Calls Tryz.prog 18 #[.slice (some ⟨g, o, none⟩) l.length cp, .string nm, .string to] w fun e w' => ∃ g' c', e = .returned (.tuple #[.slice (some ⟨g', 0, none⟩) l.length c', .nilIface]) ∧ w'.ownsRow w.heap.size 47 7 (.slice (some ⟨g', 0, none⟩) l.length c') l.length (cellsC (l.set k (renC l[k]! to))) ∧ Below w.heap.size w w' := by
  have HF : Hid (∀ W, Below w.heap.size w W → Calls Tryz.prog 27 #[.slice (some ⟨g, o, none⟩) l.length cp, .string nm] W fun e w' => e = .returned (.int .i64 k) ∧ Below W.heap.size W w') := fun W hb => by
    have := find_any g o cp l nm W (h.below hb) h8
    rwa [hf] at this
  have HT : Hid (∀ W, Below w.heap.size w W → Calls Tryz.prog 27 #[.slice (some ⟨g, o, none⟩) l.length cp, .string to] W fun e w' => e = .returned (.int .i64 (-1)) ∧ Below W.heap.size W w') := fun W hb => by
    have := find_any g o cp l to W (h.below hb) h8
    rwa [hft] at this
  have HN : Hid (∀ W, Below w.heap.size w W → Calls Tryz.prog 48 #[.string to] W fun e w' => e = .returned (.bool true) ∧ Below W.heap.size W w') := fun W hb => by
    have := columnName_any to W (col_small hto) (hw.below hb)
    rwa [hto] at this
  have HC : Hid (∀ W, Below w.heap.size w W → Calls Tryz.prog 40 #[.slice (some ⟨g, o, none⟩) l.length cp] W fun e w' => ∃ g' c', e = .returned (.slice (some ⟨g', 0, none⟩) l.length c') ∧ w'.ownsRow w.heap.size 47 7 (.slice (some ⟨g', 0, none⟩) l.length c') l.length (cellsC l) ∧ (∃ u, w'.cell? ⟨g', k * 7 + 1, none⟩ = some u) ∧ w'.frozen? ⟨g', k * 7 + 1, none⟩ = false ∧ Below w.heap.size w w') := fun W hb => (clone_any g o cp l W (h.below hb) h8).mono fun e w' ⟨g', c', he, ho, hb'⟩ => ⟨g', c', he, ownsRow_le ho hb.size, by
      rw [ho.cellAt (k * 7 + 1) (by omega)]
      exact ⟨_, List.getElem?_eq_getElem (by rw [cellsC_len]; omega)⟩, ho.frozenAt _, Below.ups hb hb'⟩
  have HS := mkH (cellsC_set to l k hk)
  have hk0 : ¬ (k : Int) < 0 := by omega
  have hk1 : (k : Int) < (l.length : Int) := by omega
  have hk2 : (0 : Int) ≤ (k : Int) := by omega
  clear h hf hto hft hw
  go_enter Tryz.func18, Tryz.ntmps18
  go_wp2_with (first
    | (go_at_call_of 27 (#[.slice (some ⟨g, o, none⟩) l.length cp, .string nm] : Array Value); refine (HF.out _ (Below.refl _ _)).mono ?_; rintro e w1 ⟨rfl, hb1⟩)
    | (go_at_call 48; refine (HN.out _ hb1).mono ?_; rintro e w2 ⟨rfl, hb2⟩; have hb2' := Below.ups hb1 hb2)
    | (go_at_call 27; refine (HT.out _ hb2').mono ?_; rintro e w3 ⟨rfl, hb3⟩; have hb3' := Below.ups hb2' hb3)
    | (go_at_call 40; refine (HC.out _ hb3').mono ?_; rintro e w4 ⟨g4, c4, rfl, ho4, ⟨u4, hu4⟩, hf4, hb4⟩))
  go_ret2
  refine ⟨g4, c4, rfl, ?_, Below.setCell (p := ⟨g4, k * 7 + 1, none⟩) hb4 (ho4.lt g4 rfl).1 _⟩
  rw [← HS.out]
  exact (ho4.stored _ _).1

set_option maxHeartbeats 4000000 in
theorem rename_no (g o cp : Nat) (l : List Col) (nm to : ByteArray) (w : World) (h : SlC w g o l) (hno : findC l nm = -1 ∨ colB to = false ∨ 0 ≤ findC l to) (hsz : to.size ≤ maxLen) (h8 : l.length ≤ 8) (hw : NcB w) :
    Calls Tryz.prog 18 #[.slice (some ⟨g, o, none⟩) l.length cp, .string nm, .string to] w fun e w' => ∃ x, e = .returned (.tuple #[.slice none 0 0, .iface 80 (.int .i64 x)]) ∧ Below w.heap.size w w' := by
  have HF : Hid (∀ W, Below w.heap.size w W → Calls Tryz.prog 27 #[.slice (some ⟨g, o, none⟩) l.length cp, .string nm] W fun e w' => e = .returned (.int .i64 (findC l nm)) ∧ Below W.heap.size W w') := fun W hb => find_any g o cp l nm W (h.below hb) h8
  have HT : Hid (∀ W, Below w.heap.size w W → Calls Tryz.prog 27 #[.slice (some ⟨g, o, none⟩) l.length cp, .string to] W fun e w' => e = .returned (.int .i64 (findC l to)) ∧ Below W.heap.size W w') := fun W hb => find_any g o cp l to W (h.below hb) h8
  have HN : Hid (∀ W, Below w.heap.size w W → Calls Tryz.prog 48 #[.string to] W fun e w' => e = .returned (.bool (colB to)) ∧ Below W.heap.size W w') := fun W hb => columnName_any to W hsz (hw.below hb)
  clear h hw hsz h8
  by_cases hf : findC l nm < 0
  · generalize findC l nm = f at *
    clear hno HT HN
    go_enter Tryz.func18, Tryz.ntmps18
    go_wp2_with (first
      | (go_at_call 27; refine (HF.out _ (Below.refl _ _)).mono ?_; rintro e w1 ⟨rfl, hb1⟩))
    go_ret2
    exact ⟨_, rfl, hb1⟩
  · have hf0 : ¬ findC l nm = -1 := by omega
    cases hc : colB to with
    | false =>
      rw [hc] at HN
      generalize findC l nm = f at *
      clear hno HT hf0
      go_enter Tryz.func18, Tryz.ntmps18
      go_wp2_with (first
        | (go_at_call 27; refine (HF.out _ (Below.refl _ _)).mono ?_; rintro e w1 ⟨rfl, hb1⟩)
        | (go_at_call 48; refine (HN.out _ hb1).mono ?_; rintro e w2 ⟨rfl, hb2⟩; have hb2' := Below.ups hb1 hb2))
      go_ret2
      exact ⟨_, rfl, hb2'⟩
    | true =>
      rw [hc] at HN
      have ht : 0 ≤ findC l to := by
        rcases hno with h | h | h
        · exact (hf0 h).elim
        · rw [hc] at h; cases h
        · exact h
      clear hno hf0
      by_cases hnt : nm = to
      · subst hnt
        generalize findC l nm = f at *
        clear HF
        go_enter Tryz.func18, Tryz.ntmps18
        go_wp2_with fail
        refine (HT.out _ (Below.refl _ _)).mono ?_
        rintro e w1 ⟨rfl, hb1⟩
        go_wp2_with (first
          | (go_at_call 48; refine (HN.out _ hb1).mono ?_; rintro e w2 ⟨rfl, hb2⟩; have hb2' := Below.ups hb1 hb2)
          | (go_at_call 27; refine (HT.out _ hb2').mono ?_; rintro e w3 ⟨rfl, hb3⟩; have hb3' := Below.ups hb2' hb3))
        go_ret2
        exact ⟨_, rfl, hb3'⟩
      · generalize findC l nm = f at *
        generalize findC l to = f2 at *
        clear hnt
        go_enter Tryz.func18, Tryz.ntmps18
        go_wp2_with (first
          | (go_at_call_of 27 (#[.slice (some ⟨g, o, none⟩) l.length cp, .string nm] : Array Value); refine (HF.out _ (Below.refl _ _)).mono ?_; rintro e w1 ⟨rfl, hb1⟩)
          | (go_at_call 48; refine (HN.out _ hb1).mono ?_; rintro e w2 ⟨rfl, hb2⟩; have hb2' := Below.ups hb1 hb2)
          | (go_at_call 27; refine (HT.out _ hb2').mono ?_; rintro e w3 ⟨rfl, hb3⟩; have hb3' := Below.ups hb2' hb3))
        go_ret2
        exact ⟨_, rfl, hb3'⟩
end Go.Proofs.YtodemklghajdeaaGreatDoor.C
