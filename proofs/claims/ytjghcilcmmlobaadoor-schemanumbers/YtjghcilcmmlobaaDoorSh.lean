/- What millpondkeep.shaped does: it answers true. -/
import Derived.Test.YtjghcilcmmlobaaDoorW9
import Derived.Test.YtjghcilcmmlobaaDoorT1
namespace Go.Proofs.YtjghcilcmmlobaaDoor
open Go.RowKit Go.Proofs Go.Lib Go.Joins
open Go.Sort (grow)

theorem own_cap {w : World} {base g n cap : Nat} {xs : List Value} (h : w.ownsRow base 54 7 (.slice (some ⟨g, 0, none⟩) n cap) n xs) : n ≤ cap := by
  rcases h.2 with ⟨h', _⟩ | ⟨g', cap', cur, h', hb, hg, hnc, _⟩
  · simp at h'
  · simp only [Value.slice.injEq, Option.some.injEq, Addr.mk.injEq, and_true, true_and] at h'
    obtain ⟨_, rfl⟩ := h'
    exact hnc

def cA : Col := (1, ⟨#[97]⟩, 1, false, 0, 0, ⟨#[]⟩)
def cB : Col := (2, ⟨#[98]⟩, 2, true, 2, 0, ⟨#[120]⟩)
def cF : Col := (1, ⟨#[102, 105, 114, 115, 116]⟩, 1, false, 0, 0, ⟨#[]⟩)
theorem mayA : mayB cA = true := by kernel_rfl
theorem mayBB : mayB cB = true := by kernel_rfl
theorem mayF : mayB cF = true := by kernel_rfl

theorem right_one {c : Col} (h : mayB c = true) (hid : c.1 = 1) : RightP colB fitB [c] 2 := by
  refine ⟨by simp, by simp, ?_, List.pairwise_singleton _ _⟩
  intro x hx
  rw [List.mem_singleton.1 hx]
  exact ⟨(mayB_iff _).1 h, by omega⟩
theorem sl_one (w : World) (c : Col) : SlC (w.alloc (.cells (encC c).toArray 54)) w.heap.size 0 [c] := by
  refine ⟨alloc_lt w _, fun j hj i v hi => ?_⟩
  have hj0 : j = 0 := by simp at hj; exact hj
  subst hj0
  rw [World.cell?_alloc_at _ _ _ _ rfl]
  simp at hi ⊢
  exact hi
theorem rightAB : RightP colB fitB [cA, cB] 3 := right_more (right_one mayA rfl) (by simp) ((mayB_iff _).1 mayBB) rfl (fun j hj => by
  have : j = 0 := by simp at hj; exact hj
  subst this
  intro e
  have := congrArg (fun b : ByteArray => b.data) e
  simp [cA, cB] at this)

set_option maxHeartbeats 4000000 in
set_option maxRecDepth 100000 in
theorem shaped_any (w : World) (hN : NcB w) (hE : EtB w) :
    Calls Tryd.prog 26 #[] w fun e w' => e = .returned (.bool true) ∧ Below w.heap.size w w' := by
  have B1 : Hid (∀ X : Obj, Below w.heap.size w (w.alloc X)) := fun X => (Below.refl _ _).alloc (Nat.le_refl _) _
  have HM : Hid (Calls Tryd.prog 28 #[.slice (some ⟨w.heap.size, 0, none⟩) 1 1, .int .i64 2, .agg #[.int .i64 0, .string ⟨#[98]⟩, .int .i64 2, .bool true, .int .i64 2, .int .i64 0, .string ⟨#[120]⟩]] (w.alloc (.cells #[.int .i64 1, .string ⟨#[97]⟩, .int .i64 1, .bool false, .int .i64 0, .int .i64 0, .string ⟨#[]⟩] 54)) fun e w' => ∃ g' c', e = .returned (.tuple #[.slice (some ⟨g', 0, none⟩) 2 c', .int .i64 3, .nilIface]) ∧ Hid (2 ≤ c' ∧ SlC w' g' 0 [cA, cB]) ∧ w'.cell? ⟨g', 7, none⟩ = some (.int .i64 2) ∧ Hid (Below (w.alloc (.cells #[.int .i64 1, .string ⟨#[97]⟩, .int .i64 1, .bool false, .int .i64 0, .int .i64 0, .string ⟨#[]⟩] 54)).heap.size (w.alloc (.cells #[.int .i64 1, .string ⟨#[97]⟩, .int .i64 1, .bool false, .int .i64 0, .int .i64 0, .string ⟨#[]⟩] 54)) w')) :=
    (more_yes w.heap.size 1 [cA] 2 0 ⟨#[98]⟩ 2 true 2 0 ⟨#[120]⟩ (w.alloc (.cells #[.int .i64 1, .string ⟨#[97]⟩, .int .i64 1, .bool false, .int .i64 0, .int .i64 0, .string ⟨#[]⟩] 54)) (sl_one w cA) (by simp) (by kernel_rfl) mayBB rfl (by omega) (by omega) (hN.below (B1.out _))).mono fun e w' ⟨g', c', he, ho, hb⟩ => by
      have hs : SlC w' g' 0 [cA, cB] := SlC.of_own ho rfl
      exact ⟨g', c', he, ⟨own_cap ho, hs⟩, by have := (hs.cells (k := 1) (by simp) rfl).1; simpa using this, hb⟩
  have HL : Hid (∀ W, Below (w.alloc (.cells #[.int .i64 1, .string ⟨#[97]⟩, .int .i64 1, .bool false, .int .i64 0, .int .i64 0, .string ⟨#[]⟩] 54)).heap.size (w.alloc (.cells #[.int .i64 1, .string ⟨#[97]⟩, .int .i64 1, .bool false, .int .i64 0, .int .i64 0, .string ⟨#[]⟩] 54)) W → Calls Tryd.prog 29 #[.slice (some ⟨w.heap.size, 0, none⟩) 1 1, .string ⟨#[97]⟩] W fun e w' => e = .returned (.tuple #[.slice none 0 0, .iface 87 (.int .i64 6)]) ∧ Below W.heap.size W w') := fun W hb =>
    (less_no w.heap.size 1 [cA] ⟨#[97]⟩ W ((sl_one w cA).below hb) (.inr rfl) (by simp)).mono fun e w' ⟨⟨x, he, hx⟩, hb'⟩ => ⟨by rw [he, hx (by rw [show findC [cA] ⟨#[97]⟩ = 0 by kernel_rfl]; omega)], hb'⟩
  have HT : Hid (∀ W, Below w.heap.size w W → Calls Tryd.prog 50 #[.iface 87 (.int .i64 6)] W fun e w' => e = .returned (.int .i64 6) ∧ Below W.heap.size W w') := fun W hb => tell_any 6 W (hE.below hb)
  have HR : Hid (∀ W g c, Below w.heap.size w W → 2 ≤ c ∧ SlC W g 0 [cA, cB] → Calls Tryd.prog 32 #[.slice (some ⟨g, 0, none⟩) 2 c, .int .i64 3] W fun e w' => e = .returned (.bool true) ∧ Below W.heap.size W w') := fun W g c hb h => right_any g c [cA, cB] 3 W h.2 rightAB h.1 (hN.below hb)
  have HF : Hid (∀ W g c, SlC W g 0 [cA, cB] → Calls Tryd.prog 33 #[.slice (some ⟨g, 0, none⟩) 2 c, .string ⟨#[98]⟩] W fun e w' => e = .returned (.int .i64 1) ∧ Below W.heap.size W w') := fun W g c h => by
    have := find_any g 0 c [cA, cB] ⟨#[98]⟩ W h (by simp)
    rwa [show findC [cA, cB] ⟨#[98]⟩ = 1 by kernel_rfl] at this
  clear hN hE
  go_enter Tryd.func26, Tryd.ntmps26
  go_wp2_with (first
    | (go_at_call 28; refine HM.out.mono ?_; rintro e w1 ⟨g1, c1, rfl, hs1, hc1, hb1⟩)
    | (go_at_call 29; refine (HL.out _ hb1.out).mono ?_; rintro e w2 ⟨rfl, hb2⟩; have hB2 : Below w.heap.size w w2 := Below.ups (Below.ups (B1.out _) hb1.out) hb2)
    | (go_at_call 50; refine (HT.out _ hB2).mono ?_; rintro e w3 ⟨rfl, hb3⟩; have hB3 : Below w.heap.size w w3 := Below.ups hB2 hb3)
    | (go_at_call 32; refine (HR.out _ _ _ hB3 ⟨hs1.out.1, (hs1.out.2.below hb2).below hb3⟩).mono ?_; rintro e w4 ⟨rfl, hb4⟩; have hB4 : Below w.heap.size w w4 := Below.ups hB3 hb4)
    | (go_at_call 33; refine (HF.out _ _ _ (((hs1.out.2.below hb2).below hb3).below hb4)).mono ?_; rintro e w5 ⟨rfl, hb5⟩; have hB5 : Below w.heap.size w w5 := Below.ups hB4 hb5))
  go_ret
  exact ⟨rfl, hB5⟩
end Go.Proofs.YtjghcilcmmlobaaDoor
