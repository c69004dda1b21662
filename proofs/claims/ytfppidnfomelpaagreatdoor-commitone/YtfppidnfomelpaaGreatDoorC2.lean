/- What the statement's own fact, logged, comes to. -/
import Derived.Test.YtfppidnfomelpaaGreatDoorP8
import Derived.KernelRfl
namespace Go.Proofs.YtfppidnfomelpaaGreatDoor
open Go.RowKit Go.Proofs Go.Lib Go.Joins

def col0 : Col := (1, ⟨#[97]⟩, 1, false, 0, 0, ⟨#[]⟩)
def acts0 : List Actn := [(4, ⟨#[]⟩, 0, [], [col0], 2), (1, ⟨#[102]⟩, 3, [], [], 0), (3, ⟨#[102]⟩, 0, [1], [], 0)]
def com0 : Com := (⟨#[116]⟩, false, acts0)
def text0 : ByteArray := ⟨#[99, 111, 109, 109, 105, 116, 32, 116, 32, 98, 108, 105, 110, 100, 10, 115, 99, 104, 101, 109, 97, 32, 50, 32, 49, 32, 97, 32, 49, 32, 109, 97, 121, 32, 110, 117, 108, 108, 10, 97, 100, 100, 32, 102, 32, 51, 10, 109, 97, 115, 107, 32, 102, 32, 49, 10]⟩
theorem itoa1 : itoaB 1 = ⟨#[49]⟩ := by unfold itoaB; rw [Lib.itoa, if_neg (by decide), Lib.decDigits_one (by decide)]; rfl
theorem itoa2 : itoaB 2 = ⟨#[50]⟩ := by unfold itoaB; rw [Lib.itoa, if_neg (by decide), Lib.decDigits_one (by decide)]; rfl
theorem itoa3 : itoaB 3 = ⟨#[51]⟩ := by unfold itoaB; rw [Lib.itoa, if_neg (by decide), Lib.decDigits_one (by decide)]; rfl
theorem right0 : printOk com0 = true := by kernel_rfl
theorem text0_eq : printB com0 = text0 := by
  simp only [printB, printL, com0, acts0, linesL, List.flatMap_cons, List.flatMap_nil, lineB, col0, List.map_cons, List.map_nil, columnB, itoa1, itoa2, itoa3, printV]
  rfl
theorem print0 : printE com0 = .tuple #[.string text0, .nilIface] := by
  unfold printE
  rw [if_pos right0, text0_eq]
theorem ok0 : ∀ a ∈ acts0, rightA a = true → LineOk a := by
  have h0 : I64 0 := ⟨by decide, by decide⟩
  have h1 : I64 1 := ⟨by decide, by decide⟩
  have h2 : I64 2 := ⟨by decide, by decide⟩
  have h3 : I64 3 := ⟨by decide, by decide⟩
  intro a ha _
  simp only [acts0, List.mem_cons, List.not_mem_nil, or_false] at ha
  rcases ha with rfl | rfl | rfl
  · exact ⟨by decide, h0, by simp, by simp, by intro x hx; simp at hx; subst hx; exact ⟨h1, by decide, h1, h0, by decide⟩, by simp, h2⟩
  · exact ⟨by decide, h3, by simp, by simp, by simp, by simp, h0⟩
  · exact ⟨by decide, h0, by intro x hx; simp at hx; subst hx; exact h1, by simp, by simp, by simp, h0⟩
def snap0 : Snap := ⟨1, [col0], 2, [(⟨#[102]⟩, 3, [1])]⟩
theorem sort1 : sortR [1] = [1] := by simp [sortR]
theorem where0 (r : Int) (m : List Int) (p : ByteArray) : whereF [(p, r, m)] p = 0 := by simp [whereF, Lib.idxBy, Lib.idxByFrom]
theorem apply0 : AppliesL zeroS com0 snap0 := by
  have hw := where0 3 [] ⟨#[102]⟩
  refine ⟨by kernel_rfl, ⟨1, [col0], 2, []⟩, .inr (.inr (.inr ⟨rfl, ⟨(rightB_iff _ _).1 (by kernel_rfl), by decide⟩, rfl⟩)), ⟨1, [col0], 2, [(⟨#[102]⟩, 3, [])]⟩, .inl ⟨rfl, ⟨by kernel_rfl, by decide, by decide, by decide, by simp, by simp⟩, rfl⟩, snap0, .inr (.inr (.inl ⟨rfl, ⟨?_, ?_, ?_⟩, ?_⟩)), rfl⟩
  · show 0 ≤ whereF [((⟨#[102]⟩ : ByteArray), (3 : Int), ([] : List Int))] ⟨#[102]⟩
    rw [hw]; decide
  · show risingB [1] ([((⟨#[102]⟩ : ByteArray), (3 : Int), ([] : List Int))][(whereF [((⟨#[102]⟩ : ByteArray), (3 : Int), ([] : List Int))] ⟨#[102]⟩).toNat]!).2.1 = true
    rw [hw]; decide
  · show anyB [1] ([((⟨#[102]⟩ : ByteArray), (3 : Int), ([] : List Int))][(whereF [((⟨#[102]⟩ : ByteArray), (3 : Int), ([] : List Int))] ⟨#[102]⟩).toNat]!).2.2 = false
    rw [hw]; decide
  · show snap0 = ⟨1, [col0], 2, [((⟨#[102]⟩ : ByteArray), (3 : Int), ([] : List Int))].set (whereF [((⟨#[102]⟩ : ByteArray), (3 : Int), ([] : List Int))] ⟨#[102]⟩).toNat (maskE ([((⟨#[102]⟩ : ByteArray), (3 : Int), ([] : List Int))][(whereF [((⟨#[102]⟩ : ByteArray), (3 : Int), ([] : List Int))] ⟨#[102]⟩).toNat]!) [1])⟩
    rw [hw]
    simp [snap0, maskE, sort1]

theorem lies7 {W : World} {g : Nat} (h : W.heap[g]? = some (.cells #[.int .i64 1, .string ⟨#[97]⟩, .int .i64 1, .bool false, .int .i64 0, .int .i64 0, .string ⟨#[]⟩] 67 (0, 0))) : LiC W (.slice (some ⟨g, 0, none⟩) 1 1) [col0] := by
  refine .inr ⟨g, 0, 1, rfl, Nat.le_refl _, blk_lt h, fun j hj i v hv => ?_⟩
  have ej : j = 0 := by simp at hj; omega
  subst ej
  have : i = 0 ∨ i = 1 ∨ i = 2 ∨ i = 3 ∨ i = 4 ∨ i = 5 ∨ i = 6 ∨ 7 ≤ i := by omega
  rcases this with rfl | rfl | rfl | rfl | rfl | rfl | rfl | hi
  all_goals first
    | (cases hv; simp [World.cell?, h, col0])
    | (rw [List.getElem?_eq_none (by exact hi)] at hv; cases hv)

theorem acts0_at (w W : World) (h1 : W.heap[w.heap.size]? = some (.cells #[.int .i64 1, .string ⟨#[97]⟩, .int .i64 1, .bool false, .int .i64 0, .int .i64 0, .string ⟨#[]⟩] 67)) (h2 : W.heap[w.heap.size + 1]? = some (.cells #[.int .i64 1] 3)) (h3 : W.heap[w.heap.size + 1 + 1]? = some (.cells #[.int .i64 4, .string ⟨#[]⟩, .int .i64 0, .slice none 0 0, .slice (some ⟨w.heap.size, 0, none⟩) 1 1, .int .i64 2, .int .i64 1, .string ⟨#[102]⟩, .int .i64 3, .slice none 0 0, .slice none 0 0, .int .i64 0, .int .i64 3, .string ⟨#[102]⟩, .int .i64 0, .slice (some ⟨w.heap.size + 1, 0, none⟩) 1 1, .slice none 0 0, .int .i64 0] 62)) : ActsAt W (.slice (some ⟨w.heap.size + 1 + 1, 0, none⟩) 3 3) acts0 := by
  have hm : LiI W (.slice (some ⟨w.heap.size + 1, 0, none⟩) 1 1) [1] := .inr ⟨_, 0, 1, rfl, blk_lt h2, Nat.le_refl _, fun j hj => by
    have ej : j = 0 := by simp at hj; omega
    subst ej
    simp [World.cell?, h2]⟩
  refine .inr ⟨_, 0, 3, rfl, Nat.le_refl _, blk_lt h3, fun j hj => ?_⟩
  have hj3 : j = 0 ∨ j = 1 ∨ j = 2 := by have : j < 3 := hj; omega
  rcases hj3 with rfl | rfl | rfl
  · refine ⟨none, 0, 0, some ⟨w.heap.size, 0, none⟩, 1, 1, ⟨.inl ⟨⟨_, _, rfl⟩, rfl⟩, lies7 h1, by decide, by decide, ?_⟩, ?_⟩
    · intro x hx
      have hx' : x ∈ [col0] := hx
      simp at hx'
      subst hx'
      exact ⟨by decide, by decide⟩
    · refine ⟨?_, ?_, ?_, ?_, ?_, ?_⟩ <;> simp [World.cell?, h3, acts0]
  · refine ⟨none, 0, 0, none, 0, 0, ⟨.inl ⟨⟨_, _, rfl⟩, rfl⟩, .inl ⟨⟨_, _, rfl⟩, rfl⟩, by decide, by decide, by intro x hx; cases hx⟩, ?_⟩
    refine ⟨?_, ?_, ?_, ?_, ?_, ?_⟩ <;> simp [World.cell?, h3, acts0]
  · refine ⟨some ⟨w.heap.size + 1, 0, none⟩, 1, 1, none, 0, 0, ⟨hm, .inl ⟨⟨_, _, rfl⟩, rfl⟩, by decide, by decide, by intro x hx; cases hx⟩, ?_⟩
    refine ⟨?_, ?_, ?_, ?_, ?_, ?_⟩ <;> simp [World.cell?, h3, acts0]

set_option maxHeartbeats 4000000 in
set_option maxRecDepth 100000 in
theorem logged_any (w : World) (hw : NcB w) (ht : TabB w) : Calls Tryz.prog 6 #[] w fun e w' => e = .returned (.bool true) ∧ Below w.heap.size w w' := by
  obtain ⟨t0, t1, t2, t3, t4⟩ := three_alloc w (.cells #[.int .i64 1, .string ⟨#[97]⟩, .int .i64 1, .bool false, .int .i64 0, .int .i64 0, .string ⟨#[]⟩] 67) (.cells #[.int .i64 1] 3) (.cells #[.int .i64 4, .string ⟨#[]⟩, .int .i64 0, .slice none 0 0, .slice (some ⟨w.heap.size, 0, none⟩) 1 1, .int .i64 2, .int .i64 1, .string ⟨#[102]⟩, .int .i64 3, .slice none 0 0, .slice none 0 0, .int .i64 0, .int .i64 3, .string ⟨#[102]⟩, .int .i64 0, .slice (some ⟨w.heap.size + 1, 0, none⟩) 1 1, .slice none 0 0, .int .i64 0] 62)
  have hb4 := (Below.refl (((w.alloc (.cells #[.int .i64 1, .string ⟨#[97]⟩, .int .i64 1, .bool false, .int .i64 0, .int .i64 0, .string ⟨#[]⟩] 67)).alloc (.cells #[.int .i64 1] 3)).alloc (.cells #[.int .i64 4, .string ⟨#[]⟩, .int .i64 0, .slice none 0 0, .slice (some ⟨w.heap.size, 0, none⟩) 1 1, .int .i64 2, .int .i64 1, .string ⟨#[102]⟩, .int .i64 3, .slice none 0 0, .slice none 0 0, .int .i64 0, .int .i64 3, .string ⟨#[102]⟩, .int .i64 0, .slice (some ⟨w.heap.size + 1, 0, none⟩) 1 1, .slice none 0 0, .int .i64 0] 62)).heap.size (((w.alloc (.cells #[.int .i64 1, .string ⟨#[97]⟩, .int .i64 1, .bool false, .int .i64 0, .int .i64 0, .string ⟨#[]⟩] 67)).alloc (.cells #[.int .i64 1] 3)).alloc (.cells #[.int .i64 4, .string ⟨#[]⟩, .int .i64 0, .slice none 0 0, .slice (some ⟨w.heap.size, 0, none⟩) 1 1, .int .i64 2, .int .i64 1, .string ⟨#[102]⟩, .int .i64 3, .slice none 0 0, .slice none 0 0, .int .i64 0, .int .i64 3, .string ⟨#[102]⟩, .int .i64 0, .slice (some ⟨w.heap.size + 1, 0, none⟩) 1 1, .slice none 0 0, .int .i64 0] 62))).alloc (Nat.le_refl _) (.cells #[.string ⟨#[116]⟩, .bool false, .slice (some ⟨w.heap.size + 1 + 1, 0, none⟩) 3 3] 24)
  have HB : Hid (Below w.heap.size w ((((w.alloc (.cells #[.int .i64 1, .string ⟨#[97]⟩, .int .i64 1, .bool false, .int .i64 0, .int .i64 0, .string ⟨#[]⟩] 67)).alloc (.cells #[.int .i64 1] 3)).alloc (.cells #[.int .i64 4, .string ⟨#[]⟩, .int .i64 0, .slice none 0 0, .slice (some ⟨w.heap.size, 0, none⟩) 1 1, .int .i64 2, .int .i64 1, .string ⟨#[102]⟩, .int .i64 3, .slice none 0 0, .slice none 0 0, .int .i64 0, .int .i64 3, .string ⟨#[102]⟩, .int .i64 0, .slice (some ⟨w.heap.size + 1, 0, none⟩) 1 1, .slice none 0 0, .int .i64 0] 62)).alloc (.cells #[.string ⟨#[116]⟩, .bool false, .slice (some ⟨w.heap.size + 1 + 1, 0, none⟩) 3 3] 24))) := t4.trans (hb4.mono t4.size)
  have s1 := (hb4.block w.heap.size (by omega)).trans t1
  have s2 := (hb4.block (w.heap.size + 1) (by omega)).trans t2
  have s3 := (hb4.block (w.heap.size + 1 + 1) (by omega)).trans t3
  have s4 : ((((w.alloc (.cells #[.int .i64 1, .string ⟨#[97]⟩, .int .i64 1, .bool false, .int .i64 0, .int .i64 0, .string ⟨#[]⟩] 67)).alloc (.cells #[.int .i64 1] 3)).alloc (.cells #[.int .i64 4, .string ⟨#[]⟩, .int .i64 0, .slice none 0 0, .slice (some ⟨w.heap.size, 0, none⟩) 1 1, .int .i64 2, .int .i64 1, .string ⟨#[102]⟩, .int .i64 3, .slice none 0 0, .slice none 0 0, .int .i64 0, .int .i64 3, .string ⟨#[102]⟩, .int .i64 0, .slice (some ⟨w.heap.size + 1, 0, none⟩) 1 1, .slice none 0 0, .int .i64 0] 62)).alloc (.cells #[.string ⟨#[116]⟩, .bool false, .slice (some ⟨w.heap.size + 1 + 1, 0, none⟩) 3 3] 24)).heap[w.heap.size + 1 + 1 + 1]? = some (.cells #[.string ⟨#[116]⟩, .bool false, .slice (some ⟨w.heap.size + 1 + 1, 0, none⟩) 3 3] 24) := by
    have := heap_alloc_new (((w.alloc (.cells #[.int .i64 1, .string ⟨#[97]⟩, .int .i64 1, .bool false, .int .i64 0, .int .i64 0, .string ⟨#[]⟩] 67)).alloc (.cells #[.int .i64 1] 3)).alloc (.cells #[.int .i64 4, .string ⟨#[]⟩, .int .i64 0, .slice none 0 0, .slice (some ⟨w.heap.size, 0, none⟩) 1 1, .int .i64 2, .int .i64 1, .string ⟨#[102]⟩, .int .i64 3, .slice none 0 0, .slice none 0 0, .int .i64 0, .int .i64 3, .string ⟨#[102]⟩, .int .i64 0, .slice (some ⟨w.heap.size + 1, 0, none⟩) 1 1, .slice none 0 0, .int .i64 0] 62)) (.cells #[.string ⟨#[116]⟩, .bool false, .slice (some ⟨w.heap.size + 1 + 1, 0, none⟩) 3 3] 24)
    rwa [t0] at this
  have HAC := mkH (acts0_at w _ s1 s2 s3)
  have S4 := mkH s4
  have HW := mkH hw
  have HT := mkH ht
  clear hw ht t0 t1 t2 t3 t4 hb4 s1 s2 s3 s4
  go_enter Tryz.func6, Tryz.ntmps6
  go_wp2_with fail
  generalize ((((w.alloc (.cells #[.int .i64 1, .string ⟨#[97]⟩, .int .i64 1, .bool false, .int .i64 0, .int .i64 0, .string ⟨#[]⟩] 67)).alloc (.cells #[.int .i64 1] 3)).alloc (.cells #[.int .i64 4, .string ⟨#[]⟩, .int .i64 0, .slice none 0 0, .slice (some ⟨w.heap.size, 0, none⟩) 1 1, .int .i64 2, .int .i64 1, .string ⟨#[102]⟩, .int .i64 3, .slice none 0 0, .slice none 0 0, .int .i64 0, .int .i64 3, .string ⟨#[102]⟩, .int .i64 0, .slice (some ⟨w.heap.size + 1, 0, none⟩) 1 1, .slice none 0 0, .int .i64 0] 62)).alloc (.cells #[.string ⟨#[116]⟩, .bool false, .slice (some ⟨w.heap.size + 1 + 1, 0, none⟩) 3 3] 24)) = w4 at *
  have HPR := mkH (print_any ⟨#[116]⟩ false acts0 _ _ _ w4 HAC.out (by decide) (by decide) ok0 (HW.out.below HB.out) (HT.out.below HB.out))
  have HPE : Hid (printE (⟨#[116]⟩, false, acts0) = .tuple #[.string text0, .nilIface]) := print0
  rw [HPE.out] at HPR
  refine HPR.out.mono ?_
  rintro e w5 ⟨rfl, hb5⟩
  have HB5 := mkH (Below.ups HB.out hb5)
  have HAC5 := mkH (HAC.out.below hb5)
  obtain ⟨x0, x1, x2, _⟩ := cells3 ((hb5.block _ (blk_lt S4.out)).trans S4.out)
  have HX4 := mkH (blk_lt S4.out)
  have hs5 := hb5.size
  clear hb5 HPR HPE HAC S4
  have HAP := mkH (apply_any zeroS zeroSV ⟨#[116]⟩ false acts0 _ _ _ w5 ⟨none, 0, none, 0, [], rfl, snapV_zero w5⟩ good_zero (by decide) (by decide) HAC5.out (by decide) (by decide) (HW.out.below HB5.out))
  unfold text0
  go_wp2_with fail
  refine HAP.out.mono ?_
  rintro e w6 ⟨hb6, hcase⟩
  rcases hcase with ⟨t, v, hA, rfl, a1, c1, a2, c2, L, rfl, hV⟩ | ⟨_, _, _, hno⟩
  · have et : t = snap0 := runs_one hA.2 apply0.2
    subst et
    have HB6 := mkH (Below.ups HB5.out hb6)
    have hL : L.map (·.1) = [((⟨#[102]⟩ : ByteArray), (3 : Int), ([1] : List Int))] := hV.files.symm
    obtain ⟨x, rfl⟩ : ∃ x, L = [x] := by
      match L, hL with
      | [], h => simp at h
      | [x], _ => exact ⟨x, rfl⟩
      | x :: y :: r, h => simp at h
    obtain ⟨⟨⟨xp, xr, xm⟩, xa, xn, xc⟩, hx⟩ : ∃ y, x = y := ⟨_, rfl⟩
    subst hx
    simp only [List.map_cons, List.map_nil, List.cons.injEq, and_true, Prod.mk.injEq] at hL
    obtain ⟨rfl, rfl, rfl⟩ := hL
    have hmk := hV.masks _ (List.mem_cons_self ..)
    have hxn : xn = 1 := (LiI.of_own hmk).len.1
    subst hxn
    rcases own_forms hV.row with ⟨_, e0⟩ | ⟨g, c, eg, _, hgl, _, _⟩
    · simp at e0
    · injection eg with eg1 _ eg2
      subst eg1 eg2
      have hrow := hV.row
      have r1 := hrow.cellAt 1 (by simp)
      have r2 := hrow.cellAt 2 (by simp)
      have r1' : w6.cell? ⟨g, 1, none⟩ = some (.int .i64 3) := r1
      have r2' : w6.cell? ⟨g, 2, none⟩ = some (.slice xa 1 xc) := r2
      have q1 := Lib.cell?_alloc_some (.cells #[.int .i64 1, .slice a1 1 c1, .int .i64 2, .slice (some ⟨g, 0, none⟩) 1 c2] 47) r1'
      have q2 := Lib.cell?_alloc_some (.cells #[.int .i64 1, .slice a1 1 c1, .int .i64 2, .slice (some ⟨g, 0, none⟩) 1 c2] 47) r2'
      have hgne : g ≠ w6.heap.size := by omega
      clear r1 r2 r1' r2' hrow hmk hV hA hb6 HAP
      show _
      simp only [snap0, List.length_cons, List.length_nil]
      go_wp2
      go_ret
      exact ⟨rfl, HB6.out.alloc HB6.out.size _⟩
  · exact (hno _ apply0).elim
end Go.Proofs.YtfppidnfomelpaaGreatDoor
