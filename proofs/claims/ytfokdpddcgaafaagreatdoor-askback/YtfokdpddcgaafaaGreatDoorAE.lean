/- What ask.first does with a mark, or with what is no token. -/
import Derived.Test.YtfokdpddcgaafaaGreatDoorAD
namespace Go.Proofs.YtfokdpddcgaafaaGreatDoor
open Go.RowKit Go.Proofs Go.Lib Go.Proofs.YtfokdpddcgaafaaGreatDoor.Ask

def mksA : Array Value := #[.string ⟨#[60, 62]⟩, .int .i64 2, .string ⟨#[60, 61]⟩, .int .i64 4, .string ⟨#[62, 61]⟩, .int .i64 6, .string ⟨#[61]⟩, .int .i64 1, .string ⟨#[60]⟩, .int .i64 3, .string ⟨#[62]⟩, .int .i64 5, .string ⟨#[40]⟩, .int .i64 0, .string ⟨#[41]⟩, .int .i64 0, .string ⟨#[44]⟩, .int .i64 0, .string ⟨#[42]⟩, .int .i64 0]
/-- The marks, as the project's text lays them. -/
def MkB (w : World) : Prop := ∃ t fr, w.heap[0]? = some (.cells mksA t fr)
theorem MkB.below {w W : World} (h : MkB w) (hb : Below w.heap.size w W) : MkB W := by
  obtain ⟨t, fr, h⟩ := h
  exact ⟨t, fr, (hb.block _ (blk_lt h)).trans h⟩
def mks : List (List UInt8 × Nat) := [([60, 62], 2), ([60, 61], 4), ([62, 61], 6), ([61], 1), ([60], 3), ([62], 5), ([40], 0), ([41], 0), ([44], 0), ([42], 0)]
def mkT (i : Nat) : List UInt8 := (mks[i]!).1
def mkC (i : Nat) : Nat := (mks[i]!).2
theorem mix0 (w : World) : (Instr.index 87 (.agg mksA) (.int .i64 ((0 : Nat) : Int))).run Tryz.prog w = .ok (.agg #[.string (bA (mkT 0)), .int .i64 (mkC 0 : Int)]) w := by kernel_rfl
theorem mix1 (w : World) : (Instr.index 87 (.agg mksA) (.int .i64 ((1 : Nat) : Int))).run Tryz.prog w = .ok (.agg #[.string (bA (mkT 1)), .int .i64 (mkC 1 : Int)]) w := by kernel_rfl
theorem mix2 (w : World) : (Instr.index 87 (.agg mksA) (.int .i64 ((2 : Nat) : Int))).run Tryz.prog w = .ok (.agg #[.string (bA (mkT 2)), .int .i64 (mkC 2 : Int)]) w := by kernel_rfl
theorem mix3 (w : World) : (Instr.index 87 (.agg mksA) (.int .i64 ((3 : Nat) : Int))).run Tryz.prog w = .ok (.agg #[.string (bA (mkT 3)), .int .i64 (mkC 3 : Int)]) w := by kernel_rfl
theorem mix4 (w : World) : (Instr.index 87 (.agg mksA) (.int .i64 ((4 : Nat) : Int))).run Tryz.prog w = .ok (.agg #[.string (bA (mkT 4)), .int .i64 (mkC 4 : Int)]) w := by kernel_rfl
theorem mix5 (w : World) : (Instr.index 87 (.agg mksA) (.int .i64 ((5 : Nat) : Int))).run Tryz.prog w = .ok (.agg #[.string (bA (mkT 5)), .int .i64 (mkC 5 : Int)]) w := by kernel_rfl
theorem mix6 (w : World) : (Instr.index 87 (.agg mksA) (.int .i64 ((6 : Nat) : Int))).run Tryz.prog w = .ok (.agg #[.string (bA (mkT 6)), .int .i64 (mkC 6 : Int)]) w := by kernel_rfl
theorem mix7 (w : World) : (Instr.index 87 (.agg mksA) (.int .i64 ((7 : Nat) : Int))).run Tryz.prog w = .ok (.agg #[.string (bA (mkT 7)), .int .i64 (mkC 7 : Int)]) w := by kernel_rfl
theorem mix8 (w : World) : (Instr.index 87 (.agg mksA) (.int .i64 ((8 : Nat) : Int))).run Tryz.prog w = .ok (.agg #[.string (bA (mkT 8)), .int .i64 (mkC 8 : Int)]) w := by kernel_rfl
theorem mix9 (w : World) : (Instr.index 87 (.agg mksA) (.int .i64 ((9 : Nat) : Int))).run Tryz.prog w = .ok (.agg #[.string (bA (mkT 9)), .int .i64 (mkC 9 : Int)]) w := by kernel_rfl
theorem mix (i : Nat) (hi : i < 10) (w : World) : (Instr.index 87 (.agg mksA) (.int .i64 (i : Int))).run Tryz.prog w = .ok (.agg #[.string (bA (mkT i)), .int .i64 (mkC i : Int)]) w := by
  match i, hi with
  | 0, _ => exact mix0 w
  | 1, _ => exact mix1 w
  | 2, _ => exact mix2 w
  | 3, _ => exact mix3 w
  | 4, _ => exact mix4 w
  | 5, _ => exact mix5 w
  | 6, _ => exact mix6 w
  | 7, _ => exact mix7 w
  | 8, _ => exact mix8 w
  | 9, _ => exact mix9 w
theorem prefix_any (s : ByteArray) (m : List UInt8) (W : World) : Calls Tryz.prog 69 #[.string s, .string (bA m)] W fun e w' => e = .returned (.bool (hasPrefix s.data.toList m)) ∧ w' = W := by
  have := Tryz.strings_HasPrefix s (bA m) W
  rw [bA_toList] at this
  exact this
def MkPost (l : List UInt8) (w : World) (e : Ending) (w' : World) : Prop :=
  Below w.heap.size w w' ∧ ((∃ i, i < 10 ∧ (∀ j, j < i → hasPrefix l (mkT j) = false) ∧ hasPrefix l (mkT i) = true ∧ e = .returned (.tuple #[tokV 4 (bA (mkT i)) 0 (mkC i : Int), .int .i64 ((mkT i).length : Int)])) ∨ ((∀ j, j < 10 → hasPrefix l (mkT j) = false) ∧ e = .returned (.tuple #[tokV 0 ⟨#[]⟩ 0 0, .int .i64 0])))
theorem Box3.grow {w W : World} (h : Box3 w W) (o : Obj) : Box3 w (W.alloc o) := h.on ((Below.refl _ _).alloc (Nat.le_refl _) _)
set_option maxHeartbeats 8000000 in
theorem first_mark (s : ByteArray) (w : World) (hs : s.size ≤ 1000000) (hm : MkB w) (h : runL smR s.data.toList = 0) (hd : runL dgR (unB s).data.toList = 0) (hq : quB s.data.toList = false) :
    Calls Tryz.prog 50 #[.string s] w (MkPost s.data.toList w) := by
  have hs' : s.size ≤ maxLen := by unfold maxLen; omega
  have H1 := mkH (run_small s hs')
  have hu := unB_le s
  have H2 := mkH (run_digit (unB s) (Nat.le_trans hu hs'))
  have H4 := mkH (trim45 s)
  have H5 := mkH (fun W => quoted_any s W hs')
  have H6 := mkH (prefix_any s)
  have HM := mkH hm
  rw [h] at H1; rw [hd] at H2; rw [hq] at H5
  clear h hd hq hs' hm
  generalize unB s = u at *
  generalize bA (quR s.data.toList) = t at *
  generalize s.data.toList = l at *
  go_enter Tryz.func50, Tryz.ntmps50
  go_wp2_with fail
  refine (H1.out _).mono ?_
  rintro e w1 ⟨rfl, hb1⟩
  have hB1 : Hid (Box3 w w1) := (Box3.start w).on hb1
  clear hb1
  have e5 := cell_oFn hB1.out.h2
  go_wp2_with (first | (go_at_call 67; refine (H4.out _).mono ?_; rintro e w2 ⟨rfl, rfl⟩))
  refine (H2.out _).mono ?_
  rintro e w2 ⟨rfl, hb2⟩
  have hB2 : Hid (Box3 w w2) := hB1.out.on hb2
  clear hB1 hb2 e5
  go_wp2_with fail
  refine (H5.out _).mono ?_
  rintro e w3 ⟨rfl, hb3⟩
  have hB3 : Hid (Box3 w w3) := hB2.out.on hb3
  clear hB2 hb3
  obtain ⟨tt, fr, hG⟩ := HM.out.below hB3.out.low
  have HG := mkH hG
  clear hG
  have hi : (Tryz.prog.info? 87).map (·.size) = some mksA.size := by kernel_rfl
  have HI := mkH hi
  clear hi
  go_wp2_with (first | (refine wpList_load_row (P := Tryz.prog) rfl 87 (Operand.global 0) rfl 0 rfl _ _ _ _ HG.out Tryz.underlying87 rfl HI.out ?_))
  go_loopg [12, 56] 10 (fun gg _ s56 wr => ∃ kk : Nat, kk ≤ 10 ∧ 10 - kk ≤ gg ∧ s56 = .int .i64 kk ∧ Aside (Box3 w wr) ∧ Aside (∀ j, j < kk → hasPrefix l (mkT j) = false))
  case atStart => exact ⟨0, Nat.zero_le _, by omega, rfl, hB3.out, (show Aside _ from fun j hj => absurd hj (Nat.not_lt_zero _))⟩
  case round =>
    obtain ⟨kk, hkk, hgg, rfl, BX, NO⟩ := hrel
    by_cases hlt : kk < 10
    · have hltz : (kk : Int) < 10 := by omega
      have hix := mix kk hlt
      have hz : ((bA (mkT kk)).size : Int) = ((mkT kk).length : Int) := by rw [bA_size]
      cases hp : hasPrefix l (mkT kk) with
      | false =>
        have HP : Hid (∀ W, Calls Tryz.prog 69 #[.string s, .string (bA (mkT kk))] W fun e w' => e = .returned (.bool false) ∧ w' = W) := fun W => hp ▸ H6.out (mkT kk) W
        generalize hmt : bA (mkT kk) = mt at *
        go_wp2_with (first | (go_at_call 69; refine (HP.out _).mono ?_; rintro e w4 ⟨rfl, rfl⟩))
        go_roundg (10 - (kk + 1))
        case measure => omega
        case rel => exact ⟨kk + 1, by omega, by omega, by go_num, BX.out.grow _, (show Aside _ from fun j hj => by
          rcases Nat.lt_or_ge j kk with h' | h'
          · exact NO.out j h'
          · have : j = kk := by omega
            rw [this]; exact hp)⟩
      | true =>
        have HP : Hid (∀ W, Calls Tryz.prog 69 #[.string s, .string (bA (mkT kk))] W fun e w' => e = .returned (.bool true) ∧ w' = W) := fun W => hp ▸ H6.out (mkT kk) W
        generalize hmt : bA (mkT kk) = mt at *
        go_wp2_with (first | (go_at_call 69; refine (HP.out _).mono ?_; rintro e w4 ⟨rfl, rfl⟩))
        have k0 := cell_of_heap BX.out.h0 0
        have k1 := cell_of_heap BX.out.h0 1
        have k2 := cell_of_heap BX.out.h0 2
        have k3 := cell_of_heap BX.out.h0 3
        simp at k0 k1 k2 k3
        have f0 := BX.out.fro
        have hlt1 : w.heap.size < wr.heap.size := blk_lt BX.out.h0
        have hne1 : ¬ (w.heap.size = wr.heap.size) := by omega
        have hne2 : ¬ (wr.heap.size = w.heap.size) := by omega
        go_region
        go_wp2
        have hbl := (BX.out.low4 (.int .i64 4) (.string mt) (.int .i64 0) (.int .i64 (mkC kk : Int))).alloc (by simp; omega) (.cells #[.string mt, .int .i64 (mkC kk : Int)] 86)
        exact bodyPost_ret (v := .tuple #[tokV 4 mt 0 (mkC kk : Int), .int .i64 ((mkT kk).length : Int)]) (by simp [results, Tryz.results50, go_sem, k0, k1, k2, k3, tokV, hlt1]) rfl ⟨below_drewN' hbl 1, .inl ⟨kk, hlt, NO.out, hp, by rw [hmt]⟩⟩
    · have hltz : ¬ (kk : Int) < 10 := by omega
      have k0 := cell_of_heap BX.out.h0 0
      have k1 := cell_of_heap BX.out.h0 1
      have k2 := cell_of_heap BX.out.h0 2
      have k3 := cell_of_heap BX.out.h0 3
      simp at k0 k1 k2 k3
      have f0 := BX.out.fro
      have hk : kk = 10 := by omega
      subst hk
      go_wp2
      exact bodyPost_ret (v := .tuple #[tokV 0 ⟨#[]⟩ 0 0, .int .i64 0]) (by simp [results, Tryz.results50, go_sem, k0, k1, k2, k3, tokV]) rfl ⟨BX.out.low4 _ _ _ _, .inr ⟨NO.out, rfl⟩⟩
end Go.Proofs.YtfokdpddcgaafaaGreatDoor
