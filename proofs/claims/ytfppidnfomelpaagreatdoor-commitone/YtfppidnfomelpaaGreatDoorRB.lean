/- What log.readValue does, said of every call. -/
import Derived.Test.YtfppidnfomelpaaGreatDoorRA
namespace Go.Proofs.YtfppidnfomelpaaGreatDoor
open Go.RowKit Go.Proofs Go.Lib Go.Joins

theorem toList_bA (l : List UInt8) : (bA l).toList = l := by rw [ByteArray.toList_eq]; simp [bA]
def ValPost (l : List UInt8) (w : World) (e : Ending) (w' : World) : Prop := ∃ (k n : Int) (t b : ByteArray) (ok : Bool), e = .returned (.tuple #[.agg #[.int .i64 k, .int .i64 n, .string t], .string b, .bool ok]) ∧ Below w.heap.size w w' ∧ ((ok = true ∧ ∃ r, readVal l = some ((k, n, t), r) ∧ b = bA r) ∨ (ok = false ∧ readVal l = none))
theorem cell3 {W : World} {b : Nat} {x0 x1 x2 : Value} {t : TypeId} (h : W.heap[b]? = some (.cells #[x0, x1, x2] t (0, 0))) : W.cell? ⟨b, 0, none⟩ = some x0 ∧ W.cell? ⟨b, 1, none⟩ = some x1 ∧ W.cell? ⟨b, 2, none⟩ = some x2 := by
  obtain ⟨h0, h1, h2, _⟩ := cells3 h
  exact ⟨h0, h1, h2⟩
theorem bA_size {l : List UInt8} : (bA l).size = l.length := by simp [bA, ByteArray.size]
theorem cut_size1 (c : UInt8) (l : List UInt8) : (bA (cutL c l).1).size ≤ l.length := by rw [bA_size]; have := cutL_le c l; omega
theorem cut_size2 (c : UInt8) (l : List UInt8) : (bA (cutL c l).2.1).size ≤ l.length := by rw [bA_size]; have := cutL_le c l; omega
theorem size_list (s : ByteArray) : s.data.toList.length = s.size := by rw [Array.length_toList]; rfl

abbrev set3 (W : World) (b : Nat) (v0 v1 v2 : Value) : World := ((W.setCell ⟨b, 0, none⟩ v0).setCell ⟨b, 1, none⟩ v1).setCell ⟨b, 2, none⟩ v2
theorem put3 (W : World) (b : Nat) (c0 c1 c2 v0 v1 v2 : Value) (T : TypeId) (h : W.heap[b]? = some (.cells #[c0, c1, c2] T (0, 0))) :
    (set3 W b v0 v1 v2).heap[b]? = some (.cells #[v0, v1, v2] T (0, 0)) := heap_setC _ b 2 _ T v2 (heap_setC _ b 1 _ T v1 (heap_setC _ b 0 _ T v0 h))
theorem got3 (W : World) (b : Nat) (c0 c1 c2 v0 v1 v2 : Value) (T : TypeId) (h : W.heap[b]? = some (.cells #[c0, c1, c2] T (0, 0))) :
    (W.setCell ⟨b, 0, none⟩ v0).cell? ⟨b, 0, none⟩ = some v0 ∧ ((W.setCell ⟨b, 0, none⟩ v0).setCell ⟨b, 1, none⟩ v1).cell? ⟨b, 1, none⟩ = some v1 ∧ (((W.setCell ⟨b, 0, none⟩ v0).setCell ⟨b, 1, none⟩ v1).setCell ⟨b, 2, none⟩ v2).cell? ⟨b, 2, none⟩ = some v2 :=
  ⟨(cells3 (heap_setC _ b 0 _ T v0 h)).1, (cells3 (heap_setC _ b 1 _ T v1 (heap_setC _ b 0 _ T v0 h))).2.1, (cells3 (put3 W b c0 c1 c2 v0 v1 v2 T h)).2.2.1⟩
theorem below_set3 {n : Nat} {w W : World} (h : Below n w W) {b : Nat} (hb : n ≤ b) (v0 v1 v2 : Value) : Below n w (set3 W b v0 v1 v2) :=
  ((h.setCell (p := ⟨b, 0, none⟩) hb _).setCell (p := ⟨b, 1, none⟩) hb _).setCell (p := ⟨b, 2, none⟩) hb _

set_option maxHeartbeats 2000000 in
set_option maxRecDepth 100000 in
theorem readValue_any (s : ByteArray) (w : World) (hs : s.size ≤ 1000000) (he : ErrB w) : Calls Tryz.prog 146 #[.string s] w (ValPost s.data.toList w) := by
  have HP := mkH (fun W => Tryz.strings_CutPrefix s ⟨#[39]⟩ W)
  cases hp : Lib.hasPrefix s.data.toList [39] with
  | true =>
    have et : Lib.trimPrefix s.data.toList [39] = s.data.toList.drop 1 := by unfold Lib.trimPrefix; rw [hp]; rfl
    have HRV : Hid (readVal s.data.toList = if (cutL 39 (s.data.toList.drop 1)).2.2 = true then some ((2, 0, bA (cutL 39 (s.data.toList.drop 1)).1), Lib.trimPrefix (cutL 39 (s.data.toList.drop 1)).2.1 [59]) else none) := mkH (by unfold readVal; rw [if_pos hp])
    have HP' : Hid (∀ W, Calls Tryz.prog 170 #[.string s, .string ⟨#[39]⟩] W fun e w' => e = .returned (.tuple #[.string (bA (s.data.toList.drop 1)), .bool true]) ∧ w' = W) := mkH (fun W => by
      have := HP.out W
      rw [show (⟨#[39]⟩ : ByteArray).data.toList = [39] from rfl, hp, et] at this
      exact this)
    have HC := mkH (fun W => cut_any (bA (s.data.toList.drop 1)) 39 W (by rw [bA_size, List.length_drop, size_list]; unfold maxLen; omega))
    rw [bA_toList] at HC
    have HT := mkH (fun (x : ByteArray) W => Tryz.strings_TrimPrefix x ⟨#[59]⟩ W)
    have HTB := mkH (fun (l : List UInt8) => show (⟨(Lib.trimPrefix (bA l).data.toList (⟨#[59]⟩ : ByteArray).data.toList).toArray⟩ : ByteArray) = bA (Lib.trimPrefix l [59]) by rw [bA_toList]; rfl)
    generalize bA (s.data.toList.drop 1) = rs at *
    clear HP et hp
    generalize cutL 39 (s.data.toList.drop 1) = cc at *
    obtain ⟨c1, c2, c3⟩ := cc
    simp only at HC HRV
    generalize hx1 : bA c1 = x1 at *
    generalize hx2 : bA c2 = x2 at *
    have HX2 := mkH hx2
    clear hx1 hx2
    go_enter Tryz.func146, Tryz.ntmps146
    go_wp2_with (first
      | (go_at_call 170; refine (HP'.out _).mono ?_; rintro e w1 ⟨rfl, rfl⟩)
      | (go_at_call 43; refine (HC.out _).mono ?_; rintro e w2 ⟨rfl, hb2⟩; have HB2 := mkH hb2; have HX := mkH ((hb2.block w.heap.size (by simp)).trans (heap_alloc_new w _)); obtain ⟨z0, z1, z2, zf⟩ := cells3 HX.out; have zf0 := zf 0; have zf1 := zf 1; have zf2 := zf 2; clear hb2 zf)
      | (go_at_call 171; refine (HT.out _ _).mono ?_; rintro e w3 ⟨rfl, h3⟩; obtain rfl := h3.symm))
    obtain ⟨y0, y1, y2⟩ := cell3 (put3 w2 w.heap.size _ _ _ (.int .i64 2) (.int .i64 0) (.string x1) _ HX.out)
    refine bodyPost_ret (v := .tuple #[.agg #[.int .i64 2, .int .i64 0, .string x1], .string ⟨(Lib.trimPrefix x2.data.toList [59]).toArray⟩, .bool c3]) (by simp [results, Tryz.results146, go_sem, y0, y1, y2]) rfl ⟨2, 0, x1, _, c3, rfl, below_set3 (b1c HB2.out) (Nat.le_refl _) _ _ _, ?_⟩
    rw [HRV.out]
    cases c3 with
    | true =>
      refine .inl ⟨rfl, _, rfl, ?_⟩
      rw [← HX2.out]
      exact HTB.out c2
    | false => exact .inr ⟨rfl, rfl⟩
  | false =>
    have HP' : Hid (∀ W, Calls Tryz.prog 170 #[.string s, .string ⟨#[39]⟩] W fun e w' => e = .returned (.tuple #[.string s, .bool false]) ∧ w' = W) := mkH (fun W => by
      have := HP.out W
      rw [show (⟨#[39]⟩ : ByteArray).data.toList = [39] from rfl, hp] at this
      have et : Lib.trimPrefix s.data.toList [39] = s.data.toList := by unfold Lib.trimPrefix; rw [hp]; rfl
      rw [et] at this
      exact this)
    have HRV : Hid (readVal s.data.toList = if (cutL 59 s.data.toList).1 = nullL then some ((0, 0, bA []), (cutL 59 s.data.toList).2.1) else (numOf (cutL 59 s.data.toList).1).map fun n => ((1, n, bA []), (cutL 59 s.data.toList).2.1)) := mkH (by unfold readVal; rw [if_neg (by rw [hp]; decide)])
    have HC := mkH (fun W => cut_any s 59 W (by unfold maxLen; omega))
    have hz1 := cut_size1 59 s.data.toList
    rw [size_list] at hz1
    have HE : Hid (∀ W, Below w.heap.size w W → Calls Tryz.prog 172 #[.string (bA (cutL 59 s.data.toList).1), .int .i64 10, .int .i64 64] W (NumPost (cutL 59 s.data.toList).1 W)) := mkH (fun W hW => by
      have := parse_any (bA (cutL 59 s.data.toList).1) W (by omega) (he.below hW)
      rw [bA_toList] at this
      exact this)
    have HTL := mkH (toList_bA (cutL 59 s.data.toList).1)
    clear HP hp he hz1
    generalize cutL 59 s.data.toList = cc at *
    obtain ⟨c1, c2, c3⟩ := cc
    simp only at HC HRV HE HTL
    generalize hx2 : bA c2 = x2 at *
    have HX2 := mkH hx2
    clear hx2
    by_cases hn : c1 = nullL
    · subst hn
      have ex : bA nullL = ⟨#[110, 117, 108, 108]⟩ := rfl
      rw [ex] at HC
      clear ex HE HTL
      go_enter Tryz.func146, Tryz.ntmps146
      go_wp2_with (first
        | (go_at_call 170; refine (HP'.out _).mono ?_; rintro e w1 ⟨rfl, rfl⟩)
        | (go_at_call 43; refine (HC.out _).mono ?_; rintro e w2 ⟨rfl, hb2⟩; have HB2 := mkH hb2; have HX := mkH ((hb2.block w.heap.size (by simp)).trans (heap_alloc_new w _)); obtain ⟨z0, z1, z2, zf⟩ := cells3 HX.out; have zf0 := zf 0; have zf1 := zf 1; have zf2 := zf 2; clear hb2 zf))
      obtain ⟨y0, y1, y2⟩ := cell3 (put3 w2 w.heap.size _ _ _ (.int .i64 0) (.int .i64 0) (.string ⟨#[]⟩) _ HX.out)
      refine bodyPost_ret (v := .tuple #[.agg #[.int .i64 0, .int .i64 0, .string ⟨#[]⟩], .string x2, .bool true]) (by simp [results, Tryz.results146, go_sem, y0, y1, y2]) rfl ⟨0, 0, _, _, true, rfl, below_set3 (b1c HB2.out) (Nat.le_refl _) _ _ _, ?_⟩
      rw [HRV.out]
      exact .inl ⟨rfl, c2, by simp [bA], HX2.out.symm⟩
    · have hne : ((bA c1).toList == [110, 117, 108, 108]) = false := by
        rw [HTL.out]
        exact beq_eq_false_iff_ne.2 hn
      have hne' : ¬ (bA c1).toList = [110, 117, 108, 108] := by rw [HTL.out]; exact hn
      have HN := mkH hn
      clear HTL hn
      generalize bA c1 = x1 at *
      go_enter Tryz.func146, Tryz.ntmps146
      go_wp2_with (first
        | (go_at_call 170; refine (HP'.out _).mono ?_; rintro e w1 ⟨rfl, rfl⟩)
        | (go_at_call 43; refine (HC.out _).mono ?_; rintro e w2 ⟨rfl, hb2⟩; have HB2 := mkH hb2; have HX2' := mkH ((hb2.block w.heap.size (by simp)).trans (heap_alloc_new w _)); clear hb2)
        | (go_at_call 172; refine (HE.out _ (b1c HB2.out)).mono ?_; rintro e w3 ⟨n, er, rfl, hb3, hcase⟩; have HB3 := mkH hb3; have HX := mkH ((hb3.block w.heap.size (blk_lt HX2'.out)).trans HX2'.out); obtain ⟨z0, z1, z2, zf⟩ := cells3 HX.out; have zf0 := zf 0; have zf1 := zf 1; have zf2 := zf 2; clear hb3 zf))
      have HBB : Hid (Below w.heap.size w w3) := mkH (Below.ups (b1c HB2.out) HB3.out)
      rcases hcase with ⟨h1, rfl⟩ | ⟨h1, ty, xx, rfl⟩
      · go_region
        go_wp2
        obtain ⟨y0, y1, y2⟩ := got3 w3 w.heap.size _ _ _ (.int .i64 1) (.int .i64 n) (.string ⟨#[]⟩) _ HX.out
        refine bodyPost_ret (v := .tuple #[.agg #[.int .i64 1, .int .i64 n, .string ⟨#[]⟩], .string x2, .bool true]) (by simp [results, Tryz.results146, go_sem, y0, y1, y2]) rfl ⟨1, n, _, _, true, rfl, (below_set3 HBB.out (Nat.le_refl _) _ _ _).drew, ?_⟩
        rw [HRV.out, if_neg HN.out, h1]
        exact .inl ⟨rfl, c2, rfl, HX2.out.symm⟩
      · go_region
        go_wp2
        obtain ⟨y0, y1, y2⟩ := got3 w3 w.heap.size _ _ _ (.int .i64 1) (.int .i64 n) (.string ⟨#[]⟩) _ HX.out
        refine bodyPost_ret (v := .tuple #[.agg #[.int .i64 1, .int .i64 n, .string ⟨#[]⟩], .string x2, .bool false]) (by simp [results, Tryz.results146, go_sem, y0, y1, y2]) rfl ⟨1, n, _, _, false, rfl, (below_set3 HBB.out (Nat.le_refl _) _ _ _).drew, ?_⟩
        rw [HRV.out, if_neg HN.out, h1]
        exact .inr ⟨rfl, rfl⟩
end Go.Proofs.YtfppidnfomelpaaGreatDoor
