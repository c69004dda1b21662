/- What log.readAction does, said of every call, if readPlaces does what it should. -/
import Derived.Test.YtfppidnfomelpaaGreatDoorRG
namespace Go.Proofs.YtfppidnfomelpaaGreatDoor
open Go.RowKit Go.Proofs Go.Lib Go.Joins

theorem cells6 {W : World} {b : Nat} {x0 x1 x2 x3 x4 x5 : Value} {t : TypeId} (h : W.heap[b]? = some (.cells #[x0, x1, x2, x3, x4, x5] t (0, 0))) :
    W.cell? ⟨b, 0, none⟩ = some x0 ∧ W.cell? ⟨b, 1, none⟩ = some x1 ∧ W.cell? ⟨b, 2, none⟩ = some x2 ∧ W.cell? ⟨b, 3, none⟩ = some x3 ∧ W.cell? ⟨b, 4, none⟩ = some x4 ∧ W.cell? ⟨b, 5, none⟩ = some x5 ∧ ∀ i, W.frozen? ⟨b, i, none⟩ = false := by
  refine ⟨?_, ?_, ?_, ?_, ?_, ?_, fun i => ?_⟩
  all_goals first | (rw [World.frozen?, h]; simp) | (simp [World.cell?, h])
abbrev set6 (W : World) (b : Nat) (v0 v1 v2 v3 v4 v5 : Value) : World := (((((W.setCell ⟨b, 0, none⟩ v0).setCell ⟨b, 1, none⟩ v1).setCell ⟨b, 2, none⟩ v2).setCell ⟨b, 3, none⟩ v3).setCell ⟨b, 4, none⟩ v4).setCell ⟨b, 5, none⟩ v5
theorem got6 (W : World) (b : Nat) (x0 x1 x2 x3 x4 x5 v0 v1 v2 v3 v4 v5 : Value) (T : TypeId) (h : W.heap[b]? = some (.cells #[x0, x1, x2, x3, x4, x5] T (0, 0))) :
    (W.setCell ⟨b, 0, none⟩ v0).cell? ⟨b, 0, none⟩ = some v0 ∧ ((W.setCell ⟨b, 0, none⟩ v0).setCell ⟨b, 1, none⟩ v1).cell? ⟨b, 1, none⟩ = some v1 ∧ (((W.setCell ⟨b, 0, none⟩ v0).setCell ⟨b, 1, none⟩ v1).setCell ⟨b, 2, none⟩ v2).cell? ⟨b, 2, none⟩ = some v2 ∧ ((((W.setCell ⟨b, 0, none⟩ v0).setCell ⟨b, 1, none⟩ v1).setCell ⟨b, 2, none⟩ v2).setCell ⟨b, 3, none⟩ v3).cell? ⟨b, 3, none⟩ = some v3 ∧ (((((W.setCell ⟨b, 0, none⟩ v0).setCell ⟨b, 1, none⟩ v1).setCell ⟨b, 2, none⟩ v2).setCell ⟨b, 3, none⟩ v3).setCell ⟨b, 4, none⟩ v4).cell? ⟨b, 4, none⟩ = some v4 ∧ ((((((W.setCell ⟨b, 0, none⟩ v0).setCell ⟨b, 1, none⟩ v1).setCell ⟨b, 2, none⟩ v2).setCell ⟨b, 3, none⟩ v3).setCell ⟨b, 4, none⟩ v4).setCell ⟨b, 5, none⟩ v5).cell? ⟨b, 5, none⟩ = some v5 := by
  have h1 : (W.setCell ⟨b, 0, none⟩ v0).heap[b]? = some (.cells #[v0, x1, x2, x3, x4, x5] T (0, 0)) := by simpa using heap_setC W b 0 _ T v0 h
  have h2 : ((W.setCell ⟨b, 0, none⟩ v0).setCell ⟨b, 1, none⟩ v1).heap[b]? = some (.cells #[v0, v1, x2, x3, x4, x5] T (0, 0)) := by simpa using heap_setC (W.setCell ⟨b, 0, none⟩ v0) b 1 _ T v1 h1
  have h3 : (((W.setCell ⟨b, 0, none⟩ v0).setCell ⟨b, 1, none⟩ v1).setCell ⟨b, 2, none⟩ v2).heap[b]? = some (.cells #[v0, v1, v2, x3, x4, x5] T (0, 0)) := by simpa using heap_setC ((W.setCell ⟨b, 0, none⟩ v0).setCell ⟨b, 1, none⟩ v1) b 2 _ T v2 h2
  have h4 : ((((W.setCell ⟨b, 0, none⟩ v0).setCell ⟨b, 1, none⟩ v1).setCell ⟨b, 2, none⟩ v2).setCell ⟨b, 3, none⟩ v3).heap[b]? = some (.cells #[v0, v1, v2, v3, x4, x5] T (0, 0)) := by simpa using heap_setC (((W.setCell ⟨b, 0, none⟩ v0).setCell ⟨b, 1, none⟩ v1).setCell ⟨b, 2, none⟩ v2) b 3 _ T v3 h3
  have h5 : (((((W.setCell ⟨b, 0, none⟩ v0).setCell ⟨b, 1, none⟩ v1).setCell ⟨b, 2, none⟩ v2).setCell ⟨b, 3, none⟩ v3).setCell ⟨b, 4, none⟩ v4).heap[b]? = some (.cells #[v0, v1, v2, v3, v4, x5] T (0, 0)) := by simpa using heap_setC ((((W.setCell ⟨b, 0, none⟩ v0).setCell ⟨b, 1, none⟩ v1).setCell ⟨b, 2, none⟩ v2).setCell ⟨b, 3, none⟩ v3) b 4 _ T v4 h4
  have h6 : ((((((W.setCell ⟨b, 0, none⟩ v0).setCell ⟨b, 1, none⟩ v1).setCell ⟨b, 2, none⟩ v2).setCell ⟨b, 3, none⟩ v3).setCell ⟨b, 4, none⟩ v4).setCell ⟨b, 5, none⟩ v5).heap[b]? = some (.cells #[v0, v1, v2, v3, v4, v5] T (0, 0)) := by simpa using heap_setC (((((W.setCell ⟨b, 0, none⟩ v0).setCell ⟨b, 1, none⟩ v1).setCell ⟨b, 2, none⟩ v2).setCell ⟨b, 3, none⟩ v3).setCell ⟨b, 4, none⟩ v4) b 5 _ T v5 h5
  exact ⟨(cells6 h1).1, (cells6 h2).2.1, (cells6 h3).2.2.1, (cells6 h4).2.2.2.1, (cells6 h5).2.2.2.2.1, (cells6 h6).2.2.2.2.2.1⟩
theorem grown_set6 (W : World) (b : Nat) (v0 v1 v2 v3 v4 v5 : Value) : W.grownBy (set6 W b v0 v1 v2 v3 v4 v5) (some b) := (((((grown_setC W b 0 v0).trans (grown_setC _ b 1 v1)).trans (grown_setC _ b 2 v2)).trans (grown_setC _ b 3 v3)).trans (grown_setC _ b 4 v4)).trans (grown_setC _ b 5 v5)
theorem below_set6 {n : Nat} {w W : World} (h : Below n w W) {b : Nat} (hb : n ≤ b) (v0 v1 v2 v3 v4 v5 : Value) : Below n w (set6 W b v0 v1 v2 v3 v4 v5) :=
  (((((h.setCell (p := ⟨b, 0, none⟩) hb _).setCell (p := ⟨b, 1, none⟩) hb _).setCell (p := ⟨b, 2, none⟩) hb _).setCell (p := ⟨b, 3, none⟩) hb _).setCell (p := ⟨b, 4, none⟩) hb _).setCell (p := ⟨b, 5, none⟩) hb _

theorem act_own {w : World} {base b : Nat} {t u : TypeId} {z : Nat} {v : Value} {n : Nat} {xs : List Value} {cs : Array Value} (h : w.ownsRow base t z v n xs) (hb : w.heap[b]? = some (.cells cs u (0, 0))) (hne : t ≠ u) (v0 v1 v2 v3 v4 v5 : Value) : (set6 w b v0 v1 v2 v3 v4 v5).ownsRow base t z v n xs :=
  own_keep h (grown_set6 w b v0 v1 v2 v3 v4 v5) (fun k hk e => own_box h hb hne (by rw [hk]; exact e.symm))
theorem own_mono {w : World} {b1 b2 : Nat} {t : TypeId} {z : Nat} {v : Value} {n : Nat} {xs : List Value} (h : w.ownsRow b2 t z v n xs) (hb : b1 ≤ b2) : w.ownsRow b1 t z v n xs := by
  refine ⟨h.1, ?_⟩
  rcases h.2 with h | ⟨g, c, cur, hv, hb', hr⟩
  · exact .inl h
  · exact .inr ⟨g, c, cur, hv, Nat.le_trans hb hb', hr⟩
theorem own_drew {w : World} {b : Nat} {t : TypeId} {z : Nat} {v : Value} {n : Nat} {xs : List Value} (h : w.ownsRow b t z v n xs) : w.drew.ownsRow b t z v n xs := own_up h (Below.refl _ _).drew
def PlPost (l : List UInt8) (w : World) (e : Ending) (w' : World) : Prop := ∃ (a : Option Addr) (n c : Nat) (ok : Bool), e = .returned (.tuple #[.slice a n c, .bool ok]) ∧ Below w.heap.size w w' ∧ ((ok = true ∧ ∃ L : List Int, readPls l = some L ∧ n = L.length ∧ w'.ownsRow w.heap.size 3 1 (.slice a n c) L.length (L.map (.int .i64))) ∨ (ok = false ∧ readPls l = none))
def PlacesOk : Prop := ∀ (s : ByteArray) (w : World), s.size ≤ 1000000 → ErrB w → Calls Tryz.prog 80 #[.string s] w (PlPost s.data.toList w)
def ActPost (l : List UInt8) (w : World) (e : Ending) (w' : World) : Prop := ∃ (k : Int) (p : ByteArray) (r : Int) (ma : Option Addr) (mn mc : Nat) (ca : Option Addr) (cn cc : Nat) (nx : Int) (ok : Bool), e = .returned (.tuple #[.agg #[.int .i64 k, .string p, .int .i64 r, .slice ma mn mc, .slice ca cn cc, .int .i64 nx], .bool ok]) ∧ Below w.heap.size w w' ∧ ((ok = true ∧ ∃ (M : List Int) (C : List Col), readAct l = some (k, p, r, M, C, nx) ∧ w'.ownsRow w.heap.size 3 1 (.slice ma mn mc) M.length (M.map (.int .i64)) ∧ w'.ownsRow w.heap.size 67 7 (.slice ca cn cc) C.length (cellsC C)) ∨ (ok = false ∧ readAct l = none))

set_option maxHeartbeats 4000000 in
set_option maxRecDepth 100000 in
theorem readAction_any (hP : PlacesOk) (s : ByteArray) (w : World) (hs : s.size ≤ 1000000) (he : ErrB w) : Calls Tryz.prog 45 #[.string s] w (ActPost s.data.toList w) := by
  obtain ⟨l, hl⟩ : ∃ l, s.data.toList = l := ⟨_, rfl⟩
  have hll : l.length ≤ 1000000 := by rw [← hl, size_list]; exact hs
  rw [hl]
  have HC1 := mkH (fun W => cut_any s 32 W (by unfold maxLen; omega))
  rw [hl] at HC1
  have hz2 := cut_size2 32 l
  have hq1 := cut_size1 32 (rest1 l)
  have hq2 := cut_size2 32 (rest1 l)
  have hrl := rest1_le l
  have HC2 : Hid (∀ W, Calls Tryz.prog 43 #[.string (bA (rest1 l)), .string ⟨#[32]⟩] W fun e w' => e = .returned (.tuple #[.string (bA (cutL 32 (rest1 l)).1), .string (bA (cutL 32 (rest1 l)).2.1), .bool (cutL 32 (rest1 l)).2.2]) ∧ Below W.heap.size W w') := mkH (fun W => by
    have := cut_any (bA (rest1 l)) 32 W (by rw [bA_size]; unfold maxLen; omega)
    rw [bA_toList] at this
    exact this)
  have HAL : Hid (∀ W, Below w.heap.size w W → Calls Tryz.prog 79 #[.string (bA (cutL 32 (rest1 l)).2.1)] W (NumPost (cutL 32 (rest1 l)).2.1 W)) := mkH (fun W hW => by
    have := atoi_any (bA (cutL 32 (rest1 l)).2.1) W (by omega) (he.below hW)
    rw [bA_toList] at this
    exact this)
  have HAF : Hid (∀ W, Below w.heap.size w W → Calls Tryz.prog 79 #[.string (bA (cutL 32 (rest1 l)).1)] W (NumPost (cutL 32 (rest1 l)).1 W)) := mkH (fun W hW => by
    have := atoi_any (bA (cutL 32 (rest1 l)).1) W (by omega) (he.below hW)
    rw [bA_toList] at this
    exact this)
  have HPL : Hid (∀ W, Below w.heap.size w W → Calls Tryz.prog 80 #[.string (bA (cutL 32 (rest1 l)).2.1)] W (PlPost (cutL 32 (rest1 l)).2.1 W)) := mkH (fun W hW => by
    have := hP (bA (cutL 32 (rest1 l)).2.1) W (by omega) (he.below hW)
    rw [bA_toList] at this
    exact this)
  have HCL : Hid (∀ W, Below w.heap.size w W → Calls Tryz.prog 81 #[.string (bA (cutL 32 (rest1 l)).2.1)] W (ColsPost (cutL 32 (rest1 l)).2.1 W)) := mkH (fun W hW => by
    have := readColumns_any (bA (cutL 32 (rest1 l)).2.1) W (by omega) (he.below hW)
    rw [bA_toList] at this
    exact this)
  have HRA : Hid (readAct l = _) := mkH (by unfold readAct; exact rfl)
  change Hid (∀ W, Calls _ _ _ W fun e w' => e = .returned (.tuple #[.string (bA (cutL 32 l).1), .string (bA (rest1 l)), _]) ∧ _) at HC1
  have HTL := mkH (toList_bA (cutL 32 l).1)
  clear he hl hs hP hz2 hq1 hq2 hrl
  generalize (cutL 32 l).2.2 = z1 at *
  generalize (cutL 32 l).1 = wd at *
  generalize bA (rest1 l) = rs at *
  generalize cutL 32 (rest1 l) = cc at *
  obtain ⟨f1, f2, z2⟩ := cc
  simp only at HC2 HAL HAF HPL HCL HRA
  by_cases hadd : wd = addL
  · subst hadd
    have ex : bA addL = ⟨#[97, 100, 100]⟩ := rfl
    rw [ex] at HC1
    have HRB : Hid (readAct l = Option.map (fun n => (1, bA f1, n, [], [], 0)) (numOf f2)) := mkH (by rw [HRA.out, if_pos rfl])
    clear ex HTL HAF HPL HCL HRA
    generalize bA f1 = x1 at *
    go_enter Tryz.func45, Tryz.ntmps45
    go_wp2_with (first
      | (go_at_call_of 43 (#[.string s, .string ⟨#[32]⟩] : Array Value); refine (HC1.out _).mono ?_; rintro e w2 ⟨rfl, hb2⟩; have HB2 := mkH hb2; have HX2 := mkH ((hb2.block w.heap.size (by simp)).trans (heap_alloc_new w _)); clear hb2)
      | (go_at_call_of 43 (#[.string rs, .string ⟨#[32]⟩] : Array Value); refine (HC2.out _).mono ?_; rintro e w3 ⟨rfl, hb3⟩; have HB3 := mkH (Below.ups (b1c HB2.out) hb3); have HX3 := mkH ((hb3.block w.heap.size (blk_lt HX2.out)).trans HX2.out); clear hb3; obtain ⟨y0, y1, y2, y3, y4, y5, yf⟩ := cells6 HX3.out; have yf0 := yf 0; have yf1 := yf 1; have yf2 := yf 2; have yf3 := yf 3; have yf4 := yf 4; have yf5 := yf 5; clear yf)
      | (go_at_call 79; refine (HAL.out _ HB3.out).mono ?_; rintro e w4 ⟨n, er, rfl, hb4, hcase⟩; have HBF := mkH (Below.ups HB3.out hb4); have HXF := mkH ((hb4.block w.heap.size (blk_lt HX3.out)).trans HX3.out); have HCS := mkH hcase; clear hb4 hcase y0 y1 y2 y3 y4 y5 yf0 yf1 yf2 yf3 yf4 yf5; obtain ⟨y0, y1, y2, y3, y4, y5, yf⟩ := cells6 HXF.out; have yf0 := yf 0; have yf1 := yf 1; have yf2 := yf 2; have yf3 := yf 3; have yf4 := yf 4; have yf5 := yf 5; clear yf))
    rcases HCS.out with ⟨h1, rfl⟩ | ⟨h1, ty, xx, rfl⟩
    · have H1 := mkH h1
      clear HCS h1
      go_region
      go_wp2
      obtain ⟨g0, g1, g2, g3, g4, g5⟩ := got6 w4 w.heap.size _ _ _ _ _ _ (.int .i64 1) (.string x1) (.int .i64 n) (.slice none 0 0) (.slice none 0 0) (.int .i64 0) _ HXF.out
      refine bodyPost_ret (v := .tuple #[.agg #[.int .i64 1, .string x1, .int .i64 n, .slice none 0 0, .slice none 0 0, .int .i64 0], .bool true]) (by simp [results, Tryz.results45, go_sem, g0, g1, g2, g3, g4, g5]) rfl ⟨_, _, _, _, _, _, _, _, _, _, _, rfl, (below_set6 HBF.out (Nat.le_refl _) _ _ _ _ _ _).drew, ?_⟩
      exact .inl ⟨rfl, [], [], by rw [HRB.out, H1.out]; rfl, World.ownsRow_nil .., World.ownsRow_nil ..⟩
    · have H1 := mkH h1
      clear HCS h1
      go_region
      go_wp2
      obtain ⟨g0, g1, g2, g3, g4, g5⟩ := got6 w4 w.heap.size _ _ _ _ _ _ (.int .i64 1) (.string x1) (.int .i64 n) (.slice none 0 0) (.slice none 0 0) (.int .i64 0) _ HXF.out
      refine bodyPost_ret (v := .tuple #[.agg #[.int .i64 1, .string x1, .int .i64 n, .slice none 0 0, .slice none 0 0, .int .i64 0], .bool false]) (by simp [results, Tryz.results45, go_sem, g0, g1, g2, g3, g4, g5]) rfl ⟨_, _, _, _, _, _, _, _, _, _, _, rfl, (below_set6 HBF.out (Nat.le_refl _) _ _ _ _ _ _).drew, ?_⟩
      exact .inr ⟨rfl, by rw [HRB.out, H1.out]; rfl⟩
  by_cases hremove : wd = removeL
  · subst hremove
    have ex : bA removeL = ⟨#[114, 101, 109, 111, 118, 101]⟩ := rfl
    rw [ex] at HC1
    have HRB : Hid (readAct l = some (2, bA f1, 0, [], [], 0)) := mkH (by rw [HRA.out, if_neg (by decide), if_pos rfl])
    clear ex HTL HAF HPL HCL HRA HAL hadd
    generalize bA f1 = x1 at *
    go_enter Tryz.func45, Tryz.ntmps45
    go_wp2_with (first
      | (go_at_call_of 43 (#[.string s, .string ⟨#[32]⟩] : Array Value); refine (HC1.out _).mono ?_; rintro e w2 ⟨rfl, hb2⟩; have HB2 := mkH hb2; have HX2 := mkH ((hb2.block w.heap.size (by simp)).trans (heap_alloc_new w _)); clear hb2)
      | (go_at_call_of 43 (#[.string rs, .string ⟨#[32]⟩] : Array Value); refine (HC2.out _).mono ?_; rintro e w3 ⟨rfl, hb3⟩; have HB3 := mkH (Below.ups (b1c HB2.out) hb3); have HX3 := mkH ((hb3.block w.heap.size (blk_lt HX2.out)).trans HX2.out); clear hb3; obtain ⟨y0, y1, y2, y3, y4, y5, yf⟩ := cells6 HX3.out; have yf0 := yf 0; have yf1 := yf 1; have yf2 := yf 2; have yf3 := yf 3; have yf4 := yf 4; have yf5 := yf 5; clear yf)
      | fail)
    have HXF := mkH HX3.out
    have HBF := mkH HB3.out
    obtain ⟨g0, g1, g2, g3, g4, g5⟩ := got6 w3 w.heap.size _ _ _ _ _ _ (.int .i64 2) (.string x1) (.int .i64 0) (.slice none 0 0) (.slice none 0 0) (.int .i64 0) _ HXF.out
    refine bodyPost_ret (v := .tuple #[.agg #[.int .i64 2, .string x1, .int .i64 0, .slice none 0 0, .slice none 0 0, .int .i64 0], .bool true]) (by simp [results, Tryz.results45, go_sem, g0, g1, g2, g3, g4, g5]) rfl ⟨_, _, _, _, _, _, _, _, _, _, _, rfl, (below_set6 HBF.out (Nat.le_refl _) _ _ _ _ _ _), ?_⟩
    exact .inl ⟨rfl, [], [], HRB.out, World.ownsRow_nil .., World.ownsRow_nil ..⟩
  by_cases hmask : wd = maskL
  · subst hmask
    have ex : bA maskL = ⟨#[109, 97, 115, 107]⟩ := rfl
    rw [ex] at HC1
    have HRB : Hid (readAct l = Option.map (fun l => (3, bA f1, 0, l, [], 0)) (readPls f2)) := mkH (by rw [HRA.out, if_neg (by decide), if_neg (by decide), if_pos rfl])
    clear ex HTL HAF HCL HRA HAL hadd hremove
    generalize bA f1 = x1 at *
    go_enter Tryz.func45, Tryz.ntmps45
    go_wp2_with (first
      | (go_at_call_of 43 (#[.string s, .string ⟨#[32]⟩] : Array Value); refine (HC1.out _).mono ?_; rintro e w2 ⟨rfl, hb2⟩; have HB2 := mkH hb2; have HX2 := mkH ((hb2.block w.heap.size (by simp)).trans (heap_alloc_new w _)); clear hb2)
      | (go_at_call_of 43 (#[.string rs, .string ⟨#[32]⟩] : Array Value); refine (HC2.out _).mono ?_; rintro e w3 ⟨rfl, hb3⟩; have HB3 := mkH (Below.ups (b1c HB2.out) hb3); have HX3 := mkH ((hb3.block w.heap.size (blk_lt HX2.out)).trans HX2.out); clear hb3; obtain ⟨y0, y1, y2, y3, y4, y5, yf⟩ := cells6 HX3.out; have yf0 := yf 0; have yf1 := yf 1; have yf2 := yf 2; have yf3 := yf 3; have yf4 := yf 4; have yf5 := yf 5; clear yf)
      | (go_at_call 80; refine (HPL.out _ HB3.out).mono ?_; rintro e w4 ⟨pa, pn, pc, ok, rfl, hb4, hcase⟩; have HB4 := mkH hb4; have HBF := mkH (Below.ups HB3.out hb4); have HXF := mkH ((hb4.block w.heap.size (blk_lt HX3.out)).trans HX3.out); have HCS := mkH hcase; clear hb4 hcase; clear y0 y1 y2 y3 y4 y5 yf0 yf1 yf2 yf3 yf4 yf5; obtain ⟨y0, y1, y2, y3, y4, y5, yf⟩ := cells6 HXF.out; have yf0 := yf 0; have yf1 := yf 1; have yf2 := yf 2; have yf3 := yf 3; have yf4 := yf 4; have yf5 := yf 5; clear yf))
    obtain ⟨g0, g1, g2, g3, g4, g5⟩ := got6 w4 w.heap.size _ _ _ _ _ _ (.int .i64 3) (.string x1) (.int .i64 0) (.slice pa pn pc) (.slice none 0 0) (.int .i64 0) _ HXF.out
    refine bodyPost_ret (v := .tuple #[.agg #[.int .i64 3, .string x1, .int .i64 0, .slice pa pn pc, .slice none 0 0, .int .i64 0], .bool ok]) (by simp [results, Tryz.results45, go_sem, g0, g1, g2, g3, g4, g5]) rfl ⟨_, _, _, _, _, _, _, _, _, _, _, rfl, (below_set6 HBF.out (Nat.le_refl _) _ _ _ _ _ _), ?_⟩
    rcases HCS.out with ⟨rfl, L, h1, rfl, h2⟩ | ⟨rfl, h1⟩
    · refine .inl ⟨rfl, L, [], by rw [HRB.out, h1]; rfl, ?_, World.ownsRow_nil ..⟩
      exact act_own (own_mono h2 HB3.out.size) HXF.out (by decide) _ _ _ _ _ _
    · exact .inr ⟨rfl, by rw [HRB.out, h1]; rfl⟩
  by_cases hschema : wd = schemaL
  · subst hschema
    have ex : bA schemaL = ⟨#[115, 99, 104, 101, 109, 97]⟩ := rfl
    rw [ex] at HC1
    have HRB : Hid (readAct l = (numOf f1).bind fun n => Option.map (fun l => (4, bA [], 0, [], l, n)) (readCols f2)) := mkH (by rw [HRA.out, if_neg (by decide), if_neg (by decide), if_neg (by decide), if_pos rfl])
    clear ex HTL HRA HAL HPL hadd hremove hmask
    generalize bA f1 = x1 at *
    generalize bA f2 = x2 at *
    go_enter Tryz.func45, Tryz.ntmps45
    go_wp2_with (first
      | (go_at_call_of 43 (#[.string s, .string ⟨#[32]⟩] : Array Value); refine (HC1.out _).mono ?_; rintro e w2 ⟨rfl, hb2⟩; have HB2 := mkH hb2; have HX2 := mkH ((hb2.block w.heap.size (by simp)).trans (heap_alloc_new w _)); clear hb2)
      | (go_at_call_of 43 (#[.string rs, .string ⟨#[32]⟩] : Array Value); refine (HC2.out _).mono ?_; rintro e w3 ⟨rfl, hb3⟩; have HB3 := mkH (Below.ups (b1c HB2.out) hb3); have HX3 := mkH ((hb3.block w.heap.size (blk_lt HX2.out)).trans HX2.out); clear hb3; obtain ⟨y0, y1, y2, y3, y4, y5, yf⟩ := cells6 HX3.out; have yf0 := yf 0; have yf1 := yf 1; have yf2 := yf 2; have yf3 := yf 3; have yf4 := yf 4; have yf5 := yf 5; clear yf)
      | (go_at_call 79; refine (HAF.out _ HB3.out).mono ?_; rintro e w4 ⟨n, er, rfl, hb4, hcase⟩; have HB4 := mkH (Below.ups HB3.out hb4); have HX4 := mkH ((hb4.block w.heap.size (blk_lt HX3.out)).trans HX3.out); have HCS := mkH hcase; clear hb4 hcase)
      | (go_at_call 81; refine (HCL.out _ HB4.out).mono ?_; rintro e w5 ⟨pa, pn, pc, ok, rfl, hb5, hcol⟩; have HBF := mkH (Below.ups HB4.out hb5); have HXF := mkH ((hb5.block w.heap.size (blk_lt HX4.out)).trans HX4.out); have HCO := mkH hcol; clear hb5 hcol; clear y0 y1 y2 y3 y4 y5 yf0 yf1 yf2 yf3 yf4 yf5; obtain ⟨y0, y1, y2, y3, y4, y5, yf⟩ := cells6 HXF.out; have yf0 := yf 0; have yf1 := yf 1; have yf2 := yf 2; have yf3 := yf 3; have yf4 := yf 4; have yf5 := yf 5; clear yf))
    rcases HCO.out with ⟨rfl, L, h1, rfl, h2⟩ | ⟨rfl, h1⟩ <;> rcases HCS.out with ⟨h3, rfl⟩ | ⟨h3, ty, xx, rfl⟩
    · have H1 := mkH h1
      have H2 := mkH h2
      have H3 := mkH h3
      clear HCS HCO h1 h2 h3
      go_region
      go_wp2
      obtain ⟨g0, g1, g2, g3, g4, g5⟩ := got6 w5 w.heap.size _ _ _ _ _ _ (.int .i64 4) (.string ⟨#[]⟩) (.int .i64 0) (.slice none 0 0) (.slice pa L.length pc) (.int .i64 n) _ HXF.out
      refine bodyPost_ret (v := .tuple #[.agg #[.int .i64 4, .string ⟨#[]⟩, .int .i64 0, .slice none 0 0, .slice pa L.length pc, .int .i64 n], .bool true]) (by simp [results, Tryz.results45, go_sem, g0, g1, g2, g3, g4, g5]) rfl ⟨_, _, _, _, _, _, _, _, _, _, _, rfl, (below_set6 HBF.out (Nat.le_refl _) _ _ _ _ _ _).drew, ?_⟩
      refine .inl ⟨rfl, [], L, by rw [HRB.out, H3.out, H1.out]; rfl, World.ownsRow_nil .., ?_⟩
      exact own_drew (act_own (own_mono H2.out HB4.out.size) HXF.out (by decide) _ _ _ _ _ _)
    · have H3 := mkH h3
      clear HCS HCO h1 h2 h3
      go_region
      go_wp2
      obtain ⟨g0, g1, g2, g3, g4, g5⟩ := got6 w5 w.heap.size _ _ _ _ _ _ (.int .i64 4) (.string ⟨#[]⟩) (.int .i64 0) (.slice none 0 0) (.slice pa L.length pc) (.int .i64 n) _ HXF.out
      refine bodyPost_ret (v := .tuple #[.agg #[.int .i64 4, .string ⟨#[]⟩, .int .i64 0, .slice none 0 0, .slice pa L.length pc, .int .i64 n], .bool false]) (by simp [results, Tryz.results45, go_sem, g0, g1, g2, g3, g4, g5]) rfl ⟨_, _, _, _, _, _, _, _, _, _, _, rfl, (below_set6 HBF.out (Nat.le_refl _) _ _ _ _ _ _).drew, ?_⟩
      exact .inr ⟨rfl, by rw [HRB.out, H3.out]; rfl⟩
    · have H1 := mkH h1
      clear HCS HCO h1 h3
      go_region
      go_wp2
      obtain ⟨g0, g1, g2, g3, g4, g5⟩ := got6 w5 w.heap.size _ _ _ _ _ _ (.int .i64 4) (.string ⟨#[]⟩) (.int .i64 0) (.slice none 0 0) (.slice pa pn pc) (.int .i64 n) _ HXF.out
      refine bodyPost_ret (v := .tuple #[.agg #[.int .i64 4, .string ⟨#[]⟩, .int .i64 0, .slice none 0 0, .slice pa pn pc, .int .i64 n], .bool false]) (by simp [results, Tryz.results45, go_sem, g0, g1, g2, g3, g4, g5]) rfl ⟨_, _, _, _, _, _, _, _, _, _, _, rfl, (below_set6 HBF.out (Nat.le_refl _) _ _ _ _ _ _).drew, ?_⟩
      refine .inr ⟨rfl, by rw [HRB.out, H1.out]; cases numOf f1 <;> rfl⟩
    · have H1 := mkH h1
      clear HCS HCO h1 h3
      go_region
      go_wp2
      obtain ⟨g0, g1, g2, g3, g4, g5⟩ := got6 w5 w.heap.size _ _ _ _ _ _ (.int .i64 4) (.string ⟨#[]⟩) (.int .i64 0) (.slice none 0 0) (.slice pa pn pc) (.int .i64 n) _ HXF.out
      refine bodyPost_ret (v := .tuple #[.agg #[.int .i64 4, .string ⟨#[]⟩, .int .i64 0, .slice none 0 0, .slice pa pn pc, .int .i64 n], .bool false]) (by simp [results, Tryz.results45, go_sem, g0, g1, g2, g3, g4, g5]) rfl ⟨_, _, _, _, _, _, _, _, _, _, _, rfl, (below_set6 HBF.out (Nat.le_refl _) _ _ _ _ _ _).drew, ?_⟩
      refine .inr ⟨rfl, by rw [HRB.out, H1.out]; cases numOf f1 <;> rfl⟩
  have HRB : Hid (readAct l = none) := mkH (by rw [HRA.out, if_neg hadd, if_neg hremove, if_neg hmask, if_neg hschema])
  have hbadd : ((bA wd).toList == [97, 100, 100]) = false := by rw [HTL.out]; exact beq_eq_false_iff_ne.2 hadd
  have hcadd : ¬ (bA wd).toList = [97, 100, 100] := by rw [HTL.out]; exact hadd
  have hbremove : ((bA wd).toList == [114, 101, 109, 111, 118, 101]) = false := by rw [HTL.out]; exact beq_eq_false_iff_ne.2 hremove
  have hcremove : ¬ (bA wd).toList = [114, 101, 109, 111, 118, 101] := by rw [HTL.out]; exact hremove
  have hbmask : ((bA wd).toList == [109, 97, 115, 107]) = false := by rw [HTL.out]; exact beq_eq_false_iff_ne.2 hmask
  have hcmask : ¬ (bA wd).toList = [109, 97, 115, 107] := by rw [HTL.out]; exact hmask
  have hbschema : ((bA wd).toList == [115, 99, 104, 101, 109, 97]) = false := by rw [HTL.out]; exact beq_eq_false_iff_ne.2 hschema
  have hcschema : ¬ (bA wd).toList = [115, 99, 104, 101, 109, 97] := by rw [HTL.out]; exact hschema
  clear HTL HRA HAL HPL HCL HAF hadd hremove hmask hschema
  generalize bA wd = wb at *
  generalize bA f1 = x1 at *
  generalize bA f2 = x2 at *
  go_enter Tryz.func45, Tryz.ntmps45
  go_wp2_with (first
      | (go_at_call_of 43 (#[.string s, .string ⟨#[32]⟩] : Array Value); refine (HC1.out _).mono ?_; rintro e w2 ⟨rfl, hb2⟩; have HB2 := mkH hb2; have HX2 := mkH ((hb2.block w.heap.size (by simp)).trans (heap_alloc_new w _)); clear hb2)
      | (go_at_call_of 43 (#[.string rs, .string ⟨#[32]⟩] : Array Value); refine (HC2.out _).mono ?_; rintro e w3 ⟨rfl, hb3⟩; have HB3 := mkH (Below.ups (b1c HB2.out) hb3); have HX3 := mkH ((hb3.block w.heap.size (blk_lt HX2.out)).trans HX2.out); clear hb3; obtain ⟨y0, y1, y2, y3, y4, y5, yf⟩ := cells6 HX3.out; have yf0 := yf 0; have yf1 := yf 1; have yf2 := yf 2; have yf3 := yf 3; have yf4 := yf 4; have yf5 := yf 5; clear yf)
      | fail)
  have HXF := mkH HX3.out
  have HBF := mkH HB3.out
  obtain ⟨g0, g1, g2, g3, g4, g5⟩ := got6 w3 w.heap.size _ _ _ _ _ _ (.int .i64 0) (.string ⟨#[]⟩) (.int .i64 0) (.slice none 0 0) (.slice none 0 0) (.int .i64 0) _ HXF.out
  refine bodyPost_ret (v := .tuple #[.agg #[.int .i64 0, .string ⟨#[]⟩, .int .i64 0, .slice none 0 0, .slice none 0 0, .int .i64 0], .bool false]) (by simp [results, Tryz.results45, go_sem, g0, g1, g2, g3, g4, g5]) rfl ⟨_, _, _, _, _, _, _, _, _, _, _, rfl, (below_set6 HBF.out (Nat.le_refl _) _ _ _ _ _ _), ?_⟩
  exact .inr ⟨rfl, HRB.out⟩
end Go.Proofs.YtfppidnfomelpaaGreatDoor
