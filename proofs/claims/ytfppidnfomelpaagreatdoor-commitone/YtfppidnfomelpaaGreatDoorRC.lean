/- What log.readColumn does, said of every call. -/
import Derived.Test.YtfppidnfomelpaaGreatDoorRB
namespace Go.Proofs.YtfppidnfomelpaaGreatDoor
open Go.RowKit Go.Proofs Go.Lib Go.Joins

def restN : Nat → List UInt8 → List UInt8
  | 0, l => l
  | n + 1, l => rest1 (restN n l)
def wordN (n : Nat) (l : List UInt8) : ByteArray := bA (cutL 32 (restN n l)).1
theorem restN_le : ∀ (n : Nat) (l : List UInt8), (restN n l).length ≤ l.length
  | 0, _ => Nat.le_refl _
  | n + 1, l => Nat.le_trans (rest1_le _) (restN_le n l)
def ColPost (l : List UInt8) (w : World) (e : Ending) (w' : World) : Prop := ∃ (c1 : Int) (c2 : ByteArray) (c3 : Int) (c4 : Bool) (c5 c6 : Int) (c7 b : ByteArray) (ok : Bool), e = .returned (.tuple #[.agg #[.int .i64 c1, .string c2, .int .i64 c3, .bool c4, .int .i64 c5, .int .i64 c6, .string c7], .string b, .bool ok]) ∧ Below w.heap.size w w' ∧ ((ok = true ∧ ∃ r, readCol l = some ((c1, c2, c3, c4, c5, c6, c7), r) ∧ b = bA r) ∨ (ok = false ∧ readCol l = none))
theorem col_yes {l r : List UInt8} {i k : Int} {v : Val3} (h1 : numOf (cutL 32 (restN 0 l)).1 = some i) (h2 : numOf (cutL 32 (restN 2 l)).1 = some k) (h3 : readVal (restN 4 l) = some (v, r)) : readCol l = some ((i, wordN 1 l, k, decide ((cutL 32 (restN 3 l)).1 = mustL), v), r) := by
  simp only [restN] at h1 h2 h3
  unfold readCol
  rw [h1, h2, h3]
  rfl
theorem col_no1 {l : List UInt8} (h : numOf (cutL 32 (restN 0 l)).1 = none) : readCol l = none := by
  simp only [restN] at h
  unfold readCol
  rw [h]
  rfl
theorem col_no2 {l : List UInt8} (h : numOf (cutL 32 (restN 2 l)).1 = none) : readCol l = none := by
  simp only [restN] at h
  unfold readCol
  rw [h]
  cases numOf (cutL 32 l).1 <;> rfl
theorem col_no3 {l : List UInt8} (h : readVal (restN 4 l) = none) : readCol l = none := by
  simp only [restN] at h
  unfold readCol
  rw [h]
  cases numOf (cutL 32 l).1 with
  | none => rfl
  | some a => cases numOf (cutL 32 (rest1 (rest1 l))).1 <;> rfl
theorem cellsA4 {W : World} {b : Nat} {x0 x1 x2 x3 : Value} {t : TypeId} (h : W.heap[b]? = some (.cells #[x0, x1, x2, x3] t (0, 0))) : W.cell? ⟨b, 0, none⟩ = some x0 ∧ W.cell? ⟨b, 1, none⟩ = some x1 ∧ W.cell? ⟨b, 2, none⟩ = some x2 ∧ W.cell? ⟨b, 3, none⟩ = some x3 ∧ ∀ i, W.frozen? ⟨b, i, none⟩ = false := cells4 h

theorem cells7 {W : World} {b : Nat} {x0 x1 x2 x3 x4 x5 x6 : Value} {t : TypeId} (h : W.heap[b]? = some (.cells #[x0, x1, x2, x3, x4, x5, x6] t (0, 0))) :
    W.cell? ⟨b, 0, none⟩ = some x0 ∧ W.cell? ⟨b, 1, none⟩ = some x1 ∧ W.cell? ⟨b, 2, none⟩ = some x2 ∧ W.cell? ⟨b, 3, none⟩ = some x3 ∧ W.cell? ⟨b, 4, none⟩ = some x4 ∧ W.cell? ⟨b, 5, none⟩ = some x5 ∧ W.cell? ⟨b, 6, none⟩ = some x6 ∧ ∀ i, W.frozen? ⟨b, i, none⟩ = false := by
  refine ⟨?_, ?_, ?_, ?_, ?_, ?_, ?_, fun i => ?_⟩
  all_goals first | (rw [World.frozen?, h]; simp) | (simp [World.cell?, h])
abbrev set7 (W : World) (b : Nat) (v0 v1 v2 v3 v4 v5 v6 : Value) : World := ((((((W.setCell ⟨b, 0, none⟩ v0).setCell ⟨b, 1, none⟩ v1).setCell ⟨b, 2, none⟩ v2).setCell ⟨b, 3, none⟩ v3).setCell ⟨b, 4, none⟩ v4).setCell ⟨b, 5, none⟩ v5).setCell ⟨b, 6, none⟩ v6
theorem got7 (W : World) (b : Nat) (x0 x1 x2 x3 x4 x5 x6 v0 v1 v2 v3 v4 v5 v6 : Value) (T : TypeId) (h : W.heap[b]? = some (.cells #[x0, x1, x2, x3, x4, x5, x6] T (0, 0))) :
    (W.setCell ⟨b, 0, none⟩ v0).cell? ⟨b, 0, none⟩ = some v0 ∧ ((W.setCell ⟨b, 0, none⟩ v0).setCell ⟨b, 1, none⟩ v1).cell? ⟨b, 1, none⟩ = some v1 ∧ (((W.setCell ⟨b, 0, none⟩ v0).setCell ⟨b, 1, none⟩ v1).setCell ⟨b, 2, none⟩ v2).cell? ⟨b, 2, none⟩ = some v2 ∧ ((((W.setCell ⟨b, 0, none⟩ v0).setCell ⟨b, 1, none⟩ v1).setCell ⟨b, 2, none⟩ v2).setCell ⟨b, 3, none⟩ v3).cell? ⟨b, 3, none⟩ = some v3 ∧ (((((W.setCell ⟨b, 0, none⟩ v0).setCell ⟨b, 1, none⟩ v1).setCell ⟨b, 2, none⟩ v2).setCell ⟨b, 3, none⟩ v3).setCell ⟨b, 4, none⟩ v4).cell? ⟨b, 4, none⟩ = some v4 ∧ ((((((W.setCell ⟨b, 0, none⟩ v0).setCell ⟨b, 1, none⟩ v1).setCell ⟨b, 2, none⟩ v2).setCell ⟨b, 3, none⟩ v3).setCell ⟨b, 4, none⟩ v4).setCell ⟨b, 5, none⟩ v5).cell? ⟨b, 5, none⟩ = some v5 ∧ (((((((W.setCell ⟨b, 0, none⟩ v0).setCell ⟨b, 1, none⟩ v1).setCell ⟨b, 2, none⟩ v2).setCell ⟨b, 3, none⟩ v3).setCell ⟨b, 4, none⟩ v4).setCell ⟨b, 5, none⟩ v5).setCell ⟨b, 6, none⟩ v6).cell? ⟨b, 6, none⟩ = some v6 := by
  have h1 : (W.setCell ⟨b, 0, none⟩ v0).heap[b]? = some (.cells #[v0, x1, x2, x3, x4, x5, x6] T (0, 0)) := by simpa using heap_setC W b 0 _ T v0 h
  have h2 : ((W.setCell ⟨b, 0, none⟩ v0).setCell ⟨b, 1, none⟩ v1).heap[b]? = some (.cells #[v0, v1, x2, x3, x4, x5, x6] T (0, 0)) := by simpa using heap_setC (W.setCell ⟨b, 0, none⟩ v0) b 1 _ T v1 h1
  have h3 : (((W.setCell ⟨b, 0, none⟩ v0).setCell ⟨b, 1, none⟩ v1).setCell ⟨b, 2, none⟩ v2).heap[b]? = some (.cells #[v0, v1, v2, x3, x4, x5, x6] T (0, 0)) := by simpa using heap_setC ((W.setCell ⟨b, 0, none⟩ v0).setCell ⟨b, 1, none⟩ v1) b 2 _ T v2 h2
  have h4 : ((((W.setCell ⟨b, 0, none⟩ v0).setCell ⟨b, 1, none⟩ v1).setCell ⟨b, 2, none⟩ v2).setCell ⟨b, 3, none⟩ v3).heap[b]? = some (.cells #[v0, v1, v2, v3, x4, x5, x6] T (0, 0)) := by simpa using heap_setC (((W.setCell ⟨b, 0, none⟩ v0).setCell ⟨b, 1, none⟩ v1).setCell ⟨b, 2, none⟩ v2) b 3 _ T v3 h3
  have h5 : (((((W.setCell ⟨b, 0, none⟩ v0).setCell ⟨b, 1, none⟩ v1).setCell ⟨b, 2, none⟩ v2).setCell ⟨b, 3, none⟩ v3).setCell ⟨b, 4, none⟩ v4).heap[b]? = some (.cells #[v0, v1, v2, v3, v4, x5, x6] T (0, 0)) := by simpa using heap_setC ((((W.setCell ⟨b, 0, none⟩ v0).setCell ⟨b, 1, none⟩ v1).setCell ⟨b, 2, none⟩ v2).setCell ⟨b, 3, none⟩ v3) b 4 _ T v4 h4
  have h6 : ((((((W.setCell ⟨b, 0, none⟩ v0).setCell ⟨b, 1, none⟩ v1).setCell ⟨b, 2, none⟩ v2).setCell ⟨b, 3, none⟩ v3).setCell ⟨b, 4, none⟩ v4).setCell ⟨b, 5, none⟩ v5).heap[b]? = some (.cells #[v0, v1, v2, v3, v4, v5, x6] T (0, 0)) := by simpa using heap_setC (((((W.setCell ⟨b, 0, none⟩ v0).setCell ⟨b, 1, none⟩ v1).setCell ⟨b, 2, none⟩ v2).setCell ⟨b, 3, none⟩ v3).setCell ⟨b, 4, none⟩ v4) b 5 _ T v5 h5
  have h7 : (((((((W.setCell ⟨b, 0, none⟩ v0).setCell ⟨b, 1, none⟩ v1).setCell ⟨b, 2, none⟩ v2).setCell ⟨b, 3, none⟩ v3).setCell ⟨b, 4, none⟩ v4).setCell ⟨b, 5, none⟩ v5).setCell ⟨b, 6, none⟩ v6).heap[b]? = some (.cells #[v0, v1, v2, v3, v4, v5, v6] T (0, 0)) := by simpa using heap_setC ((((((W.setCell ⟨b, 0, none⟩ v0).setCell ⟨b, 1, none⟩ v1).setCell ⟨b, 2, none⟩ v2).setCell ⟨b, 3, none⟩ v3).setCell ⟨b, 4, none⟩ v4).setCell ⟨b, 5, none⟩ v5) b 6 _ T v6 h6
  exact ⟨(cells7 h1).1, (cells7 h2).2.1, (cells7 h3).2.2.1, (cells7 h4).2.2.2.1, (cells7 h5).2.2.2.2.1, (cells7 h6).2.2.2.2.2.1, (cells7 h7).2.2.2.2.2.2.1⟩
theorem below_set7 {n : Nat} {w W : World} (h : Below n w W) {b : Nat} (hb : n ≤ b) (v0 v1 v2 v3 v4 v5 v6 : Value) : Below n w (set7 W b v0 v1 v2 v3 v4 v5 v6) :=
  ((((((h.setCell (p := ⟨b, 0, none⟩) hb _).setCell (p := ⟨b, 1, none⟩) hb _).setCell (p := ⟨b, 2, none⟩) hb _).setCell (p := ⟨b, 3, none⟩) hb _).setCell (p := ⟨b, 4, none⟩) hb _).setCell (p := ⟨b, 5, none⟩) hb _).setCell (p := ⟨b, 6, none⟩) hb _
theorem beq_dec (a b : List UInt8) : (a == b) = decide (a = b) := by by_cases h : a = b <;> simp [h]
def words4 (k : Nat) (l : List UInt8) : Array Value := match k with
  | 0 => #[.string ⟨#[]⟩, .string ⟨#[]⟩, .string ⟨#[]⟩, .string ⟨#[]⟩]
  | 1 => #[.string (wordN 0 l), .string ⟨#[]⟩, .string ⟨#[]⟩, .string ⟨#[]⟩]
  | 2 => #[.string (wordN 0 l), .string (wordN 1 l), .string ⟨#[]⟩, .string ⟨#[]⟩]
  | 3 => #[.string (wordN 0 l), .string (wordN 1 l), .string (wordN 2 l), .string ⟨#[]⟩]
  | _ => #[.string (wordN 0 l), .string (wordN 1 l), .string (wordN 2 l), .string (wordN 3 l)]
set_option maxHeartbeats 4000000 in
set_option maxRecDepth 100000 in
theorem readColumn_any (s : ByteArray) (w : World) (hs : s.size ≤ 1000000) (he : ErrB w) : Calls Tryz.prog 112 #[.string s] w (ColPost s.data.toList w) := by
  obtain ⟨l, hl⟩ : ∃ l, s.data.toList = l := ⟨_, rfl⟩
  have hll : l.length ≤ 1000000 := by rw [← hl, size_list]; exact hs
  have es : s = bA (restN 0 l) := by rw [← hl]; exact (bA_list s).symm
  rw [hl]
  have HCU : Hid (∀ n W, Calls Tryz.prog 43 #[.string (bA (restN n l)), .string ⟨#[32]⟩] W fun e w' => ∃ z, e = .returned (.tuple #[.string (wordN n l), .string (bA (restN (n + 1) l)), .bool z]) ∧ Below W.heap.size W w') := mkH (fun n W => by
    refine (cut_any (bA (restN n l)) 32 W (by rw [bA_size]; have := restN_le n l; unfold maxLen; omega)).mono ?_
    rintro e w' ⟨rfl, hb⟩
    rw [bA_toList]
    exact ⟨_, rfl, hb⟩)
  have HAT : Hid (∀ n W, Below w.heap.size w W → Calls Tryz.prog 79 #[.string (wordN n l)] W (NumPost (cutL 32 (restN n l)).1 W)) := mkH (fun n W hW => by
    have := atoi_any (wordN n l) W (by unfold wordN; have := cut_size1 32 (restN n l); have := restN_le n l; omega) (he.below hW)
    unfold wordN at this
    rw [bA_toList] at this
    exact this)
  have HRV : Hid (∀ W, Below w.heap.size w W → Calls Tryz.prog 146 #[.string (bA (restN 4 l))] W (ValPost (restN 4 l) W)) := mkH (fun W hW => by
    have := readValue_any (bA (restN 4 l)) W (by rw [bA_size]; have := restN_le 4 l; omega) (he.below hW)
    rw [bA_toList] at this
    exact this)
  have HMU : Hid ((wordN 3 l).toList = (cutL 32 (restN 3 l)).1) := mkH (toList_bA _)
  subst es
  clear he hl hs
  obtain ⟨z0, z1, z2, z3⟩ := two_alloc w (.cells #[.int .i64 0, .string ⟨#[]⟩, .int .i64 0, .bool false, .int .i64 0, .int .i64 0, .string ⟨#[]⟩] 67) (.cells #[.string ⟨#[]⟩, .string ⟨#[]⟩, .string ⟨#[]⟩, .string ⟨#[]⟩] 217)
  have Z0 := mkH z0
  have Z1 := mkH z1
  have Z2 := mkH z2
  have Z3 := mkH z3
  clear z0 z1 z2 z3
  go_enter Tryz.func112, Tryz.ntmps112
  go_wp2_with fail
  go_loopw [0, 13] (fun vs vi wr => ∃ k : Nat, k ≤ 4 ∧ vi = .int .i64 k ∧ vs = .string (bA (restN k l)) ∧ Hid (wr.heap[w.heap.size + 1]? = some (.cells (words4 k l) 217 (0, 0))) ∧ Hid (wr.heap[w.heap.size]? = some (.cells #[.int .i64 0, .string ⟨#[]⟩, .int .i64 0, .bool false, .int .i64 0, .int .i64 0, .string ⟨#[]⟩] 67 (0, 0))) ∧ Hid (Below w.heap.size w wr)) (fun _ vi _ => 4 - (intOf vi).toNat)
  case atStart => exact ⟨0, by decide, rfl, rfl, Z2, Z1, Z3⟩
  case round =>
    obtain ⟨k, hk, rfl, rfl, HBX, HRB, HBW⟩ := hrel
    clear Z0 Z1 Z2 Z3
    obtain rfl | rfl | rfl | rfl | rfl : k = 0 ∨ k = 1 ∨ k = 2 ∨ k = 3 ∨ k = 4 := by omega
    · obtain ⟨p0, p1, p2, p3, pf⟩ := cellsA4 HBX.out
      have pf0 := pf 0
      clear pf
      go_wp2_with (first
        | (go_at_call 43; refine (HCU.out 0 _).mono ?_; rintro e w2 ⟨zz, rfl, hb2⟩; have HB2 := mkH hb2; have HX2 := mkH ((hb2.block (w.heap.size + 1) (blk_lt HBX.out)).trans HBX.out); obtain ⟨p0, p1, p2, p3, pf⟩ := cellsA4 HX2.out; have pf0 := pf 0; clear hb2 pf))
      have HX3 := mkH (heap_setC w2 (w.heap.size + 1) 0 _ _ (.string (wordN 0 l)) HX2.out)
      have HB3 : Hid (Below w.heap.size w (w2.setCell ⟨w.heap.size + 1, 0, none⟩ (.string (wordN 0 l)))) := mkH ((Below.ups HBW.out HB2.out).setCell (p := ⟨w.heap.size + 1, 0, none⟩) (Nat.le_succ _) _)
      have HRS : Hid ((w2.setCell ⟨w.heap.size + 1, 0, none⟩ (.string (wordN 0 l))).heap[w.heap.size]? = some (.cells #[.int .i64 0, .string ⟨#[]⟩, .int .i64 0, .bool false, .int .i64 0, .int .i64 0, .string ⟨#[]⟩] 67 (0, 0))) := mkH ((Below.heap_setCell _ _ _ _ (by simp)).trans ((HB2.out.block w.heap.size (blk_lt HRB.out)).trans HRB.out))
      go_roundw
      case rel => exact ⟨1, by decide, rfl, rfl, HX3, HRS, HB3⟩
      case measure => simp [intOf]
    · obtain ⟨p0, p1, p2, p3, pf⟩ := cellsA4 HBX.out
      have pf0 := pf 1
      clear pf
      go_wp2_with (first
        | (go_at_call 43; refine (HCU.out 1 _).mono ?_; rintro e w2 ⟨zz, rfl, hb2⟩; have HB2 := mkH hb2; have HX2 := mkH ((hb2.block (w.heap.size + 1) (blk_lt HBX.out)).trans HBX.out); obtain ⟨p0, p1, p2, p3, pf⟩ := cellsA4 HX2.out; have pf0 := pf 1; clear hb2 pf))
      have HX3 := mkH (heap_setC w2 (w.heap.size + 1) 1 _ _ (.string (wordN 1 l)) HX2.out)
      have HB3 : Hid (Below w.heap.size w (w2.setCell ⟨w.heap.size + 1, 1, none⟩ (.string (wordN 1 l)))) := mkH ((Below.ups HBW.out HB2.out).setCell (p := ⟨w.heap.size + 1, 1, none⟩) (Nat.le_succ _) _)
      have HRS : Hid ((w2.setCell ⟨w.heap.size + 1, 1, none⟩ (.string (wordN 1 l))).heap[w.heap.size]? = some (.cells #[.int .i64 0, .string ⟨#[]⟩, .int .i64 0, .bool false, .int .i64 0, .int .i64 0, .string ⟨#[]⟩] 67 (0, 0))) := mkH ((Below.heap_setCell _ _ _ _ (by simp)).trans ((HB2.out.block w.heap.size (blk_lt HRB.out)).trans HRB.out))
      go_roundw
      case rel => exact ⟨2, by decide, rfl, rfl, HX3, HRS, HB3⟩
      case measure => simp [intOf]
    · obtain ⟨p0, p1, p2, p3, pf⟩ := cellsA4 HBX.out
      have pf0 := pf 2
      clear pf
      go_wp2_with (first
        | (go_at_call 43; refine (HCU.out 2 _).mono ?_; rintro e w2 ⟨zz, rfl, hb2⟩; have HB2 := mkH hb2; have HX2 := mkH ((hb2.block (w.heap.size + 1) (blk_lt HBX.out)).trans HBX.out); obtain ⟨p0, p1, p2, p3, pf⟩ := cellsA4 HX2.out; have pf0 := pf 2; clear hb2 pf))
      have HX3 := mkH (heap_setC w2 (w.heap.size + 1) 2 _ _ (.string (wordN 2 l)) HX2.out)
      have HB3 : Hid (Below w.heap.size w (w2.setCell ⟨w.heap.size + 1, 2, none⟩ (.string (wordN 2 l)))) := mkH ((Below.ups HBW.out HB2.out).setCell (p := ⟨w.heap.size + 1, 2, none⟩) (Nat.le_succ _) _)
      have HRS : Hid ((w2.setCell ⟨w.heap.size + 1, 2, none⟩ (.string (wordN 2 l))).heap[w.heap.size]? = some (.cells #[.int .i64 0, .string ⟨#[]⟩, .int .i64 0, .bool false, .int .i64 0, .int .i64 0, .string ⟨#[]⟩] 67 (0, 0))) := mkH ((Below.heap_setCell _ _ _ _ (by simp)).trans ((HB2.out.block w.heap.size (blk_lt HRB.out)).trans HRB.out))
      go_roundw
      case rel => exact ⟨3, by decide, rfl, rfl, HX3, HRS, HB3⟩
      case measure => simp [intOf]
    · obtain ⟨p0, p1, p2, p3, pf⟩ := cellsA4 HBX.out
      have pf0 := pf 3
      clear pf
      go_wp2_with (first
        | (go_at_call 43; refine (HCU.out 3 _).mono ?_; rintro e w2 ⟨zz, rfl, hb2⟩; have HB2 := mkH hb2; have HX2 := mkH ((hb2.block (w.heap.size + 1) (blk_lt HBX.out)).trans HBX.out); obtain ⟨p0, p1, p2, p3, pf⟩ := cellsA4 HX2.out; have pf0 := pf 3; clear hb2 pf))
      have HX3 := mkH (heap_setC w2 (w.heap.size + 1) 3 _ _ (.string (wordN 3 l)) HX2.out)
      have HB3 : Hid (Below w.heap.size w (w2.setCell ⟨w.heap.size + 1, 3, none⟩ (.string (wordN 3 l)))) := mkH ((Below.ups HBW.out HB2.out).setCell (p := ⟨w.heap.size + 1, 3, none⟩) (Nat.le_succ _) _)
      have HRS : Hid ((w2.setCell ⟨w.heap.size + 1, 3, none⟩ (.string (wordN 3 l))).heap[w.heap.size]? = some (.cells #[.int .i64 0, .string ⟨#[]⟩, .int .i64 0, .bool false, .int .i64 0, .int .i64 0, .string ⟨#[]⟩] 67 (0, 0))) := mkH ((Below.heap_setCell _ _ _ _ (by simp)).trans ((HB2.out.block w.heap.size (blk_lt HRB.out)).trans HRB.out))
      go_roundw
      case rel => exact ⟨4, by decide, rfl, rfl, HX3, HRS, HB3⟩
      case measure => simp [intOf]
    · obtain ⟨p0, p1, p2, p3, _⟩ := cellsA4 HBX.out
      have keep : ∀ W, Below wr.heap.size wr W → W.cell? ⟨w.heap.size + 1, 0, none⟩ = some (.string (wordN 0 l)) ∧ W.cell? ⟨w.heap.size + 1, 1, none⟩ = some (.string (wordN 1 l)) ∧ W.cell? ⟨w.heap.size + 1, 2, none⟩ = some (.string (wordN 2 l)) ∧ W.cell? ⟨w.heap.size + 1, 3, none⟩ = some (.string (wordN 3 l)) := fun W hW => by
        obtain ⟨a0, a1, a2, a3, _⟩ := cellsA4 ((hW.block (w.heap.size + 1) (blk_lt HBX.out)).trans HBX.out)
        exact ⟨a0, a1, a2, a3⟩
      have HK := mkH keep
      have hlt := blk_lt HBX.out
      clear keep
      go_wp2_with (first
        | (go_at_call_of 79 (#[.string (wordN 0 l)] : Array Value); refine (HAT.out 0 _ HBW.out).mono ?_; rintro e w3 ⟨n1, er1, rfl, hb3, hc1⟩; have HB3 := mkH hb3; have HC1 := mkH hc1; clear hb3 hc1 p0 p1 p2 p3; obtain ⟨p0, p1, p2, p3⟩ := HK.out _ HB3.out)
        | (go_at_call_of 79 (#[.string (wordN 2 l)] : Array Value); refine (HAT.out 2 _ (Below.ups HBW.out HB3.out)).mono ?_; rintro e w4 ⟨n2, er2, rfl, hb4, hc2⟩; have HB4 := mkH (Below.ups HB3.out hb4); have HC2 := mkH hc2; clear hb4 hc2)
        | (go_at_call 146; refine (HRV.out _ (Below.ups HBW.out HB4.out)).mono ?_; rintro e w5 ⟨vk, vn, vt, vb, ok, rfl, hb5, hc3⟩; have HB5 := mkH (Below.ups HB4.out hb5); have HC3 := mkH hc3; have hs5 := HB5.out.size; clear hb5 hc3 p0 p1 p2 p3; obtain ⟨p0, p1, p2, p3⟩ := HK.out _ (HB5.out.alloc HB5.out.size (.cells #[.int .i64 vk, .int .i64 vn, .string vt] 65)))
        | fail)
      have HRW : Hid (∀ W, Below wr.heap.size wr W → W.heap[w.heap.size]? = some (.cells #[.int .i64 0, .string ⟨#[]⟩, .int .i64 0, .bool false, .int .i64 0, .int .i64 0, .string ⟨#[]⟩] 67 (0, 0))) := mkH (fun W hW => (hW.block w.heap.size (blk_lt HRB.out)).trans HRB.out)
      have HZ : Hid (Below wr.heap.size wr ((w5.alloc (.cells #[.int .i64 vk, .int .i64 vn, .string vt] 65)).alloc (.cells #[.int .i64 n1, .string (wordN 1 l), .int .i64 n2, .bool ((wordN 3 l).toList == [109, 117, 115, 116]), .int .i64 vk, .int .i64 vn, .string vt] 67))) := mkH ((HB5.out.alloc HB5.out.size _).alloc (Nat.le_trans HB5.out.size (by rw [World.size_alloc]; exact Nat.le_succ _)) _)
      have HNW := mkH (heap_alloc_new (w5.alloc (.cells #[.int .i64 vk, .int .i64 vn, .string vt] 65)) (.cells #[.int .i64 n1, .string (wordN 1 l), .int .i64 n2, .bool ((wordN 3 l).toList == [109, 117, 115, 116]), .int .i64 vk, .int .i64 vn, .string vt] 67))
      rw [World.size_alloc] at HNW
      have hne : w5.heap.size + 1 ≠ w.heap.size := by have := HB5.out.size; omega
      have hmu : ((wordN 3 l).toList == [109, 117, 115, 116]) = decide ((cutL 32 (restN 3 l)).1 = mustL) := by rw [HMU.out]; exact beq_dec _ _
      generalize (w5.alloc (.cells #[.int .i64 vk, .int .i64 vn, .string vt] 65)).alloc (.cells #[.int .i64 n1, .string (wordN 1 l), .int .i64 n2, .bool ((wordN 3 l).toList == [109, 117, 115, 116]), .int .i64 vk, .int .i64 vn, .string vt] 67) = wz at *
      rw [hmu] at HNW
      have HRZ := mkH (HRW.out _ HZ.out)
      obtain ⟨a0, a1, a2, a3, a4, a5, a6, af⟩ := cells7 HRZ.out
      obtain ⟨b0, b1, b2, b3, b4, b5, b6, _⟩ := cells7 HNW.out
      have af0 := af 0
      have af1 := af 1
      have af2 := af 2
      have af3 := af 3
      have af4 := af 4
      have af5 := af 5
      have af6 := af 6
      have HY := mkH (got7 wz w.heap.size _ _ _ _ _ _ _ (.int .i64 n1) (.string (wordN 1 l)) (.int .i64 n2) (.bool (decide ((cutL 32 (restN 3 l)).1 = mustL))) (.int .i64 vk) (.int .i64 vn) (.string vt) _ HRZ.out)
      have HBZ := mkH (Below.ups HBW.out HZ.out)
      clear af p0 p1 p2 p3 hmu HNW HMU HAT HCU HRV HK HRW HRB HBX
      rcases HC3.out with ⟨rfl, r3, e3, rfl⟩ | ⟨rfl, e3⟩ <;> rcases HC1.out with ⟨e1, rfl⟩ | ⟨e1, t1, q1, rfl⟩ <;> rcases HC2.out with ⟨e2, rfl⟩ | ⟨e2, t2, q2, rfl⟩
      all_goals
        have E1 := mkH e1
        have E2 := mkH e2
        have E3 := mkH e3
        clear e1 e2 e3 HC1 HC2 HC3
        generalize hmb : decide ((cutL 32 (restN 3 l)).1 = mustL) = mb at *
        have HMB := mkH hmb
        clear hmb
        go_region
      all_goals
        go_wp2
        obtain ⟨y0, y1, y2, y3, y4, y5, y6⟩ := HY.out
        first
          | (refine bodyPost_ret (v := .tuple #[.agg #[.int .i64 n1, .string (wordN 1 l), .int .i64 n2, .bool mb, .int .i64 vk, .int .i64 vn, .string vt], .string (bA r3), .bool true]) (by simp [results, Tryz.results112, go_sem, y0, y1, y2, y3, y4, y5, y6]; done) rfl ⟨n1, wordN 1 l, n2, mb, vk, vn, vt, _, true, rfl, (below_set7 HBZ.out (Nat.le_refl _) _ _ _ _ _ _ _).drew, .inl ⟨rfl, r3, ?_, rfl⟩⟩
             rw [col_yes E1.out E2.out E3.out, HMB.out])
          | (refine bodyPost_ret (v := .tuple #[.agg #[.int .i64 n1, .string (wordN 1 l), .int .i64 n2, .bool mb, .int .i64 vk, .int .i64 vn, .string vt], .string (bA r3), .bool false]) (by simp [results, Tryz.results112, go_sem, y0, y1, y2, y3, y4, y5, y6]; done) rfl ⟨n1, wordN 1 l, n2, mb, vk, vn, vt, _, false, rfl, (below_set7 HBZ.out (Nat.le_refl _) _ _ _ _ _ _ _).drew, .inr ⟨rfl, ?_⟩⟩
             first | exact col_no3 E3.out | exact col_no1 E1.out | exact col_no2 E2.out)
          | (refine bodyPost_ret (v := .tuple #[.agg #[.int .i64 n1, .string (wordN 1 l), .int .i64 n2, .bool mb, .int .i64 vk, .int .i64 vn, .string vt], .string vb, .bool false]) (by simp [results, Tryz.results112, go_sem, y0, y1, y2, y3, y4, y5, y6]; done) rfl ⟨n1, wordN 1 l, n2, mb, vk, vn, vt, _, false, rfl, (below_set7 HBZ.out (Nat.le_refl _) _ _ _ _ _ _ _).drew, .inr ⟨rfl, ?_⟩⟩
             first | exact col_no3 E3.out | exact col_no1 E1.out | exact col_no2 E2.out)
          | fail
end Go.Proofs.YtfppidnfomelpaaGreatDoor
