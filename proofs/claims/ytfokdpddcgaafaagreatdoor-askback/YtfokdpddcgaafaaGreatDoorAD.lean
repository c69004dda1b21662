/- What ask.first does with a word, a number, a text. -/
import Derived.Test.YtfokdpddcgaafaaGreatDoorAC
import Derived.Laws.EntriesVeiled
namespace Go.Proofs.YtfokdpddcgaafaaGreatDoor
open Go.RowKit Go.Proofs Go.Lib Go.Proofs.YtfokdpddcgaafaaGreatDoor.Ask

def tokV (k : Int) (t : ByteArray) (p c : Int) : Value := .agg #[.int .i64 k, .string t, .int .i64 p, .int .i64 c]
theorem run_small (s : ByteArray) (hs : s.size ≤ maxLen) (W : World) : Calls Tryz.prog 48 #[.string s, .func (.func 64) #[] #[]] W fun e w' => e = .returned (.int .i64 (runL smR s.data.toList : Int)) ∧ Below W.heap.size W w' :=
  run_any 64 #[] (enters_of Tryz.func64 (by kernel_rfl) rfl) smR smR_hi s W hs (fsmall_any W)
theorem run_digit (s : ByteArray) (hs : s.size ≤ maxLen) (W : World) : Calls Tryz.prog 48 #[.string s, .func (.func 65) #[] #[]] W fun e w' => e = .returned (.int .i64 (runL dgR s.data.toList : Int)) ∧ Below W.heap.size W w' :=
  run_any 65 #[] (enters_of Tryz.func65 (by kernel_rfl) rfl) dgR dgR_hi s W hs (fdigit_any W)
theorem run_blank (s : ByteArray) (hs : s.size ≤ maxLen) (W : World) : Calls Tryz.prog 48 #[.string s, .func (.func 49) #[] #[]] W fun e w' => e = .returned (.int .i64 (runL blR s.data.toList : Int)) ∧ Below W.heap.size W w' :=
  run_any 49 #[] (enters_of Tryz.func49 (by kernel_rfl) rfl) blR blR_hi s W hs (blank_any W)
theorem run_word (s : ByteArray) (hs : s.size ≤ maxLen) (B C : Nat) (W : World) (hB : B < W.heap.size) (hC : C < W.heap.size) (h4 : W.cell? ⟨B, 0, none⟩ = some (.func (.func 64) #[] #[])) (h5 : W.cell? ⟨C, 0, none⟩ = some (.func (.func 65) #[] #[])) : Calls Tryz.prog 48 #[.string s, .func (.func 66) #[] #[.pointer (some ⟨B, 0, none⟩), .pointer (some ⟨C, 0, none⟩)]] W fun e w' => e = .returned (.int .i64 (runL wcR s.data.toList : Int)) ∧ Below W.heap.size W w' :=
  run_any 66 #[.pointer (some ⟨B, 0, none⟩), .pointer (some ⟨C, 0, none⟩)] (enters_of Tryz.func66 (by kernel_rfl) rfl) wcR wcR_hi s W hs (fword_any W B C hB hC h4 h5)
theorem hmfA (fn : Fn) (first cap : Array Value) (w : World) : (Instr.makeFunc fn first cap).run Tryz.prog w = .ok (.func fn first cap) w := rfl
def oTok (k : Int) (t : ByteArray) (p c : Int) : Obj := .cells #[.int .i64 k, .string t, .int .i64 p, .int .i64 c] 41
def oFn (f : Nat) : Obj := .cells #[.func (.func f) #[] #[]] 78
/-- How the three boxes of ask.first lie. -/
structure Box3 (w W : World) : Prop where
  low : Below w.heap.size w W
  h0 : W.heap[w.heap.size]? = some (oTok 0 ⟨#[]⟩ 0 0)
  h1 : W.heap[w.heap.size + 1]? = some (oFn 64)
  h2 : W.heap[w.heap.size + 1 + 1]? = some (oFn 65)
def w3 (w : World) : World := ((w.alloc (oTok 0 ⟨#[]⟩ 0 0)).alloc (oFn 64)).alloc (oFn 65)
theorem blk_lt {w : World} {b : Nat} {o : Obj} (h : w.heap[b]? = some o) : b < w.heap.size := by
  rcases Nat.lt_or_ge b w.heap.size with h' | h'
  · exact h'
  · rw [Array.getElem?_eq_none h'] at h; cases h
theorem heap3 (w : World) (X Y Z : Obj) : (((w.alloc X).alloc Y).alloc Z).heap[w.heap.size]? = some X ∧ (((w.alloc X).alloc Y).alloc Z).heap[w.heap.size + 1]? = some Y ∧ (((w.alloc X).alloc Y).alloc Z).heap[w.heap.size + 1 + 1]? = some Z := by
  have a1 : Below ((w.alloc X).alloc Y).heap.size ((w.alloc X).alloc Y) (((w.alloc X).alloc Y).alloc Z) := (Below.refl _ _).alloc (Nat.le_refl _) _
  have a2 : Below (w.alloc X).heap.size (w.alloc X) (((w.alloc X).alloc Y).alloc Z) := ((Below.refl _ _).alloc (Nat.le_refl _) _).alloc (by simp) _
  refine ⟨(a2.block _ (by simp)).trans (heap_alloc_new w X), ?_, ?_⟩
  · have := heap_alloc_new (w.alloc X) Y
    rw [World.size_alloc] at this
    exact (a1.block _ (by simp)).trans this
  · have := heap_alloc_new ((w.alloc X).alloc Y) Z
    rw [World.size_alloc, World.size_alloc] at this
    exact this
theorem Box3.start (w : World) : Box3 w (w3 w) where
  low := ((((Below.refl _ w).alloc (Nat.le_refl _) _).alloc (by simp) _).alloc (by simp; omega) _)
  h0 := (heap3 w _ _ _).1
  h1 := (heap3 w _ _ _).2.1
  h2 := (heap3 w _ _ _).2.2
theorem Box3.on {w W V : World} (h : Box3 w W) (hb : Below W.heap.size W V) : Box3 w V where
  low := Below.ups h.low hb
  h0 := (hb.block _ (blk_lt h.h0)).trans h.h0
  h1 := (hb.block _ (blk_lt h.h1)).trans h.h1
  h2 := (hb.block _ (blk_lt h.h2)).trans h.h2
theorem cell_of_heap {w : World} {b : Nat} {cs : Array Value} {t : TypeId} (h : w.heap[b]? = some (.cells cs t)) (i : Nat) : w.cell? ⟨b, i, none⟩ = cs[i]? := by
  simp [World.cell?, h]
theorem cell_oFn {W : World} {b f : Nat} (h : W.heap[b]? = some (oFn f)) : W.cell? ⟨b, 0, none⟩ = some (.func (.func f) #[] #[]) := by
  simp [World.cell?, h, oFn]
theorem Box3.fro {w W : World} (h : Box3 w W) (i : Nat) : W.frozen? ⟨w.heap.size, i, none⟩ = false := by simp [World.frozen?, h.h0, oTok]
theorem Box3.low4 {w W : World} (h : Box3 w W) (a b c d : Value) : Below w.heap.size w ((((W.setCell ⟨w.heap.size, 0, none⟩ a).setCell ⟨w.heap.size, 1, none⟩ b).setCell ⟨w.heap.size, 2, none⟩ c).setCell ⟨w.heap.size, 3, none⟩ d) :=
  (((h.low.setCell (Nat.le_refl _) _).setCell (Nat.le_refl _) _).setCell (Nat.le_refl _) _).setCell (Nat.le_refl _) _
set_option maxHeartbeats 4000000 in
theorem first_word (s : ByteArray) (w : World) (hs : s.size ≤ maxLen) (h : 0 < runL smR s.data.toList) :
    Calls Tryz.prog 50 #[.string s] w fun e w' => e = .returned (.tuple #[tokV 1 (s.extract 0 (runL wcR s.data.toList)) 0 0, .int .i64 (runL wcR s.data.toList : Int)]) ∧ Below w.heap.size w w' := by
  have H1 := mkH (run_small s hs)
  have H3 := mkH (run_word s hs)
  have hmf := hmfA
  have hn := runL_le wcR s.data.toList
  rw [← size_eq] at hn
  unfold maxLen at hs
  generalize runL smR s.data.toList = m at *
  generalize runL wcR s.data.toList = n at *
  have c0 : (0 : Int) < (m : Int) := by omega
  have c1 : (0 : Int) ≤ (n : Int) := by omega
  have c2 : (n : Int) ≤ (s.size : Int) := by omega
  go_enter Tryz.func50, Tryz.ntmps50
  go_wp2_with fail
  refine (H1.out _).mono ?_
  rintro e w1 ⟨rfl, hb1⟩
  have hB1 : Hid (Box3 w w1) := (Box3.start w).on hb1
  clear hb1
  go_wp2_with fail
  refine (H3.out _ _ _ (blk_lt hB1.out.h1) (blk_lt hB1.out.h2) (cell_oFn hB1.out.h1) (cell_oFn hB1.out.h2)).mono ?_
  rintro e w2 ⟨rfl, hb2⟩
  have hB2 : Hid (Box3 w w2) := hB1.out.on hb2
  clear hB1 hb2
  have k0 := cell_of_heap hB2.out.h0 0
  have k1 := cell_of_heap hB2.out.h0 1
  have k2 := cell_of_heap hB2.out.h0 2
  have k3 := cell_of_heap hB2.out.h0 3
  simp at k0 k1 k2 k3
  have f0 := hB2.out.fro
  go_wp2
  exact bodyPost_ret (v := .tuple #[tokV 1 (s.extract 0 n) 0 0, .int .i64 ((n : Int))]) (by simp [results, Tryz.results50, go_sem, k0, k1, k2, k3, tokV]) rfl ⟨rfl, hB2.out.low4 _ _ _ _⟩

def unB (s : ByteArray) : ByteArray := bA (trimPrefix s.data.toList [45])
theorem unB_le (s : ByteArray) : (unB s).size ≤ s.size := by
  unfold unB; rw [bA_size, size_eq s]; exact trim_le _ _
theorem trim45 (s : ByteArray) (W : World) : Calls Tryz.prog 67 #[.string s, .string ⟨#[45]⟩] W fun e w' => e = .returned (.string (unB s)) ∧ w' = W := Tryz.strings_TrimPrefix s ⟨#[45]⟩ W
set_option maxHeartbeats 4000000 in
theorem first_num (s : ByteArray) (w : World) (hs : s.size ≤ maxLen) (h : runL smR s.data.toList = 0) (hd : 0 < runL dgR (unB s).data.toList) :
    Calls Tryz.prog 50 #[.string s] w fun e w' => e = .returned (.tuple #[tokV 2 (s.extract 0 (runL dgR (unB s).data.toList + (s.size - (unB s).size))) 0 0, .int .i64 ((runL dgR (unB s).data.toList + (s.size - (unB s).size) : Nat) : Int)]) ∧ Below w.heap.size w w' := by
  have H1 := mkH (run_small s hs)
  have hu := unB_le s
  have H2 := mkH (run_digit (unB s) (Nat.le_trans hu hs))
  have H4 := mkH (trim45 s)
  have hn := runL_le dgR (unB s).data.toList
  rw [← size_eq] at hn
  unfold maxLen at hs
  rw [h] at H1
  clear h
  generalize runL dgR (unB s).data.toList = n at *
  generalize unB s = u at *
  obtain ⟨k, hk⟩ : ∃ k, n + (s.size - u.size) = k := ⟨_, rfl⟩
  rw [hk]
  have c0 : (0 : Int) < (n : Int) := by omega
  have c1 : (0 : Int) ≤ (k : Int) := by omega
  have c2 : (k : Int) ≤ (s.size : Int) := by omega
  have c3 : (n : Int) + ((s.size : Int) - (u.size : Int)) = (k : Int) := by omega
  go_enter Tryz.func50, Tryz.ntmps50
  go_wp2_with fail
  refine (H1.out _).mono ?_
  rintro e w1 ⟨rfl, hb1⟩
  have hB1 : Hid (Box3 w w1) := (Box3.start w).on hb1
  clear hb1
  have e5 := cell_oFn hB1.out.h2
  go_wp2_with (first | (go_at_call 67; refine (H4.out _).mono ?_; rintro e w2 ⟨rfl, rfl⟩))
  refine (H2.out _).mono ?_
  rintro e w2 ⟨rfl, hb2⟩
  have hB2 : Hid (Box3 w w2) := hB1.out.on hb2
  clear hB1 hb2 e5
  have k0 := cell_of_heap hB2.out.h0 0
  have k1 := cell_of_heap hB2.out.h0 1
  have k2 := cell_of_heap hB2.out.h0 2
  have k3 := cell_of_heap hB2.out.h0 3
  simp at k0 k1 k2 k3
  have f0 := hB2.out.fro
  go_wp2
  exact bodyPost_ret (v := .tuple #[tokV 2 (s.extract 0 k) 0 0, .int .i64 ((k : Int))]) (by simp [results, Tryz.results50, go_sem, k0, k1, k2, k3, tokV]) rfl ⟨rfl, hB2.out.low4 _ _ _ _⟩

theorem cut1_le (c : UInt8) (l : List UInt8) : (cutL c l).1.length ≤ l.length := by have := cutL_le c l; omega
theorem quR_le (l : List UInt8) : (quR l).length ≤ l.length := Nat.le_trans (cut1_le _ _) (trim_le _ _)
set_option maxHeartbeats 4000000 in
theorem first_text (s : ByteArray) (w : World) (hs : s.size ≤ 1000000) (h : runL smR s.data.toList = 0) (hd : runL dgR (unB s).data.toList = 0) (hq : quB s.data.toList = true) :
    Calls Tryz.prog 50 #[.string s] w fun e w' => e = .returned (.tuple #[tokV 3 (bA (quR s.data.toList)) 0 0, .int .i64 (((quR s.data.toList).length + 2 : Nat) : Int)]) ∧ Below w.heap.size w w' := by
  have hs' : s.size ≤ maxLen := by unfold maxLen; omega
  have H1 := mkH (run_small s hs')
  have hu := unB_le s
  have H2 := mkH (run_digit (unB s) (Nat.le_trans hu hs'))
  have H4 := mkH (trim45 s)
  have H5 := mkH (fun W => quoted_any s W hs')
  have hz : (bA (quR s.data.toList)).size = (quR s.data.toList).length := bA_size
  have hl := quR_le s.data.toList
  rw [← size_eq] at hl
  rw [h] at H1; rw [hd] at H2; rw [hq] at H5
  clear h hd hq hs'
  generalize unB s = u at *
  generalize bA (quR s.data.toList) = t at *
  generalize (quR s.data.toList).length = n at *
  have c3 : ((t.size : Int) + 2) = ((n + 2 : Nat) : Int) := by omega
  go_enter Tryz.func50, Tryz.ntmps50
  go_wp2_with fail
  refine (H1.out _).mono ?_
  rintro e w1 ⟨rfl, hb1⟩
  have hB1 : Hid (Box3 w w1) := (Box3.start w).on hb1
  clear hb1
  have e5 := cell_oFn hB1.out.h2
  go_wp2_with (first | (go_at_call 67; refine (H4.out _).mono ?_; rintro e w2 ⟨rfl, rfl⟩))
  refine (H2.out _).mono ?_
  rintro e w2 ⟨rfl, hb2⟩
  have hB2 : Hid (Box3 w w2) := hB1.out.on hb2
  clear hB1 hb2 e5
  go_wp2_with fail
  refine (H5.out _).mono ?_
  rintro e w3 ⟨rfl, hb3⟩
  have hB3 : Hid (Box3 w w3) := hB2.out.on hb3
  clear hB2 hb3
  have k0 := cell_of_heap hB3.out.h0 0
  have k1 := cell_of_heap hB3.out.h0 1
  have k2 := cell_of_heap hB3.out.h0 2
  have k3 := cell_of_heap hB3.out.h0 3
  simp at k0 k1 k2 k3
  have f0 := hB3.out.fro
  go_wp2
  rw [← hz]
  exact bodyPost_ret (v := .tuple #[tokV 3 t 0 0, .int .i64 ((t.size : Int) + 2)]) (by simp [results, Tryz.results50, go_sem, k0, k1, k2, k3, tokV]) rfl ⟨by rw [Int.natCast_add]; rfl, hB3.out.low4 _ _ _ _⟩
end Go.Proofs.YtfokdpddcgaafaaGreatDoor
