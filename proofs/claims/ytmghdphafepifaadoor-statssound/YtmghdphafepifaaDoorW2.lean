/- What value.Print, value.Right and the statement's own right do, said of every call. -/
import Derived.Test.YtmghdphafepifaaDoorW1
import Derived.Test.YtmghdphafepifaaDoorShelf
namespace Go.Proofs.YtmghdphafepifaaDoor
open Go.RowKit Go.Proofs
open Go.Sort (grow)

theorem mkHid {p : Prop} (h : p) : Hid p := h

theorem nt {b : Bool} (h : (!b) = true) : b = false := by simpa using h
theorem nf {b : Bool} (h : (!b) = false) : b = true := by simpa using h

def badLetter (r : Nat) : Bool := decide (r < 32) || (decide (126 < r) || ((r : Int) == 39))

set_option maxHeartbeats 1000000 in
theorem letter_any (w : World) : PredAt Tryd.prog 55 #[] encR badLetter w := fun W r _ => by
  unfold FnGives
  by_cases h1 : r < 32 <;> by_cases h2 : 126 < r
  all_goals
    have z1 : (r : Int) < 32 ↔ r < 32 := by omega
    have z2 : (126 : Int) < (r : Int) ↔ 126 < r := by omega
    go_enter Tryd.func55, Tryd.ntmps55
    go_wp2
    all_goals first | (exfalso; omega) | (go_ret; exact ⟨ret_bool (by simp [badLetter, h1, h2]), 0, rfl⟩)

def printV (k n : Int) (t : ByteArray) : ByteArray := if k = 0 then ⟨#[110, 117, 108, 108]⟩ else if k = 1 then ⟨(Lib.itoa n).toArray⟩ else if k = 2 then ⟨#[39]⟩ ++ t ++ ⟨#[39]⟩ else ⟨#[]⟩
theorem ret_str {a b : ByteArray} (h : a = b) : Ending.returned (.string a) = .returned (.string b) := by rw [h]
theorem pr0 {k n : Int} {t : ByteArray} (h : (k == 0) = true) : ⟨#[110, 117, 108, 108]⟩ = printV k n t := by simp at h; subst h; rfl
theorem pr1 {k n : Int} {t : ByteArray} (h : (k == 1) = true) : ⟨(Lib.itoa n).toArray⟩ = printV k n t := by simp at h; subst h; rfl
theorem pr2 {k n : Int} {t : ByteArray} (h : (k == 2) = true) : ⟨#[39]⟩ ++ t ++ ⟨#[39]⟩ = printV k n t := by simp at h; subst h; rfl
theorem pr3 {k n : Int} {t : ByteArray} (h0 : (k == 0) = false) (h1 : (k == 1) = false) (h2 : (k == 2) = false) : ⟨#[]⟩ = printV k n t := by
  simp at h0 h1 h2; simp [printV, h0, h1, h2]
theorem below_grow (w : World) (k : Nat) (os : Array Obj) : Below w.heap.size w (grow (w.drewN k) os) :=
  ⟨rfl, rfl, rfl, by simp [grow], fun i hi => by simp [grow, Array.getElem?_append, hi]⟩

set_option maxHeartbeats 1000000 in
theorem print_any (k n : Int) (t : ByteArray) (w : World) (ht : t.size ≤ 1000) (h0 : -9223372036854775808 ≤ n) (h1 : n ≤ 9223372036854775807) (htab : Lib.TabIs Tryd.prog w "internal/strconv.uint64pow10" .u64 Lib.pow10Tab) :
    Calls Tryd.prog 10 #[.agg #[.int .i64 k, .int .i64 n, .string t]] w fun e w' => e = .returned (.string (printV k n t)) ∧ Below w.heap.size w w' := by
  have HT : Hid (∀ o, Lib.TabIs Tryd.prog (w.alloc o) "internal/strconv.uint64pow10" .u64 Lib.pow10Tab) := fun o => Lib.tabIs_alloc htab o
  clear htab
  have HC : Hid (∀ W, Lib.TabIs Tryd.prog W "internal/strconv.uint64pow10" .u64 Lib.pow10Tab → Calls Tryd.prog 31 #[.int .i64 n, .int .i64 10] W fun e w' => e = .returned (.string ⟨(Lib.itoa n).toArray⟩) ∧ Below W.heap.size W w') := fun W h => (Tryd.strconv_FormatInt_10 n h0 h1 W h).mono fun e w' ⟨he, k, os, hw⟩ => ⟨he, hw ▸ below_grow _ _ _⟩
  clear h0 h1
  go_enter Tryd.func10, Tryd.ntmps10
  go_wp2_with (first
    | (go_at_call 31; refine (HC.out _ (HT.out _)).mono ?_; rintro e w1 ⟨rfl, hb1⟩))
  all_goals go_ret
  · exact ⟨ret_str (pr0 ‹_›), (Below.refl _ _).alloc (Nat.le_refl _) _⟩
  · exact ⟨ret_str (pr1 ‹_›), ((Below.refl _ _).alloc (Nat.le_refl _) _).trans (hb1.mono (by simp))⟩
  · exact ⟨ret_str (pr2 ‹_›), (Below.refl _ _).alloc (Nat.le_refl _) _⟩
  · exact ⟨ret_str (pr3 ‹_› ‹_› ‹_›), (Below.refl _ _).alloc (Nat.le_refl _) _⟩

def rtB (t : ByteArray) : Bool := decide (t.size ≤ 40) && !(decide (0 ≤ Lib.idxFunc badLetter true t))
theorem rt0 {t : ByteArray} (h : ¬ t.size ≤ 40) : false = rtB t := by simp [rtB, h]
theorem rt1 {t : ByteArray} (h : t.size ≤ 40) : (!(decide (0 ≤ Lib.idxFunc badLetter true t))) = rtB t := by simp [rtB, h]

set_option maxHeartbeats 1000000 in
theorem rightText_any (t : ByteArray) (w : World) (ht : t.size ≤ maxLen) :
    Calls Tryd.prog 41 #[.string t] w fun e w' => e = .returned (.bool (rtB t)) ∧ Below w.heap.size w w' := by
  have HC : Hid (∀ W, Calls Tryd.prog 54 #[.string t, .func (.func 55) #[] #[]] W fun e w' => e = .returned (.bool (decide (0 ≤ Lib.idxFunc badLetter true t))) ∧ Below W.heap.size W w') := fun W => Tryd.strings_ContainsFunc 55 #[] (enters_of Tryd.func55 (by kernel_rfl) rfl) badLetter t W (letter_any W)
  unfold maxLen at ht
  by_cases h : t.size ≤ 40
  · have HR : Hid ((!(decide (0 ≤ Lib.idxFunc badLetter true t))) = rtB t) := rt1 h
    generalize decide (0 ≤ Lib.idxFunc badLetter true t) = b at HC HR
    go_enter Tryd.func41, Tryd.ntmps41
    go_wp2_with (first
      | (go_at_call 54; refine (HC.out _).mono ?_; rintro e w1 ⟨rfl, hb1⟩))
    go_ret
    exact ⟨ret_bool HR.out, hb1⟩
  · have HR : Hid (false = rtB t) := rt0 h
    clear HC
    go_enter Tryd.func41, Tryd.ntmps41
    go_wp2
    go_ret
    exact ⟨ret_bool HR.out, Below.refl _ _⟩

def rightV (k n : Int) (t : ByteArray) : Bool := if k = 0 then n == 0 && t.toList.isEmpty else if k = 1 then t.toList.isEmpty else if k = 2 then n == 0 && rtB t else false
theorem rv0 {k n : Int} {t : ByteArray} (hn : (n == 0) = true) (h : (k == 0) = true) : t.toList.isEmpty = rightV k n t := by simp at h hn; subst h hn; simp [rightV]
theorem rv0' {k n : Int} {t : ByteArray} (hn : (n == 0) = false) (h : (k == 0) = true) : false = rightV k n t := by simp at h; subst h; simp [rightV, hn]
theorem rv1 {k n : Int} {t : ByteArray} (h : (k == 1) = true) : t.toList.isEmpty = rightV k n t := by simp at h; subst h; simp [rightV]
theorem rv2 {k n : Int} {t : ByteArray} (hn : (n == 0) = true) (h : (k == 2) = true) : rtB t = rightV k n t := by simp at h hn; subst h hn; simp [rightV]
theorem rv2' {k n : Int} {t : ByteArray} (hn : (n == 0) = false) (h : (k == 2) = true) : false = rightV k n t := by simp at h; subst h; simp [rightV, hn]
theorem rv3 {k n : Int} {t : ByteArray} (h0 : (k == 0) = false) (h1 : (k == 1) = false) (h2 : (k == 2) = false) : false = rightV k n t := by
  simp at h0 h1 h2; simp [rightV, h0, h1, h2]

set_option maxHeartbeats 1000000 in
theorem rightV_any (k n : Int) (t : ByteArray) (w : World) (ht : t.size ≤ maxLen) :
    Calls Tryd.prog 26 #[.agg #[.int .i64 k, .int .i64 n, .string t]] w fun e w' => e = .returned (.bool (rightV k n t)) ∧ Below w.heap.size w w' := by
  have HC : Hid (∀ W, Calls Tryd.prog 41 #[.string t] W fun e w' => e = .returned (.bool (rtB t)) ∧ Below W.heap.size W w') := fun W => rightText_any t W ht
  unfold maxLen at ht
  by_cases hn : n = 0
  · have hb : (n == 0) = true := by simpa using hn
    clear hn
    go_enter Tryd.func26, Tryd.ntmps26
    go_wp2_with (first
      | (go_at_call 41; refine (HC.out _).mono ?_; rintro e w1 ⟨rfl, hb1⟩))
    all_goals go_ret
    · exact ⟨ret_bool (rv0 hb ‹_›), (Below.refl _ _).alloc (Nat.le_refl _) _⟩
    · exact ⟨ret_bool (rv1 ‹_›), (Below.refl _ _).alloc (Nat.le_refl _) _⟩
    · exact ⟨ret_bool (rv2 hb ‹_›), ((Below.refl _ _).alloc (Nat.le_refl _) _).trans (hb1.mono (by simp))⟩
    · exact ⟨ret_bool (rv3 ‹_› ‹_› ‹_›), (Below.refl _ _).alloc (Nat.le_refl _) _⟩
  · have hb : (n == 0) = false := by simpa using hn
    clear hn
    go_enter Tryd.func26, Tryd.ntmps26
    go_wp2_with (first
      | (go_at_call 41; refine (HC.out _).mono ?_; rintro e w1 ⟨rfl, hb1⟩))
    all_goals go_ret
    · exact ⟨ret_bool (rv0' hb ‹_›), (Below.refl _ _).alloc (Nat.le_refl _) _⟩
    · exact ⟨ret_bool (rv1 ‹_›), (Below.refl _ _).alloc (Nat.le_refl _) _⟩
    · exact ⟨ret_bool (rv2' hb ‹_›), (Below.refl _ _).alloc (Nat.le_refl _) _⟩
    · exact ⟨ret_bool (rv3 ‹_› ‹_› ‹_›), (Below.refl _ _).alloc (Nat.le_refl _) _⟩

def okV (k n : Int) (t : ByteArray) : Bool := !(decide (100 < (t.size : Int))) && rightV k n t
def okAll (K N : Nat → Int) (T : Nat → ByteArray) : Nat → Bool
  | 0 => true
  | L + 1 => okAll K N T L && okV (K L) (N L) (T L)
theorem okAll_not {K N : Nat → Int} {T : Nat → ByteArray} {k : Nat} (h : okV (K k) (N k) (T k) = false) : ∀ L, k < L → false = okAll K N T L
  | 0, hk => by omega
  | L + 1, hk => by
    by_cases e : k = L
    · subst e; simp [okAll, h]
    · simp [okAll, ← okAll_not h L (by omega)]

set_option maxHeartbeats 1000000 in
theorem right_any (b L : Nat) (K N : Nat → Int) (T : Nat → ByteArray) (w : World) (hL : L ≤ 70) (hT : ∀ j, (T j).size ≤ maxLen)
    (hc0 : ∀ j, j < L → w.cell? ⟨b, j * 3, none⟩ = some (.int .i64 (K j))) (hc1 : ∀ j, j < L → w.cell? ⟨b, j * 3 + 1, none⟩ = some (.int .i64 (N j))) (hc2 : ∀ j, j < L → w.cell? ⟨b, j * 3 + 2, none⟩ = some (.string (T j))) (hb : b < w.heap.size) :
    Calls Tryd.prog 7 #[.slice (some ⟨b, 0, none⟩) L L] w fun e w' => e = .returned (.bool (okAll K N T L)) ∧ Below w.heap.size w w' := by
  have HC : Hid (∀ k n t W, t.size ≤ maxLen → Calls Tryd.prog 26 #[.agg #[.int .i64 k, .int .i64 n, .string t]] W fun e w' => e = .returned (.bool (rightV k n t)) ∧ Below W.heap.size W w') := fun k n t W h => rightV_any k n t W h
  have H0 := mkHid hc0; have H1 := mkHid hc1; have H2 := mkHid hc2; have HT := mkHid hT
  clear hc0 hc1 hc2 hT
  go_enter Tryd.func7, Tryd.ntmps7
  go_wp2
  go_loopw [3] (fun i wr => ∃ k : Nat, k ≤ L ∧ i = .int .i64 k ∧ Hid (okAll K N T k = true) ∧ Hid (Below w.heap.size w wr)) (fun i _ => L - (intOf i).toNat)
  case atStart => exact ⟨0, Nat.zero_le _, rfl, rfl, Below.refl _ _⟩
  case round =>
    obtain ⟨k, hk, rfl, hok, hbw⟩ := hrel
    by_cases hlt : k < L
    · have c0 : wr.cell? ⟨b, k * 3, none⟩ = some (.int .i64 (K k)) := (hbw.out.cell (p := ⟨b, k * 3, none⟩) hb).trans (H0.out k hlt)
      have c1 : wr.cell? ⟨b, k * 3 + 1, none⟩ = some (.int .i64 (N k)) := (hbw.out.cell (p := ⟨b, k * 3 + 1, none⟩) hb).trans (H1.out k hlt)
      have c2 : wr.cell? ⟨b, k * 3 + 2, none⟩ = some (.string (T k)) := (hbw.out.cell (p := ⟨b, k * 3 + 2, none⟩) hb).trans (H2.out k hlt)
      have ht := HT.out k
      by_cases hl : 100 < ((T k).size : Int)
      · have HR : Hid (false = okAll K N T L) := okAll_not (by simp [okV, hl]) L hlt
        go_wp2
        go_ret
        exact ⟨ret_bool HR.out, hbw.out⟩
      · have HR0 : Hid (rightV (K k) (N k) (T k) = false → false = okAll K N T L) := fun h => okAll_not (by simp [okV, h]) L hlt
        have HR1 : Hid (rightV (K k) (N k) (T k) = true → okAll K N T (k + 1) = true) := fun h => by rw [okAll, hok.out, okV, h]; simp at hl ⊢; exact hl
        go_wp2_with (first
          | (go_at_call 26; refine (HC.out (K k) (N k) (T k) _ ht).mono ?_; rintro e w1 ⟨rfl, hb1⟩))
        · go_ret
          exact ⟨ret_bool (HR0.out (nt ‹_›)), hbw.out.trans (hb1.mono hbw.out.size)⟩
        · go_roundw
          case rel => exact ⟨k + 1, by omega, by go_num, HR1.out (nf ‹_›), hbw.out.trans (hb1.mono hbw.out.size)⟩
          case measure => simp [intOf]; omega
    · have HR : Hid (true = okAll K N T L) := by
        have e : k = L := by omega
        subst e; exact hok.out.symm
      go_wp2
      go_ret
      exact ⟨ret_bool HR.out, hbw.out⟩
end Go.Proofs.YtmghdphafepifaaDoor
