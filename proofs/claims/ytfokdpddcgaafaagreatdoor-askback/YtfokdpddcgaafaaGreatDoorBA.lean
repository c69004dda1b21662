/- What value.Print, ask.closeness and ask.within do, said of every call. -/
import Derived.Test.YtfokdpddcgaafaaGreatDoorAZ
import Derived.Lib.ItoaLen
import Derived.Lib.QuietBelow
import Derived.BigQuiet
import Derived.Lib.AppendIntMem
namespace Go.Proofs.YtfokdpddcgaafaaGreatDoor
open Go.RowKit Go.Proofs Go.Lib Go.Proofs.YtfokdpddcgaafaaGreatDoor.Ask
open Go.Sort (grow)

def TabB (w : World) : Prop := Lib.TabIs Tryz.prog w "internal/strconv.uint64pow10" .u64 Lib.pow10Tab
theorem TabB.below {w W : World} (h : TabB w) (hb : Below w.heap.size w W) : TabB W := Lib.tabBelow_of_tabIs h W hb
theorem ret_str {a b : ByteArray} (h : a = b) : Ending.returned (.string a) = .returned (.string b) := by rw [h]
def itoaB (n : Int) : ByteArray := ⟨(Lib.itoa n).toArray⟩
def printV (k n : Int) (t : ByteArray) : ByteArray := if k = 0 then ⟨#[110, 117, 108, 108]⟩ else if k = 1 then itoaB n else if k = 2 then ⟨#[39]⟩ ++ t ++ ⟨#[39]⟩ else ⟨#[]⟩
theorem pr0 {k n : Int} {t : ByteArray} (h : (k == 0) = true) : ⟨#[110, 117, 108, 108]⟩ = printV k n t := by simp at h; subst h; rfl
theorem pr1 {k n : Int} {t : ByteArray} (h : (k == 1) = true) : itoaB n = printV k n t := by simp at h; subst h; rfl
theorem pr2 {k n : Int} {t : ByteArray} (h : (k == 2) = true) : ⟨#[39]⟩ ++ t ++ ⟨#[39]⟩ = printV k n t := by simp at h; subst h; rfl
theorem pr3 {k n : Int} {t : ByteArray} (h0 : (k == 0) = false) (h1 : (k == 1) = false) (h2 : (k == 2) = false) : ⟨#[]⟩ = printV k n t := by
  simp at h0 h1 h2; simp [printV, h0, h1, h2]
set_option maxHeartbeats 1000000 in
theorem printV_any (k n : Int) (t : ByteArray) (w : World) (ht : t.size ≤ 1000) (hn : I64 n) (htab : TabB w) :
    Calls Tryz.prog 35 #[.agg #[.int .i64 k, .int .i64 n, .string t]] w fun e w' => e = .returned (.string (printV k n t)) ∧ Below w.heap.size w w' := by
  have HT : Hid (∀ o, TabB (w.alloc o)) := fun o => htab.below ((Below.refl _ _).alloc (Nat.le_refl _) _)
  clear htab
  have HC : Hid (∀ W, TabB W → Calls Tryz.prog 55 #[.int .i64 n, .int .i64 10] W fun e w' => e = .returned (.string (itoaB n)) ∧ Below W.heap.size W w') := fun W h => (Tryz.strconv_FormatInt_10 n hn.1 hn.2 W h).mono fun _ _ ⟨he, _, _, hw⟩ => ⟨he, hw ▸ below_grow _ _ (Nat.le_refl _) _ _⟩
  have HP0 := mkH (@pr0 k n t)
  have HP1 := mkH (@pr1 k n t)
  have HP2 := mkH (@pr2 k n t)
  have HP3 := mkH (@pr3 k n t)
  clear hn
  generalize itoaB n = it at HC HP1
  generalize printV k n t = pv at *
  go_enter Tryz.func35, Tryz.ntmps35
  go_wp2_with (first
    | (go_at_call 55; refine (HC.out _ (HT.out _)).mono ?_; rintro e w1 ⟨rfl, hb1⟩))
  all_goals go_ret
  · exact ⟨ret_str (HP0.out ‹_›), (Below.refl _ _).alloc (Nat.le_refl _) _⟩
  · exact ⟨ret_str (HP1.out ‹_›), ((Below.refl _ _).alloc (Nat.le_refl _) _).trans (hb1.mono (by simp))⟩
  · exact ⟨ret_str (HP2.out ‹_›), (Below.refl _ _).alloc (Nat.le_refl _) _⟩
  · exact ⟨ret_str (HP3.out ‹_› ‹_› ‹_›), (Below.refl _ _).alloc (Nat.le_refl _) _⟩
def dcL (n : Int) : List UInt8 := Lib.itoa n
theorem bA_app (x y : List UInt8) : bA x ++ bA y = bA (x ++ y) := by
  apply ByteArray.ext
  simp [bA]
theorem printV_vl (v : Vl) : printV (vk v) (vn v) (vtx v) = bA (vx dcL v) := by
  cases v with
  | null => rfl
  | num n => rfl
  | text l =>
    show ⟨#[39]⟩ ++ bA l ++ ⟨#[39]⟩ = bA (39 :: (l ++ [39]))
    have e : (⟨#[39]⟩ : ByteArray) = bA [39] := rfl
    rw [e, bA_app, bA_app]; rfl
def cloI (c : Int) : Int := if c = 10 then 0 else if c = 9 then 1 else 2
set_option maxHeartbeats 1000000 in
theorem closeness_code (b : Nat) (c : Int) (col : ByteArray) (k n : Int) (t : ByteArray) (pl pr : Value) (w : World) (hk : w.heap[b]? = some (oCnd c col k n t pl pr)) :
    Calls Tryz.prog 54 #[.pointer (some ⟨b, 0, none⟩)] w fun e w' => e = .returned (.int .i64 (cloI c)) ∧ w' = w := by
  have c0 := cellsAt hk 0
  simp at c0
  clear hk
  by_cases h10 : c = 10
  · subst h10
    have HQ : Hid (0 = cloI 10) := rfl
    go_enter Tryz.func54, Tryz.ntmps54
    go_wp2
    go_ret
    exact ⟨ret_int HQ.out, rfl⟩
  · by_cases h9 : c = 9
    · subst h9
      have HQ : Hid (1 = cloI 9) := rfl
      go_enter Tryz.func54, Tryz.ntmps54
      go_wp2
      go_ret
      exact ⟨ret_int HQ.out, rfl⟩
    · have HQ : Hid (2 = cloI c) := by show _ = _; simp [cloI, h10, h9]
      have b10 : (c == 10) = false := by simpa using h10
      have b9 : (c == 9) = false := by simpa using h9
      go_enter Tryz.func54, Tryz.ntmps54
      go_wp2
      go_ret
      exact ⟨ret_int HQ.out, rfl⟩
/-- The code at a condition's root. -/
def rootC : Tr → Int
  | .cmp c _ _ => c
  | .isn b _ => if b then 8 else 7
  | .no _ => 11
  | .bi b _ _ => if b then 10 else 9
theorem clo_root {T : Tr} (h : VT nmL rtL I64 T) : cloI (rootC T) = (clo T : Int) := by
  cases T with
  | cmp c col v =>
    have := h.1
    have h1 : ¬ ((c : Int) = 10) := by omega
    have h2 : ¬ ((c : Int) = 9) := by omega
    simp [rootC, cloI, clo, h1, h2]
  | isn b col => cases b <;> rfl
  | no x => rfl
  | bi b x y => cases b <;> rfl
theorem InC_root {w : World} {T : Tr} {v : Value} (h : S.InC w (ctOf T) v) : ∃ b col k n t pl pr, v = .pointer (some ⟨b, 0, none⟩) ∧ w.heap[b]? = some (oCnd (rootC T) col k n t pl pr) := by
  cases T with
  | cmp c col v => obtain ⟨b, pl, pr, e, hh, _⟩ := h; exact ⟨b, _, _, _, _, pl, pr, e, hh⟩
  | isn b col => obtain ⟨b, pl, pr, e, hh, _⟩ := h; exact ⟨b, _, _, _, _, pl, pr, e, hh⟩
  | no x => obtain ⟨b, pl, pr, e, hh, _⟩ := h; exact ⟨b, _, _, _, _, pl, pr, e, hh⟩
  | bi b x y => obtain ⟨b, pl, pr, e, hh, _⟩ := h; exact ⟨b, _, _, _, _, pl, pr, e, hh⟩
theorem closeness_any (T : Tr) (v : Value) (w : World) (h : S.InC w (ctOf T) v) (hV : VT nmL rtL I64 T) :
    Calls Tryz.prog 54 #[v] w fun e w' => e = .returned (.int .i64 (clo T : Int)) ∧ w' = w := by
  obtain ⟨b, col, k, n, t, pl, pr, rfl, hk⟩ := InC_root h
  rw [← clo_root hV]
  exact closeness_code b _ col k n t pl pr w hk
/-- What is written of a condition, wherever it lies. -/
def WrOk (T : Tr) : Prop := ∀ (v : Value) (W : World), S.InC W (ctOf T) v → MkB W → TabB W → Calls Tryz.prog 17 #[v] W fun e w' => e = .returned (.string (bA (tx dcL T))) ∧ Below W.heap.size W w'
def WiOk (k : Nat) (T : Tr) : Prop := ∀ (v : Value) (W : World), S.InC W (ctOf T) v → MkB W → TabB W → Calls Tryz.prog 33 #[v, .int .i64 (k : Int)] W fun e w' => e = .returned (.string (bA (parX k T (tx dcL T)))) ∧ Below W.heap.size W w'
theorem par_str (l : List UInt8) : (⟨#[40]⟩ : ByteArray) ++ bA l ++ ⟨#[41]⟩ = bA (40 :: (l ++ [41])) := by
  have e : (⟨#[40]⟩ : ByteArray) = bA [40] := rfl
  have e2 : (⟨#[41]⟩ : ByteArray) = bA [41] := rfl
  rw [e, e2, bA_app, bA_app]; rfl
set_option maxHeartbeats 2000000 in
theorem within_of (k : Nat) (T : Tr) (hV : VT nmL rtL I64 T) (hl : (tx dcL T).length ≤ 100000) (ih : WrOk T) : WiOk k T := by
  intro v W h hm ht
  have HC := mkH (closeness_any T v W h hV)
  have HI := mkH (ih v W h hm ht)
  have hsz : (bA (tx dcL T)).size ≤ 100000 := by rw [bA_size]; exact hl
  have HPS := mkH (par_str (tx dcL T))
  clear h hm ht ih hV hl
  by_cases hc : clo T < k
  · have HQ : Hid (bA (40 :: (tx dcL T ++ [41])) = bA (parX k T (tx dcL T))) := by show _ = _; rw [parX, if_pos hc]
    have c1 : (clo T : Int) < (k : Int) := by omega
    generalize bA (parX k T (tx dcL T)) = q at *
    generalize bA (40 :: (tx dcL T ++ [41])) = q2 at *
    generalize bA (tx dcL T) = u at *
    generalize clo T = cl at *
    go_enter Tryz.func33, Tryz.ntmps33
    go_wp2_with fail
    refine HC.out.mono ?_
    rintro e w1 ⟨rfl, rfl⟩
    go_wp2_with fail
    refine HI.out.mono ?_
    rintro e w2 ⟨rfl, hb2⟩
    go_wp2
    go_ret
    exact ⟨ret_str (HPS.out.trans HQ.out), hb2⟩
  · have HQ : Hid (bA (tx dcL T) = bA (parX k T (tx dcL T))) := by show _ = _; rw [parX, if_neg hc]
    have c1 : ¬ ((clo T : Int) < (k : Int)) := by omega
    generalize bA (parX k T (tx dcL T)) = q at *
    generalize bA (tx dcL T) = u at *
    generalize clo T = cl at *
    go_enter Tryz.func33, Tryz.ntmps33
    go_wp2_with fail
    refine HC.out.mono ?_
    rintro e w1 ⟨rfl, rfl⟩
    go_wp2_with fail
    refine HI.out.mono ?_
    rintro e w2 ⟨rfl, hb2⟩
    go_wp2
    go_ret
    exact ⟨ret_str HQ.out, hb2⟩
end Go.Proofs.YtfokdpddcgaafaaGreatDoor
