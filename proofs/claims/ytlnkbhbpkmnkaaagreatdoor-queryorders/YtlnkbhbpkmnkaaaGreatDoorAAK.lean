/- What a reader's code does, said of every call. -/
import Derived.Test.YtlnkbhbpkmnkaaaGreatDoorAAD
namespace Go.Proofs.YtlnkbhbpkmnkaaaGreatDoor
open Go.RowKit Go.Proofs Go.Lib Go.Proofs.YtlnkbhbpkmnkaaaGreatDoor.Ask

def mksA : Array Value := #[.string ⟨#[60, 62]⟩, .int .i64 2, .string ⟨#[60, 61]⟩, .int .i64 4, .string ⟨#[62, 61]⟩, .int .i64 6, .string ⟨#[61]⟩, .int .i64 1, .string ⟨#[60]⟩, .int .i64 3, .string ⟨#[62]⟩, .int .i64 5, .string ⟨#[40]⟩, .int .i64 0, .string ⟨#[41]⟩, .int .i64 0, .string ⟨#[44]⟩, .int .i64 0, .string ⟨#[42]⟩, .int .i64 0]
/-- The marks, as the project's text lays them. -/
def MkB (w : World) : Prop := ∃ t fr, w.heap[1]? = some (.cells mksA t fr)
theorem MkB.below {w W : World} (h : MkB w) (hb : Below w.heap.size w W) : MkB W := by
  obtain ⟨t, fr, h⟩ := h
  exact ⟨t, fr, (hb.block _ (blk_lt h)).trans h⟩
def mks : List (List UInt8 × Nat) := [([60, 62], 2), ([60, 61], 4), ([62, 61], 6), ([61], 1), ([60], 3), ([62], 5), ([40], 0), ([41], 0), ([44], 0), ([42], 0)]
def mkT (i : Nat) : List UInt8 := (mks[i]!).1
def mkC (i : Nat) : Nat := (mks[i]!).2
theorem mix0 (w : World) : (Instr.index 206 (.agg mksA) (.int .i64 ((0 : Nat) : Int))).run Tryz.prog w = .ok (.agg #[.string (bA (mkT 0)), .int .i64 (mkC 0 : Int)]) w := by kernel_rfl
theorem mix1 (w : World) : (Instr.index 206 (.agg mksA) (.int .i64 ((1 : Nat) : Int))).run Tryz.prog w = .ok (.agg #[.string (bA (mkT 1)), .int .i64 (mkC 1 : Int)]) w := by kernel_rfl
theorem mix2 (w : World) : (Instr.index 206 (.agg mksA) (.int .i64 ((2 : Nat) : Int))).run Tryz.prog w = .ok (.agg #[.string (bA (mkT 2)), .int .i64 (mkC 2 : Int)]) w := by kernel_rfl
theorem mix3 (w : World) : (Instr.index 206 (.agg mksA) (.int .i64 ((3 : Nat) : Int))).run Tryz.prog w = .ok (.agg #[.string (bA (mkT 3)), .int .i64 (mkC 3 : Int)]) w := by kernel_rfl
theorem mix4 (w : World) : (Instr.index 206 (.agg mksA) (.int .i64 ((4 : Nat) : Int))).run Tryz.prog w = .ok (.agg #[.string (bA (mkT 4)), .int .i64 (mkC 4 : Int)]) w := by kernel_rfl
theorem mix5 (w : World) : (Instr.index 206 (.agg mksA) (.int .i64 ((5 : Nat) : Int))).run Tryz.prog w = .ok (.agg #[.string (bA (mkT 5)), .int .i64 (mkC 5 : Int)]) w := by kernel_rfl
theorem mix6 (w : World) : (Instr.index 206 (.agg mksA) (.int .i64 ((6 : Nat) : Int))).run Tryz.prog w = .ok (.agg #[.string (bA (mkT 6)), .int .i64 (mkC 6 : Int)]) w := by kernel_rfl
theorem mix7 (w : World) : (Instr.index 206 (.agg mksA) (.int .i64 ((7 : Nat) : Int))).run Tryz.prog w = .ok (.agg #[.string (bA (mkT 7)), .int .i64 (mkC 7 : Int)]) w := by kernel_rfl
theorem mix8 (w : World) : (Instr.index 206 (.agg mksA) (.int .i64 ((8 : Nat) : Int))).run Tryz.prog w = .ok (.agg #[.string (bA (mkT 8)), .int .i64 (mkC 8 : Int)]) w := by kernel_rfl
theorem mix9 (w : World) : (Instr.index 206 (.agg mksA) (.int .i64 ((9 : Nat) : Int))).run Tryz.prog w = .ok (.agg #[.string (bA (mkT 9)), .int .i64 (mkC 9 : Int)]) w := by kernel_rfl
theorem mix (i : Nat) (hi : i < 10) (w : World) : (Instr.index 206 (.agg mksA) (.int .i64 (i : Int))).run Tryz.prog w = .ok (.agg #[.string (bA (mkT i)), .int .i64 (mkC i : Int)]) w := by
  match i, hi with
  | 0, _ => exact mix0 w
  | 1, _ => exact mix1 w
  | 2, _ => exact mix2 w
  | 3, _ => exact mix3 w
  | 4, _ => exact mix4 w
  | 5, _ => exact mix5 w
  | 6, _ => exact mix6 w
  | 7, _ => exact mix7 w
  | 8, _ => exact mix8 w
  | 9, _ => exact mix9 w
theorem prefix_any (s : ByteArray) (m : List UInt8) (W : World) : Calls Tryz.prog 140 #[.string s, .string (bA m)] W fun e w' => e = .returned (.bool (hasPrefix s.data.toList m)) ∧ w' = W := by
  have := Tryz.strings_HasPrefix s (bA m) W
  rw [bA_toList] at this
  exact this
def MkPost (l : List UInt8) (w : World) (e : Ending) (w' : World) : Prop :=
  Below w.heap.size w w' ∧ ((∃ i, i < 10 ∧ (∀ j, j < i → hasPrefix l (mkT j) = false) ∧ hasPrefix l (mkT i) = true ∧ e = .returned (.tuple #[tokV 4 (bA (mkT i)) 0 (mkC i : Int), .int .i64 ((mkT i).length : Int)])) ∨ ((∀ j, j < 10 → hasPrefix l (mkT j) = false) ∧ e = .returned (.tuple #[tokV 0 ⟨#[]⟩ 0 0, .int .i64 0])))
theorem Box3.grow {w W : World} (h : Box3 w W) (o : Obj) : Box3 w (W.alloc o) := h.on ((Below.refl _ _).alloc (Nat.le_refl _) _)
set_option maxHeartbeats 8000000 in
theorem first_mark (s : ByteArray) (w : World) (hs : s.size ≤ 1000000) (hm : MkB w) (h : runL smR s.data.toList = 0) (hd : runL dgR (unB s).data.toList = 0) (hq : quB s.data.toList = false) :
    Calls Tryz.prog 102 #[.string s] w (MkPost s.data.toList w) := by
  have hs' : s.size ≤ maxLen := by unfold maxLen; omega
  have H1 := mkH (run_small s hs')
  have hu := unB_le s
  have H2 := mkH (run_digit (unB s) (Nat.le_trans hu hs'))
  have H4 := mkH (trim45 s)
  have H5 := mkH (fun W => quoted_any s W hs')
  have H6 := mkH (prefix_any s)
  have HM := mkH hm
  rw [h] at H1; rw [hd] at H2; rw [hq] at H5
  clear h hd hq hs' hm
  generalize unB s = u at *
  generalize bA (quR s.data.toList) = t at *
  generalize s.data.toList = l at *
  go_enter Tryz.func102, Tryz.ntmps102
  go_wp2_with fail
  refine (H1.out _).mono ?_
  rintro e w1 ⟨rfl, hb1⟩
  have hB1 : Hid (Box3 w w1) := (Box3.start w).on hb1
  clear hb1
  have e5 := cell_oFn hB1.out.h2
  go_wp2_with (first | (go_at_call 138; refine (H4.out _).mono ?_; rintro e w2 ⟨rfl, rfl⟩))
  refine (H2.out _).mono ?_
  rintro e w2 ⟨rfl, hb2⟩
  have hB2 : Hid (Box3 w w2) := hB1.out.on hb2
  clear hB1 hb2 e5
  go_wp2_with fail
  refine (H5.out _).mono ?_
  rintro e w3 ⟨rfl, hb3⟩
  have hB3 : Hid (Box3 w w3) := hB2.out.on hb3
  clear hB2 hb3
  obtain ⟨tt, fr, hG⟩ := HM.out.below hB3.out.low
  have HG := mkH hG
  clear hG
  have hi : (Tryz.prog.info? 206).map (·.size) = some mksA.size := by kernel_rfl
  have HI := mkH hi
  clear hi
  go_wp2_with (first | (refine wpList_load_row (P := Tryz.prog) rfl 206 (Operand.global 1) rfl 1 rfl _ _ _ _ HG.out Tryz.underlying206 rfl HI.out ?_))
  go_loopg [12, 56] 10 (fun gg _ s56 wr => ∃ kk : Nat, kk ≤ 10 ∧ 10 - kk ≤ gg ∧ s56 = .int .i64 kk ∧ Aside (Box3 w wr) ∧ Aside (∀ j, j < kk → hasPrefix l (mkT j) = false))
  case atStart => exact ⟨0, Nat.zero_le _, by omega, rfl, hB3.out, (show Aside _ from fun j hj => absurd hj (Nat.not_lt_zero _))⟩
  case round =>
    obtain ⟨kk, hkk, hgg, rfl, BX, NO⟩ := hrel
    by_cases hlt : kk < 10
    · have hltz : (kk : Int) < 10 := by omega
      have hix := mix kk hlt
      have hz : ((bA (mkT kk)).size : Int) = ((mkT kk).length : Int) := by rw [bA_size]
      cases hp : hasPrefix l (mkT kk) with
      | false =>
        have HP : Hid (∀ W, Calls Tryz.prog 140 #[.string s, .string (bA (mkT kk))] W fun e w' => e = .returned (.bool false) ∧ w' = W) := fun W => hp ▸ H6.out (mkT kk) W
        generalize hmt : bA (mkT kk) = mt at *
        go_wp2_with (first | (go_at_call 140; refine (HP.out _).mono ?_; rintro e w4 ⟨rfl, rfl⟩))
        go_roundg (10 - (kk + 1))
        case measure => omega
        case rel => exact ⟨kk + 1, by omega, by omega, by go_num, BX.out.grow _, (show Aside _ from fun j hj => by
          rcases Nat.lt_or_ge j kk with h' | h'
          · exact NO.out j h'
          · have : j = kk := by omega
            rw [this]; exact hp)⟩
      | true =>
        have HP : Hid (∀ W, Calls Tryz.prog 140 #[.string s, .string (bA (mkT kk))] W fun e w' => e = .returned (.bool true) ∧ w' = W) := fun W => hp ▸ H6.out (mkT kk) W
        generalize hmt : bA (mkT kk) = mt at *
        go_wp2_with (first | (go_at_call 140; refine (HP.out _).mono ?_; rintro e w4 ⟨rfl, rfl⟩))
        have k0 := cell_of_heap BX.out.h0 0
        have k1 := cell_of_heap BX.out.h0 1
        have k2 := cell_of_heap BX.out.h0 2
        have k3 := cell_of_heap BX.out.h0 3
        simp at k0 k1 k2 k3
        have f0 := BX.out.fro
        have hlt1 : w.heap.size < wr.heap.size := blk_lt BX.out.h0
        have hne1 : ¬ (w.heap.size = wr.heap.size) := by omega
        have hne2 : ¬ (wr.heap.size = w.heap.size) := by omega
        go_region
        go_wp2
        have hbl := (BX.out.low4 (.int .i64 4) (.string mt) (.int .i64 0) (.int .i64 (mkC kk : Int))).alloc (by simp; omega) (.cells #[.string mt, .int .i64 (mkC kk : Int)] 205)
        exact bodyPost_ret (v := .tuple #[tokV 4 mt 0 (mkC kk : Int), .int .i64 ((mkT kk).length : Int)]) (by simp [results, Tryz.results102, go_sem, k0, k1, k2, k3, tokV, hlt1]) rfl ⟨below_drewN' hbl 1, .inl ⟨kk, hlt, NO.out, hp, by rw [hmt]⟩⟩
    · have hltz : ¬ (kk : Int) < 10 := by omega
      have k0 := cell_of_heap BX.out.h0 0
      have k1 := cell_of_heap BX.out.h0 1
      have k2 := cell_of_heap BX.out.h0 2
      have k3 := cell_of_heap BX.out.h0 3
      simp at k0 k1 k2 k3
      have f0 := BX.out.fro
      have hk : kk = 10 := by omega
      subst hk
      go_wp2
      exact bodyPost_ret (v := .tuple #[tokV 0 ⟨#[]⟩ 0 0, .int .i64 0]) (by simp [results, Tryz.results102, go_sem, k0, k1, k2, k3, tokV]) rfl ⟨BX.out.low4 _ _ _ _, .inr ⟨NO.out, rfl⟩⟩
end Go.Proofs.YtlnkbhbpkmnkaaaGreatDoor
namespace Go.Proofs.YtlnkbhbpkmnkaaaGreatDoor
open Go.RowKit Go.Proofs Go.Lib Go.Proofs.YtlnkbhbpkmnkaaaGreatDoor.Ask

theorem run_t {p : Nat → Bool} {b : UInt8} {r : List UInt8} (h : p b.toNat = true) : runL p (b :: r) = runL p r + 1 := by simp [runL, h]
theorem run_f {p : Nat → Bool} {b : UInt8} {r : List UInt8} (h : p b.toNat = false) : runL p (b :: r) = 0 := by simp [runL, h]
theorem take_run {q : UInt8 → Bool} (l : List UInt8) : l.take (l.takeWhile q).length = l.takeWhile q := by
  induction l with
  | nil => rfl
  | cons b l ih => rw [List.takeWhile_cons]; split <;> simp [ih]
theorem len_run {q : UInt8 → Bool} (l : List UInt8) : (l.takeWhile q).length + (l.dropWhile q).length = l.length := by
  induction l with
  | nil => rfl
  | cons b l ih => rw [List.takeWhile_cons, List.dropWhile_cons]; split <;> simp; omega
theorem trim_yes (r : List UInt8) (c : UInt8) : trimPrefix (c :: r) [c] = r := by simp [trimPrefix, hasPrefix, List.isPrefixOf]
theorem trim_no {b c : UInt8} (r : List UInt8) (h : b ≠ c) : trimPrefix (b :: r) [c] = b :: r := by
  have : ¬ (c = b) := fun e => h e.symm
  simp [trimPrefix, hasPrefix, List.isPrefixOf, this]
theorem cut_take : ∀ {r : List UInt8}, (39 : UInt8) ∈ r → (cutL 39 r).1 = r.takeWhile notQ ∧ (cutL 39 r).2.2 = true
  | [], h => by cases h
  | b :: r, h => by
    unfold cutL
    by_cases hb : b = 39
    · subst hb; simp [notQ]
    · rw [if_neg hb]
      have hr : (39 : UInt8) ∈ r := by
        cases h with
        | head => exact absurd rfl hb
        | tail _ h => exact h
      obtain ⟨h1, h2⟩ := cut_take hr
      have hq : notQ b = true := by simp [notQ, hb]
      simp [hq, h1, h2]
theorem drop_q {r : List UInt8} (h : (39 : UInt8) ∈ r) : ((r.dropWhile notQ).drop 1).length + 1 + (r.takeWhile notQ).length = r.length := by
  have := len_run (q := notQ) r
  have h0 : 0 < (r.dropWhile notQ).length := by
    induction r with
    | nil => cases h
    | cons b r ih =>
      by_cases hb : b = 39
      · subst hb; simp [notQ]
      · have hq : notQ b = true := by simp [notQ, hb]
        rw [List.dropWhile_cons, if_pos hq]
        cases h with
        | head => exact absurd rfl hb
        | tail _ h => exact ih h (len_run r)
  rw [List.length_drop]; omega
theorem pre_split {l m : List UInt8} (h : hasPrefix l m = true) : ∃ r, l = m ++ r := by
  obtain ⟨r, hr⟩ := List.isPrefixOf_iff_prefix.mp h
  exact ⟨r, hr.symm⟩
theorem mark_yes {l : List UInt8} {i : Nat} (hi : i < 10) (hn : ∀ j, j < i → hasPrefix l (mkT j) = false) (hy : hasPrefix l (mkT i) = true) : ∃ r, markF l = some (tM (mkT i) (mkC i), r) ∧ l.length - r.length = (mkT i).length := by
  obtain ⟨r, rfl⟩ := pre_split hy
  refine ⟨r, ?_, by simp⟩
  match i, hi with
  | 0, _ => rfl
  | 1, _ => rfl
  | 2, _ => rfl
  | 3, _ => rfl
  | 4, _ =>
    cases r with
    | nil => rfl
    | cons c r =>
      have h0 := hn 0 (by omega)
      have h1 := hn 1 (by omega)
      simp [mkT, mks, hasPrefix, List.isPrefixOf] at h0 h1
      show markF (60 :: c :: r) = _
      unfold markF
      split <;> simp_all [mkT, mkC, mks]
  | 5, _ =>
    cases r with
    | nil => rfl
    | cons c r =>
      have h2 := hn 2 (by omega)
      simp [mkT, mks, hasPrefix, List.isPrefixOf] at h2
      show markF (62 :: c :: r) = _
      unfold markF
      split <;> simp_all [mkT, mkC, mks]
  | 6, _ => rfl
  | 7, _ => rfl
  | 8, _ => rfl
  | 9, _ => rfl
theorem mark_no {l : List UInt8} (hn : ∀ j, j < 10 → hasPrefix l (mkT j) = false) : markF l = none := by
  have h0 := hn 0 (by omega)
  have h1 := hn 1 (by omega)
  have h2 := hn 2 (by omega)
  have h3 := hn 3 (by omega)
  have h4 := hn 4 (by omega)
  have h5 := hn 5 (by omega)
  have h6 := hn 6 (by omega)
  have h7 := hn 7 (by omega)
  have h8 := hn 8 (by omega)
  have h9 := hn 9 (by omega)
  unfold markF
  split <;> simp_all [mkT, mks, hasPrefix, List.isPrefixOf]
/-- What comes of ask.first. -/
def FPost (l : List UInt8) (w : World) (e : Ending) (w' : World) : Prop :=
  Below w.heap.size w w' ∧ match first1 l with
    | some (t, r) => e = .returned (.tuple #[tokV t.kind (bA t.text) 0 t.code, .int .i64 ((l.length - r.length : Nat) : Int)])
    | none => e = .returned (.tuple #[tokV 0 ⟨#[]⟩ 0 0, .int .i64 0])
theorem ext_take (s : ByteArray) (n : Nat) : s.extract 0 n = bA (s.data.toList.take n) := by
  rw [extract_eq]; rfl
theorem first_any (s : ByteArray) (w : World) (hs : s.size ≤ 1000000) (hm : MkB w) (h0 : 0 < s.size) : Calls Tryz.prog 102 #[.string s] w (FPost s.data.toList w) := by
  have hs' : s.size ≤ maxLen := by unfold maxLen; omega
  have hsz := size_eq s
  obtain ⟨l, hl⟩ : ∃ l, s.data.toList = l := ⟨_, rfl⟩
  have hbl : bA l = s := by rw [← hl]; exact bA_list s
  cases l with
  | nil => rw [hl] at hsz; rw [hsz] at h0; cases h0
  | cons b r =>
    have hfw := first_word s w hs'
    have hfn := first_num s w hs'
    have hft := first_text s w hs
    have hfm := first_mark s w hs hm
    simp only [ext_take, unB] at hfw hfn hft hfm
    rw [hl] at hfw hfn hft hfm hsz ⊢
    simp only [bA_toList, bA_size] at hfn hft hfm
    unfold FPost
    simp only [first1]
    by_cases h1 : isSm b = true
    · rw [if_pos h1]
      have hw : wcR b.toNat = true := by
        have : smR b.toNat = true := h1
        simp [wcR, this]
      have e1 : runL wcR (b :: r) = (r.takeWhile isWc).length + 1 := run_t hw
      have hpos : 0 < runL smR (b :: r) := by rw [run_t h1]; omega
      refine (hfw hpos).mono ?_
      rintro e w' ⟨rfl, hb⟩
      refine ⟨hb, ?_⟩
      have e2 : (b :: r).length - (r.dropWhile isWc).length = (r.takeWhile isWc).length + 1 := by
        have := len_run (q := isWc) r
        simp only [List.length_cons]; omega
      dsimp only
      rw [e1, e2, List.take_succ_cons, take_run]
      rfl
    · rw [if_neg h1]
      have h1' : smR b.toNat = false := by
        have : isSm b = false := by simpa using h1
        exact this
      have z1 : runL smR (b :: r) = 0 := run_f h1'
      by_cases h2 : isDg b = true
      · rw [if_pos h2]
        have hne : b ≠ 45 := fun e => by subst e; exact absurd h2 (by decide)
        rw [trim_no r hne] at hfn
        have e1 : runL dgR (b :: r) = (r.takeWhile isDg).length + 1 := run_t h2
        refine (hfn z1 (by rw [e1]; omega)).mono ?_
        rintro e w' ⟨rfl, hb⟩
        refine ⟨hb, ?_⟩
        have e2 : (b :: r).length - (r.dropWhile isDg).length = (r.takeWhile isDg).length + 1 := by
          have := len_run (q := isDg) r
          simp only [List.length_cons]; omega
        dsimp only
        rw [e1, e2, hsz, Nat.sub_self, Nat.add_zero, List.take_succ_cons, take_run]
        rfl
      · rw [if_neg h2]
        have h2' : dgR b.toNat = false := by
          have : isDg b = false := by simpa using h2
          exact this
        by_cases h3 : b = 45 ∧ r.takeWhile isDg ≠ []
        · rw [if_pos h3]
          obtain ⟨rfl, h3⟩ := h3
          rw [trim_yes] at hfn
          have e1 : runL dgR r = (r.takeWhile isDg).length := rfl
          have hp : 0 < (r.takeWhile isDg).length := List.length_pos_iff.mpr h3
          refine (hfn z1 (by rw [e1]; exact hp)).mono ?_
          rintro e w' ⟨rfl, hb⟩
          refine ⟨hb, ?_⟩
          have e2 : (45 :: r : List UInt8).length - (r.dropWhile isDg).length = (r.takeWhile isDg).length + 1 := by
            have := len_run (q := isDg) r
            simp only [List.length_cons]; omega
          have e3 : s.size - r.length = 1 := by rw [hsz]; simp
          dsimp only
          rw [e1, e2, e3, List.take_succ_cons, take_run]
          rfl
        · rw [if_neg h3]
          have z2 : runL dgR (trimPrefix (b :: r) [45]) = 0 := by
            by_cases hb : b = 45
            · subst hb
              rw [trim_yes]
              have : r.takeWhile isDg = [] := Classical.byContradiction fun h => h3 ⟨rfl, h⟩
              show (r.takeWhile isDg).length = 0
              rw [this]; rfl
            · rw [trim_no r hb]; exact run_f h2'
          by_cases h4 : b = 39 ∧ (39 : UInt8) ∈ r
          · rw [if_pos h4]
            obtain ⟨rfl, h4⟩ := h4
            obtain ⟨q1, q2⟩ := cut_take h4
            have hq : quB (39 :: r) = true := by
              unfold quB; rw [trim_yes, q2]; simp [hasPrefix, List.isPrefixOf]
            have hr : quR (39 :: r) = r.takeWhile notQ := by unfold quR; rw [trim_yes, q1]
            refine (hft z1 z2 hq).mono ?_
            rintro e w' ⟨rfl, hb⟩
            refine ⟨hb, ?_⟩
            have := drop_q h4
            have e2 : (39 :: r : List UInt8).length - ((r.dropWhile notQ).drop 1).length = (r.takeWhile notQ).length + 2 := by
              simp only [List.length_cons]; omega
            dsimp only
            rw [e2, hr]
            rfl
          · rw [if_neg h4]
            have hq : quB (b :: r) = false := by
              unfold quB
              by_cases hb : b = 39
              · subst hb
                have hm : (39 : UInt8) ∉ r := fun h => h4 ⟨rfl, h⟩
                rw [trim_yes, cutL_miss hm]; simp
              · have : ¬ ((39 : UInt8) = b) := fun e => hb e.symm
                simp [hasPrefix, List.isPrefixOf, this]
            refine (hfm z1 z2 hq).mono ?_
            rintro e w' ⟨hb, hk⟩
            refine ⟨hb, ?_⟩
            cases hk with
            | inl h =>
              obtain ⟨i, hi, hn, hy, rfl⟩ := h
              obtain ⟨r', hm', hle⟩ := mark_yes hi hn hy
              rw [hm']
              dsimp only
              rw [hle]
              rfl
            | inr h =>
              obtain ⟨hn, rfl⟩ := h
              rw [mark_no hn]
end Go.Proofs.YtlnkbhbpkmnkaaaGreatDoor
namespace Go.Proofs.YtlnkbhbpkmnkaaaGreatDoor
open Go.RowKit Go.Proofs Go.Lib Go.Proofs.YtlnkbhbpkmnkaaaGreatDoor.Ask

theorem mk_of {c i : Nat} (h1 : 1 ≤ c) (hi : i < 10) (h : mkC i = c) : mkT i = mk c := by
  match i, hi with
  | 0, _ => subst h; rfl
  | 1, _ => subst h; rfl
  | 2, _ => subst h; rfl
  | 3, _ => subst h; rfl
  | 4, _ => subst h; rfl
  | 5, _ => subst h; rfl
  | 6, _ => exact absurd h (by show ¬ (0 = c); omega)
  | 7, _ => exact absurd h (by show ¬ (0 = c); omega)
  | 8, _ => exact absurd h (by show ¬ (0 = c); omega)
  | 9, _ => exact absurd h (by show ¬ (0 = c); omega)
theorem mk_has {c : Nat} (h1 : 1 ≤ c) (h6 : c ≤ 6) (hn : ∀ j, j < 10 → mkC j ≠ c) : False := by
  have : c = 1 ∨ c = 2 ∨ c = 3 ∨ c = 4 ∨ c = 5 ∨ c = 6 := by omega
  rcases this with e | e | e | e | e | e <;> subst e
  · exact hn 3 (by omega) rfl
  · exact hn 0 (by omega) rfl
  · exact hn 4 (by omega) rfl
  · exact hn 1 (by omega) rfl
  · exact hn 5 (by omega) rfl
  · exact hn 2 (by omega) rfl
end Go.Proofs.YtlnkbhbpkmnkaaaGreatDoor
namespace Go.Proofs.YtlnkbhbpkmnkaaaGreatDoor
open Go.RowKit Go.Proofs Go.Lib Go.Proofs.YtlnkbhbpkmnkaaaGreatDoor.Ask

def endT : Tok := ⟨0, [], 0⟩
/-- A token lies in four cells of a block of tokens (where it stands in the text is whatever). -/
def TokC (W : World) (g o : Nat) (t : Tok) : Prop := ∃ (p : Int) (cs : Array Value), W.heap[g]? = some (.cells cs 164) ∧ cs[o]? = some (.int .i64 (t.kind : Int)) ∧ cs[o + 1]? = some (.string (bA t.text)) ∧ cs[o + 2]? = some (.int .i64 p) ∧ cs[o + 3]? = some (.int .i64 (t.code : Int))
theorem cellsAt {w : World} {b : Nat} {cs : Array Value} {t : TypeId} (h : w.heap[b]? = some (.cells cs t)) (i : Nat) : w.cell? ⟨b, i, none⟩ = cs[i]? := by
  simp [World.cell?, h]
theorem TokC.cells {W : World} {g o : Nat} {t : Tok} (h : TokC W g o t) : ∃ p : Int, W.cell? ⟨g, o, none⟩ = some (.int .i64 (t.kind : Int)) ∧ W.cell? ⟨g, o + 1, none⟩ = some (.string (bA t.text)) ∧ W.cell? ⟨g, o + 2, none⟩ = some (.int .i64 p) ∧ W.cell? ⟨g, o + 3, none⟩ = some (.int .i64 (t.code : Int)) := by
  obtain ⟨p, cs, hk, h0, h1, h2, h3⟩ := h
  exact ⟨p, (cellsAt hk _).trans h0, (cellsAt hk _).trans h1, (cellsAt hk _).trans h2, (cellsAt hk _).trans h3⟩
/-- Tokens lie side by side, and behind them that of the text's end. -/
def Lies (W : World) (g : Nat) : Nat → List Tok → Prop
  | o, [] => TokC W g o endT
  | o, t :: ts => TokC W g o t ∧ Lies W g (o + 4) ts
def hdTok : List Tok → Tok
  | [] => endT
  | t :: _ => t
theorem Lies.head {W : World} {g o : Nat} {ts : List Tok} (h : Lies W g o ts) : TokC W g o (hdTok ts) := by
  cases ts with
  | nil => exact h
  | cons t ts => exact h.1
theorem TokC.same {W V : World} {g o : Nat} {t : Tok} (h : TokC W g o t) (hb : V.heap[g]? = W.heap[g]?) : TokC V g o t := by
  obtain ⟨p, cs, hk, h0⟩ := h
  exact ⟨p, cs, hb.trans hk, h0⟩
theorem Lies.same {W V : World} {g : Nat} (hb : V.heap[g]? = W.heap[g]?) : ∀ {o : Nat} {ts : List Tok}, Lies W g o ts → Lies V g o ts
  | _, [], h => TokC.same h hb
  | _, _ :: _, h => ⟨h.1.same hb, Lies.same hb h.2⟩
set_option maxHeartbeats 2000000 in
set_option maxRecDepth 100000 in
theorem token_any (B g o n c : Nat) (ts : List Tok) (w : World) (hB : w.cell? ⟨B, 0, none⟩ = some (.slice (some ⟨g, o, none⟩) (n + 1) c)) (hl : Lies w g o ts) :
    Calls Tryz.prog 104 #[.pointer (some ⟨B, 0, none⟩)] w fun e w' => (∃ p : Int, e = .returned (tokV (hdTok ts).kind (bA (hdTok ts).text) p (hdTok ts).code)) ∧ Below w.heap.size w w' := by
  obtain ⟨p, h0, h1, h2, h3⟩ := hl.head.cells
  have hBl : B < w.heap.size := Lib.lt_of_cell hB
  have hgl : g < w.heap.size := Lib.lt_of_cell h0
  clear hl
  generalize (hdTok ts).kind = k at *
  generalize bA (hdTok ts).text = t at *
  generalize (hdTok ts).code = cd at *
  go_enter Tryz.func104, Tryz.ntmps104
  go_wp2
  exact bodyPost_ret (v := tokV k t p cd) (by simp [results, Tryz.results104, go_sem, tokV]) rfl ⟨⟨p, rfl⟩, (Below.refl _ _).alloc (Nat.le_refl _) _⟩
set_option maxHeartbeats 2000000 in
set_option maxRecDepth 100000 in
/-- At the end: nothing is gone past. -/
theorem pass_end (B g o c : Nat) (w : World) (hB : w.cell? ⟨B, 0, none⟩ = some (.slice (some ⟨g, o, none⟩) 1 c)) :
    Calls Tryz.prog 106 #[.pointer (some ⟨B, 0, none⟩)] w fun e w' => e = .returned (.tuple #[]) ∧ w' = w := by
  go_enter Tryz.func106, Tryz.ntmps106
  go_wp2
  go_end0
  exact ⟨rfl, rfl⟩
set_option maxHeartbeats 2000000 in
set_option maxRecDepth 100000 in
theorem pass_on (B g o n c : Nat) (w : World) (hB : w.cell? ⟨B, 0, none⟩ = some (.slice (some ⟨g, o, none⟩) (n + 2) c)) (hf : w.frozen? ⟨B, 0, none⟩ = false) (hn : n ≤ 1000) (hc : n + 2 ≤ c) :
    Calls Tryz.prog 106 #[.pointer (some ⟨B, 0, none⟩)] w fun e w' => e = .returned (.tuple #[]) ∧ w' = w.setCell ⟨B, 0, none⟩ (.slice (some ⟨g, o + 4, none⟩) (n + 1) (c - 1)) := by
  have c1 : (1 : Int) < ((n + 2 : Nat) : Int) := by omega
  have c2 : (1 : Int) ≤ ((n + 2 : Nat) : Int) := by omega
  go_enter Tryz.func106, Tryz.ntmps106
  go_wp2
  go_end0
  exact ⟨rfl, rfl⟩
/-- A reader, and what lies before it. -/
structure Rd (W : World) (B : Nat) (ts : List Tok) : Prop where
  it : ∃ g o c, W.cell? ⟨B, 0, none⟩ = some (.slice (some ⟨g, o, none⟩) (ts.length + 1) c) ∧ ts.length + 1 ≤ c ∧ g ≠ B ∧ Lies W g o ts
  fro : W.frozen? ⟨B, 0, none⟩ = false
theorem Rd.lt {W : World} {B : Nat} {ts : List Tok} (h : Rd W B ts) : B < W.heap.size := by
  obtain ⟨g, o, c, h1, _⟩ := h.it
  exact Lib.lt_of_cell h1
theorem Rd.up {W V : World} {B : Nat} {ts : List Tok} (h : Rd W B ts) (hb : Below W.heap.size W V) : Rd V B ts := by
  obtain ⟨g, o, c, h1, h2, h3, h4⟩ := h.it
  have hg : g < W.heap.size := by
    obtain ⟨p, q, _⟩ := h4.head.cells
    exact Lib.lt_of_cell q
  have hB := h.lt
  refine ⟨⟨g, o, c, (hb.cell (p := ⟨B, 0, none⟩) hB).trans h1, h2, h3, h4.same (hb.block g hg)⟩, ?_⟩
  have := h.fro
  simp only [World.frozen?] at this ⊢
  rw [hb.block _ hB]; exact this
theorem Rd.on {W : World} {B : Nat} {t : Tok} {ts : List Tok} {g o c : Nat} (h1 : W.cell? ⟨B, 0, none⟩ = some (.slice (some ⟨g, o, none⟩) (ts.length + 1 + 1) c)) (hf : W.frozen? ⟨B, 0, none⟩ = false) (h2 : ts.length + 1 + 1 ≤ c) (h3 : g ≠ B) (h4 : Lies W g o (t :: ts)) : Rd (W.setCell ⟨B, 0, none⟩ (.slice (some ⟨g, o + 4, none⟩) (ts.length + 1) (c - 1))) B ts where
  it := ⟨g, o + 4, c - 1, World.cell?_setCell_same' _ _ _ (by rw [h1]; rfl), by omega, h3, h4.2.same (Below.heap_setCell W ⟨B, 0, none⟩ _ g h3)⟩
  fro := by rw [World.frozen?_setCell]; exact hf
/-- pass: one token less, or at the end the same. -/
theorem pass_any (B : Nat) (ts : List Tok) (w : World) (hr : Rd w B ts) (hn : ts.length ≤ 1000) :
    Calls Tryz.prog 106 #[.pointer (some ⟨B, 0, none⟩)] w fun e w' => e = .returned (.tuple #[]) ∧ Rd w' B (ts.drop 1) ∧ Below B w w' := by
  obtain ⟨g, o, c, h1, h2, h3, h4⟩ := hr.it
  cases ts with
  | nil =>
    refine (pass_end B g o c w h1).mono ?_
    rintro e w' ⟨rfl, rfl⟩
    exact ⟨rfl, hr, Below.refl _ _⟩
  | cons t ts =>
    refine (pass_on B g o ts.length c w h1 hr.fro (by simp at hn; omega) (by simpa using h2)).mono ?_
    rintro e w' ⟨rfl, rfl⟩
    exact ⟨rfl, Rd.on h1 hr.fro (by simpa using h2) h3 h4, Below.setCell (p := ⟨B, 0, none⟩) (Below.refl B w) (Nat.le_refl _) _⟩
end Go.Proofs.YtlnkbhbpkmnkaaaGreatDoor
namespace Go.Proofs.YtlnkbhbpkmnkaaaGreatDoor
open Go.RowKit Go.Proofs Go.Lib Go.Proofs.YtlnkbhbpkmnkaaaGreatDoor.Ask

/-- Nothing but the reader's one cell is changed. -/
structure Past (B : Nat) (w W : World) : Prop where
  low : Below B w W
  keep : ∀ b, b < w.heap.size → b ≠ B → W.heap[b]? = w.heap[b]?
theorem Past.refl (B : Nat) (w : World) : Past B w w := ⟨Below.refl _ _, fun _ _ _ => rfl⟩
theorem Past.trans {B : Nat} {w W V : World} (h : Past B w W) (h' : Past B W V) : Past B w V :=
  ⟨h.low.trans h'.low, fun b hb hn => (h'.keep b (Nat.lt_of_lt_of_le hb h.low.size) hn).trans (h.keep b hb hn)⟩
theorem Past.of {B : Nat} {w W : World} (hB : B ≤ w.heap.size) (h : Below w.heap.size w W) : Past B w W :=
  ⟨h.mono hB, fun b hb _ => h.block b hb⟩
theorem pass_past (B : Nat) (ts : List Tok) (w : World) (hr : Rd w B ts) (hn : ts.length ≤ 1000) :
    Calls Tryz.prog 106 #[.pointer (some ⟨B, 0, none⟩)] w fun e w' => e = .returned (.tuple #[]) ∧ Rd w' B (ts.drop 1) ∧ Past B w w' := by
  obtain ⟨g, o, c, h1, h2, h3, h4⟩ := hr.it
  cases ts with
  | nil =>
    refine (pass_end B g o c w h1).mono ?_
    rintro e w' ⟨rfl, rfl⟩
    exact ⟨rfl, hr, Past.refl _ _⟩
  | cons t ts =>
    refine (pass_on B g o ts.length c w h1 hr.fro (by simp at hn; omega) (by simpa using h2)).mono ?_
    rintro e w' ⟨rfl, rfl⟩
    exact ⟨rfl, Rd.on h1 hr.fro (by simpa using h2) h3 h4, Below.setCell (p := ⟨B, 0, none⟩) (Below.refl B w) (Nat.le_refl _) _, fun b _ hb => Below.heap_setCell w ⟨B, 0, none⟩ _ b hb⟩
theorem token_rd (B : Nat) (ts : List Tok) (w : World) (hr : Rd w B ts) :
    Calls Tryz.prog 104 #[.pointer (some ⟨B, 0, none⟩)] w fun e w' => (∃ p : Int, e = .returned (tokV (hdTok ts).kind (bA (hdTok ts).text) p (hdTok ts).code)) ∧ Below w.heap.size w w' := by
  obtain ⟨g, o, c, h1, _, _, h4⟩ := hr.it
  exact token_any B g o ts.length c ts w h1 h4
def TkPost (B k : Nat) (x : List UInt8) (ts : List Tok) (w : World) (e : Ending) (w' : World) : Prop :=
  Past B w w' ∧ ((isT k x (hdTok ts) = true ∧ e = .returned (.bool true) ∧ Rd w' B (ts.drop 1)) ∨ (isT k x (hdTok ts) = false ∧ e = .returned (.bool false) ∧ Rd w' B ts))
set_option maxHeartbeats 4000000 in
set_option maxRecDepth 100000 in
theorem takes_any (B k : Nat) (x : List UInt8) (ts : List Tok) (w : World) (hr : Rd w B ts) (hn : ts.length ≤ 1000) :
    Calls Tryz.prog 66 #[.pointer (some ⟨B, 0, none⟩), .int .i64 (k : Int), .string (bA x)] w (TkPost B k x ts w) := by
  have HT := mkH (token_rd B ts w hr)
  have HU : Hid (∀ V o, Below w.heap.size w V → Rd (V.alloc o) B ts ∧ Below w.heap.size w (V.alloc o)) := fun V o hb =>
    have hb' := hb.alloc hb.size o
    ⟨hr.up hb', hb'⟩
  have HP : Hid (∀ V, Rd V B ts → Calls Tryz.prog 106 #[.pointer (some ⟨B, 0, none⟩)] V fun e w' => e = .returned (.tuple #[]) ∧ Rd w' B (ts.drop 1) ∧ Past B V w') := fun V h => pass_past B ts V h hn
  have HB : Hid (B ≤ w.heap.size) := Nat.le_of_lt hr.lt
  have HI : Hid (isT k x (hdTok ts) = (decide ((hdTok ts).kind = k) && decide ((hdTok ts).text = x))) := rfl
  clear hr hn
  unfold TkPost
  generalize isT k x (hdTok ts) = q at *
  generalize (hdTok ts).kind = tk at *
  generalize (hdTok ts).text = tt at *
  generalize (hdTok ts).code = tc at *
  by_cases h1 : tk = k
  · subst h1
    by_cases h2 : tt = x
    · subst h2
      have hq : q = true := by rw [HI.out]; simp
      subst hq
      go_enter Tryz.func66, Tryz.ntmps66
      go_wp2_with (first
        | (go_at_call 104; refine HT.out.mono ?_; rintro e w1 ⟨⟨p, rfl⟩, hb1⟩; unfold tokV)
        | (go_at_call 106; refine (HP.out _ (HU.out _ _ hb1).1).mono ?_; rintro e w2 ⟨rfl, hr2, hp2⟩))
      all_goals go_ret
      exact ⟨(Past.of HB.out (HU.out _ _ hb1).2).trans hp2, .inl ⟨trivial, rfl, hr2⟩⟩
    · have hq : q = false := by rw [HI.out]; simp [h2]
      subst hq
      have h3 : ¬ ((bA tt).toList = (bA x).toList) := fun e => h2 (by rw [ByteArray.toList_eq, ByteArray.toList_eq, bA_toList, bA_toList] at e; exact e)
      have h4 : ((bA tt).toList == (bA x).toList) = false := by simpa using h3
      go_enter Tryz.func66, Tryz.ntmps66
      go_wp2_with (first
        | (go_at_call 104; refine HT.out.mono ?_; rintro e w1 ⟨⟨p, rfl⟩, hb1⟩; unfold tokV))
      all_goals go_ret
      exact ⟨Past.of HB.out (HU.out _ _ hb1).2, .inr ⟨trivial, rfl, (HU.out _ _ hb1).1⟩⟩
  · have hq : q = false := by rw [HI.out]; simp [h1]
    subst hq
    have h3 : ¬ ((tk : Int) = (k : Int)) := by omega
    go_enter Tryz.func66, Tryz.ntmps66
    go_wp2_with (first
      | (go_at_call 104; refine HT.out.mono ?_; rintro e w1 ⟨⟨p, rfl⟩, hb1⟩; unfold tokV))
    all_goals go_ret
    exact ⟨Past.of HB.out (HU.out _ _ hb1).2, .inr ⟨trivial, rfl, (HU.out _ _ hb1).1⟩⟩
end Go.Proofs.YtlnkbhbpkmnkaaaGreatDoor
namespace Go.Proofs.YtlnkbhbpkmnkaaaGreatDoor
open Go.RowKit Go.Proofs Go.Lib Go.Proofs.YtlnkbhbpkmnkaaaGreatDoor.Ask

def NdPost (B k : Nat) (x : List UInt8) (ts : List Tok) (w : World) (e : Ending) (w' : World) : Prop :=
  Past B w w' ∧ ((isT k x (hdTok ts) = true ∧ e = .returned (.tuple #[]) ∧ Rd w' B (ts.drop 1)) ∨ (isT k x (hdTok ts) = false ∧ Thrown e))
theorem Past.up {B : Nat} {w W V : World} (h : Past B w W) (hB : B ≤ W.heap.size) (hb : Below W.heap.size W V) : Past B w V := h.trans (Past.of hB hb)
theorem fld2 (a b c d : Value) (w : World) : (Instr.field 164 (.agg #[a, b, c, d]) 2).run Tryz.prog w = .ok c w := by kernel_rfl
set_option maxHeartbeats 4000000 in
set_option maxRecDepth 100000 in
theorem needs_any (B k : Nat) (x : List UInt8) (ts : List Tok) (w : World) (hr : Rd w B ts) (hn : ts.length ≤ 1000) :
    Calls Tryz.prog 63 #[.pointer (some ⟨B, 0, none⟩), .int .i64 (k : Int), .string (bA x)] w (NdPost B k x ts w) := by
  have HT := mkH (takes_any B k x ts w hr hn)
  have HK : Hid (∀ V, Rd V B ts → Calls Tryz.prog 104 #[.pointer (some ⟨B, 0, none⟩)] V fun e w' => (∃ p : Int, e = .returned (tokV (hdTok ts).kind (bA (hdTok ts).text) p (hdTok ts).code)) ∧ Below V.heap.size V w') := fun V h => token_rd B ts V h
  have HW := mkH throw_any
  clear hr hn
  unfold TkPost at HT
  unfold NdPost
  generalize isT k x (hdTok ts) = q at *
  generalize (hdTok ts).kind = tk at *
  generalize (hdTok ts).text = tt at *
  generalize (hdTok ts).code = tc at *
  cases q with
  | true =>
    go_enter Tryz.func63, Tryz.ntmps63
    go_wp2_with (first
      | (go_at_call 66; refine HT.out.mono ?_; rintro e w1 ⟨hp1, ⟨_, rfl, hr1⟩ | ⟨h, _⟩⟩))
    all_goals first
      | (go_end0; exact ⟨hp1, .inl ⟨trivial, rfl, hr1⟩⟩)
      | (exfalso; cases h)
  | false =>
    go_enter Tryz.func63, Tryz.ntmps63
    go_wp2_with fail
    refine HT.out.mono ?_
    rintro e w1 ⟨hp1, ⟨h, _⟩ | ⟨_, rfl, hr1⟩⟩
    · cases h
    go_wp2_with fail
    refine (HK.out _ hr1).mono ?_
    rintro e w2 ⟨⟨p, rfl⟩, hb2⟩
    unfold tokV
    have hfl := fld2
    go_wp2_with fail
    refine (HW.out _ _ _).mono ?_
    rintro e w3 ⟨⟨a, rfl⟩, hb3⟩
    have hB1 : B ≤ w1.heap.size := Nat.le_of_lt hr1.lt
    have hB2 : B ≤ w2.heap.size := Nat.le_trans hB1 hb2.size
    exact ⟨rfl, (hp1.up hB1 hb2).up hB2 hb3, .inr ⟨trivial, _, rfl⟩⟩
end Go.Proofs.YtlnkbhbpkmnkaaaGreatDoor
namespace Go.Proofs.YtlnkbhbpkmnkaaaGreatDoor
open Go.RowKit Go.Proofs Go.Lib Go.Proofs.YtlnkbhbpkmnkaaaGreatDoor.Ask

def CdPost (B : Nat) (ts : List Tok) (w : World) (e : Ending) (w' : World) : Prop :=
  Past B w w' ∧ (((hdTok ts).code ≠ 0 ∧ e = .returned (.int .i64 ((hdTok ts).code : Int)) ∧ Rd w' B (ts.drop 1)) ∨ ((hdTok ts).code = 0 ∧ Thrown e))
set_option maxHeartbeats 4000000 in
set_option maxRecDepth 100000 in
theorem code_any (B : Nat) (ts : List Tok) (w : World) (hr : Rd w B ts) (hn : ts.length ≤ 1000) :
    Calls Tryz.prog 183 #[.pointer (some ⟨B, 0, none⟩)] w (CdPost B ts w) := by
  have HT := mkH (token_rd B ts w hr)
  have HU : Hid (∀ V o, Below w.heap.size w V → Rd (V.alloc o) B ts ∧ Below w.heap.size w (V.alloc o)) := fun V o hb =>
    have hb' := hb.alloc hb.size o
    ⟨hr.up hb', hb'⟩
  have HP : Hid (∀ V, Rd V B ts → Calls Tryz.prog 106 #[.pointer (some ⟨B, 0, none⟩)] V fun e w' => e = .returned (.tuple #[]) ∧ Rd w' B (ts.drop 1) ∧ Past B V w') := fun V h => pass_past B ts V h hn
  have HB : Hid (B < w.heap.size) := hr.lt
  have HW := mkH throw_any
  clear hr hn
  unfold CdPost
  generalize (hdTok ts).kind = tk at *
  generalize (hdTok ts).text = tt at *
  generalize (hdTok ts).code = tc at *
  by_cases h1 : tc = 0
  · subst h1
    go_enter Tryz.func183, Tryz.ntmps183
    go_wp2_with fail
    refine HT.out.mono ?_
    rintro e w1 ⟨⟨p, rfl⟩, hb1⟩
    unfold tokV
    go_wp2_with fail
    refine (HW.out _ _ _).mono ?_
    rintro e w3 ⟨⟨a, rfl⟩, hb3⟩
    exact ⟨rfl, (Past.of (Nat.le_of_lt HB.out) (HU.out _ _ hb1).2).up (Nat.le_trans (Nat.le_of_lt HB.out) (HU.out _ _ hb1).2.size) hb3, .inr ⟨trivial, _, rfl⟩⟩
  · have h2 : ¬ ((tc : Int) = 0) := by omega
    have h3 : ((tc : Int) == 0) = false := by simpa using h2
    go_enter Tryz.func183, Tryz.ntmps183
    go_wp2_with fail
    refine HT.out.mono ?_
    rintro e w1 ⟨⟨p, rfl⟩, hb1⟩
    unfold tokV
    go_wp2_with fail
    refine (HP.out _ (HU.out _ _ hb1).1).mono ?_
    rintro e w2 ⟨rfl, hr2, hp2⟩
    have hs1 := hb1.size
    have hk := hp2.keep w1.heap.size (by simp) (by have := HB.out; omega)
    rw [heap_alloc_new] at hk
    have hc := cell_of_heap hk 3
    simp at hc
    go_wp2
    go_ret
    exact ⟨(Past.of (Nat.le_of_lt HB.out) (HU.out _ _ hb1).2).trans hp2, .inl ⟨h1, rfl, hr2⟩⟩
end Go.Proofs.YtlnkbhbpkmnkaaaGreatDoor
