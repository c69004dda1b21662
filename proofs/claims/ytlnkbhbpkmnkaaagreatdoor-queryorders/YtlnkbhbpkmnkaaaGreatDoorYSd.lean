/- What slices.symMergeCmpFunc does at rows where the second row is one: said of every call. -/
import Derived.Test.YtlnkbhbpkmnkaaaGreatDoorProg
import Derived.Shelf.SlSortCmp.Kit1
import Derived.Sort.WalkA
import Derived.Sort.WalkB2
import Derived.Sort.WalkB12
import Derived.Deep.LoopGhost
import Derived.Shelf.SlSortCmp.Insertion1
namespace Go.Proofs.YtlnkbhbpkmnkaaaGreatDoor.Stb
open Go.Shelf Go.RowKit Go.Proofs Go.Lib Go.Sort
variable {α : Type} [Inhabited α]

/-- n exchanges. -/
def swpN (a b : Nat) : Nat → Array α → Array α
  | 0, d => d
  | k + 1, d => swp (swpN a b k d) (a + k) (b + k)
theorem swpN_size (a b : Nat) (d : Array α) : ∀ k, (swpN a b k d).size = d.size
  | 0 => rfl
  | k + 1 => by rw [swpN, size_swp, swpN_size a b d k]
set_option maxHeartbeats 4000000 in
set_option maxRecDepth 1000000 in
theorem swapRange_s (enc : α → Value) (blk off cap a b n : Nat) (fv : Value) (d0 d : Array α) (w0 w : World) (R : Row1 enc w0 blk off d0) (hs : d0.size = d.size) (S : SW enc w0 blk off d w) (ha : a + n ≤ d.size) (hb : b + n ≤ d.size) (hsz : d.size < 1000000) :
    Calls Tryz.prog 174 #[.slice (some ⟨blk, off, none⟩) d.size cap, .int .i64 a, .int .i64 b, .int .i64 n, fv] w fun e w' => e = .returned (.tuple #[]) ∧ SW enc w0 blk off (swpN a b n d) w' := by
  have mixed : Tryz.prog.follows Departure.mixedOrders = true := by kernel_rfl
  have u22 := run_underlying (P := Tryz.prog) Tryz.underlying35
  have hcl0 := R.hO.cells
  simp only [Value.cells] at hcl0
  have hst := R.hO.store Tryz.prog
  have S0 : Aside (SW enc w0 blk off d w) := S
  clear S
  go_enter Tryz.func174, Tryz.ntmps174
  go_wp2
  go_loopw [10] (fun vi wr => ∃ k : Nat, k ≤ n ∧ vi = .int .i64 (k : Int) ∧ Aside (SW enc w0 blk off (swpN a b k d) wr)) (fun vi _ => n - (intOf vi).toNat)
  case atStart => exact ⟨0, Nat.zero_le _, rfl, S0⟩
  case round =>
    clear S0
    obtain ⟨k, hk, rfl, S1⟩ := hrel
    by_cases hlt : k < n
    · have hkz : (k : Int) < (n : Int) := by omega
      have hds := swpN_size a b d k
      generalize hdk : swpN a b k d = dk at *
      have HDK : Aside (swpN a b (k + 1) d = swp dk (a + k) (b + k)) := by show _ = _; rw [swpN, hdk]
      clear hdk
      go_wp2_with fail
      obtain ⟨iN, hiN⟩ : ∃ q, q = a + k := ⟨_, rfl⟩
      obtain ⟨jN, hjN⟩ : ∃ q, q = b + k := ⟨_, rfl⟩
      have ra : IntKind.i64.wrap ((a : Int) + (k : Int)) = (iN : Int) := by rw [IntKind.wrap_i64]; omega
      have rc : IntKind.i64.wrap ((b : Int) + (k : Int)) = (jN : Int) := by rw [IntKind.wrap_i64]; omega
      have pa : (0 : Int) ≤ (iN : Int) := by omega
      have ba : (iN : Int) < (d.size : Int) := by omega
      have pc : (0 : Int) ≤ (jN : Int) := by omega
      have bc : (jN : Int) < (d.size : Int) := by omega
      obtain ⟨x, hx⟩ : ∃ x, x = dk[a + k]! := ⟨_, rfl⟩
      obtain ⟨y, hy⟩ : ∃ x, x = dk[b + k]! := ⟨_, rfl⟩
      have S2 : Aside (SW enc w0 blk off (swp dk (a + k) (b + k)) ((wr.setCell ⟨blk, off + iN, none⟩ (enc y)).setCell ⟨blk, off + jN, none⟩ (enc x)).drew) := by rw [hiN, hjN, hx, hy]; exact S1.out.swapped R (a + k) (b + k) (by omega) (by omega)
      have c1 := S1.out.c1 R (by omega) (a + k) (by omega)
      have c2 := S1.out.c1 R (by omega) (b + k) (by omega)
      have f1 := S1.out.f1 R (by omega) (a + k) (by omega)
      have f2 := S1.out.f1 R (by omega) (b + k) (by omega)
      obtain ⟨u3, c3⟩ := S1.out.c2 R (by omega) (a + k) (b + k) (by omega) (by omega) (enc y)
      rw [← hjN, ← hiN] at c3
      rw [← hx, ← hiN] at c1
      rw [← hy, ← hjN] at c2
      rw [← hiN] at f1
      rw [← hjN] at f2
      clear S1 hx hy hiN hjN
      go_big_region_o
      clear c1 c2 c3 f1 f2
      generalize ((wr.setCell ⟨blk, off + iN, none⟩ (enc y)).setCell ⟨blk, off + jN, none⟩ (enc x)).drew = w2 at S2 ⊢
      go_wp2
      exact ⟨⟨k + 1, by omega, by go_num, by rw [HDK.out]; exact S2⟩, by simp [intOf]; omega⟩
    · have hkz : ¬ (k : Int) < (n : Int) := by omega
      have hke : k = n := by omega
      subst hke
      go_wp2
      go_end0
      exact ⟨rfl, S1.out⟩
end Go.Proofs.YtlnkbhbpkmnkaaaGreatDoor.Stb
namespace Go.Proofs.YtlnkbhbpkmnkaaaGreatDoor.Stb
open Go.Shelf Go.RowKit Go.Proofs Go.Lib Go.Sort
variable {α : Type} [Inhabited α]

theorem at_list {d : Array α} {P Q : List α} {x : α} (h : d.toList = P ++ x :: Q) : d[P.length]! = x := by
  obtain ⟨l⟩ := d
  simp only at h
  subst h
  simp
theorem swp_list {d : Array α} {P M Q : List α} {x y : α} {i j : Nat} (h : d.toList = P ++ x :: (M ++ y :: Q)) (hi : i = P.length) (hj : j = P.length + 1 + M.length) : (swp d i j).toList = P ++ y :: (M ++ x :: Q) := by
  have h1 : d[i]! = x := by rw [hi]; exact at_list h
  have h2 : d[j]! = y := by
    have := at_list (P := P ++ x :: M) (x := y) (Q := Q) (d := d) (by rw [h]; simp)
    rw [hj, ← this]
    congr 1
    simp
    omega
  unfold swp
  rw [h1, h2, Array.toList_setIfInBounds, Array.toList_setIfInBounds, h]
  subst hi hj
  have e1 : (P ++ x :: (M ++ y :: Q)).set P.length y = P ++ y :: (M ++ y :: Q) := by
    rw [List.set_append_right _ _ (Nat.le_refl _)]
    simp
  rw [e1]
  have e2 : P ++ y :: (M ++ y :: Q) = (P ++ y :: M) ++ y :: Q := by simp
  rw [e2, List.set_append_right _ _ (by simp; omega)]
  have e3 : P.length + 1 + M.length - (P ++ y :: M).length = 0 := by simp; omega
  rw [e3]
  simp
theorem swpN_list : ∀ (n : Nat) {d : Array α} {P X M Y Q : List α} {a b : Nat}, d.toList = P ++ (X ++ (M ++ (Y ++ Q))) → a = P.length → X.length = n → Y.length = n → b = P.length + n + M.length → (swpN a b n d).toList = P ++ (Y ++ (M ++ (X ++ Q)))
  | 0, d, P, X, M, Y, Q, a, b, h, _, hx, hy, _ => by
    obtain rfl := List.length_eq_zero_iff.1 hx
    obtain rfl := List.length_eq_zero_iff.1 hy
    exact h
  | n + 1, d, P, X, M, Y, Q, a, b, h, ha, hx, hy, hb => by
    obtain ⟨X', x, rfl⟩ : ∃ X' x, X = X' ++ [x] := ⟨X.dropLast, X.getLast (by intro e; rw [e] at hx; simp at hx), (List.dropLast_concat_getLast _).symm⟩
    obtain ⟨Y', y, rfl⟩ : ∃ Y' y, Y = Y' ++ [y] := ⟨Y.dropLast, Y.getLast (by intro e; rw [e] at hy; simp at hy), (List.dropLast_concat_getLast _).symm⟩
    simp only [List.length_append, List.length_singleton, Nat.add_right_cancel_iff] at hx hy
    have ih := swpN_list n (d := d) (P := P) (X := X') (M := x :: M) (Y := Y') (Q := y :: Q) (a := a) (b := b) (by rw [h]; simp) ha hx hy (by simp; omega)
    rw [swpN]
    have h2 : (swpN a b n d).toList = (P ++ Y') ++ x :: ((M ++ X') ++ y :: Q) := by rw [ih]; simp
    rw [swp_list h2 (by simp; omega) (by simp; omega)]
    simp
set_option maxHeartbeats 4000000 in
set_option maxRecDepth 1000000 in
theorem rotate_s (enc : α → Value) (blk off cap a m b : Nat) (fv : Value) (d0 d : Array α) (w0 w : World) (P X Y Q : List α) (R : Row1 enc w0 blk off d0) (hs : d0.size = d.size) (S : SW enc w0 blk off d w) (hd : d.toList = P ++ (X ++ (Y ++ Q))) (hP : P.length = a) (hX : X.length + a = m) (hY : Y.length + m = b) (h1 : a < m) (h2 : m < b) (hsz : d.size < 1000000) :
    Calls Tryz.prog 151 #[.slice (some ⟨blk, off, none⟩) d.size cap, .int .i64 a, .int .i64 m, .int .i64 b, fv] w fun e w' => e = .returned (.tuple #[]) ∧ ∃ d', SW enc w0 blk off d' w' ∧ d'.toList = P ++ (Y ++ (X ++ Q)) := by
  have S0 : Aside (SW enc w0 blk off d w) := S
  have HR : Aside (Row1 enc w0 blk off d0) := R
  have HD : Aside (d.toList = P ++ (X ++ (Y ++ Q))) := hd
  have hlen : d.size = P.length + (X.length + (Y.length + Q.length)) := by rw [← Array.length_toList, hd]; simp
  obtain ⟨i0, hi0⟩ : ∃ i, i = m - a := ⟨_, rfl⟩
  obtain ⟨j0, hj0⟩ : ∃ j, j = b - m := ⟨_, rfl⟩
  have ri : IntKind.i64.wrap ((m : Int) - (a : Int)) = (i0 : Int) := by rw [IntKind.wrap_i64]; omega
  have rj : IntKind.i64.wrap ((b : Int) - (m : Int)) = (j0 : Int) := by rw [IntKind.wrap_i64]; omega
  have HX : Aside (X.length = i0 ∧ Y.length = j0) := ⟨by omega, by omega⟩
  have hm : m + j0 = b := by omega
  have hb : b ≤ d.size := by omega
  have hi1 : 0 < i0 := by omega
  have hi2 : i0 ≤ m := by omega
  have hj1 : 0 < j0 := by omega
  have HH : Aside (P.length = m - i0) := by show _ = _; omega
  clear S R hd hX hY hP hlen h1 h2
  go_enter Tryz.func151, Tryz.ntmps151
  go_wp2
  clear ri rj
  go_loopw [10, 11] (fun vi vj wr => ∃ (i j : Nat) (P' X' Y' Q' : List α) (dk : Array α), vi = .int .i64 (i : Int) ∧ vj = .int .i64 (j : Int) ∧ 0 < i ∧ 0 < j ∧ i ≤ m ∧ m + j ≤ b ∧ dk.size = d.size ∧ Aside (SW enc w0 blk off dk wr) ∧ Aside (dk.toList = P' ++ (X' ++ (Y' ++ Q'))) ∧ Aside (P'.length = m - i ∧ X'.length = i ∧ Y'.length = j) ∧ Aside (P' ++ (Y' ++ (X' ++ Q')) = P ++ (Y ++ (X ++ Q)))) (fun vi vj _ => (intOf vi).toNat + (intOf vj).toNat)
  case atStart => exact ⟨i0, j0, P, X, Y, Q, d, by first | rfl | rw [hi0], by first | rfl | rw [hj0], hi1, hj1, hi2, by omega, rfl, S0, HD, ⟨HH.out, HX.out.1, HX.out.2⟩, rfl⟩
  case round =>
    clear S0 HD HX HH hi1 hi2 hj1 hi0 hj0 hm
    obtain ⟨i, j, P', X', Y', Q', dk, rfl, rfl, hi, hj, him, hmj, hds, S1, HL, HN, HE⟩ := hrel
    obtain ⟨k, hk⟩ : ∃ k, k = m - i := ⟨_, rfl⟩
    have rk : IntKind.i64.wrap ((m : Int) - (i : Int)) = (k : Int) := by rw [IntKind.wrap_i64]; omega
    by_cases hij : i = j
    · subst hij
      have hz : ((i : Int) != (i : Int)) = false := by simp
      have HSW : Aside (Calls Tryz.prog 174 #[.slice (some ⟨blk, off, none⟩) d.size cap, .int .i64 k, .int .i64 m, .int .i64 i, fv] wr fun e w' => e = .returned (.tuple #[]) ∧ SW enc w0 blk off (swpN k m i dk) w') := by
        have := swapRange_s enc blk off cap k m i fv d0 dk w0 wr HR.out (by omega) S1.out (by omega) (by omega) (by omega)
        rw [hds] at this
        exact this
      have HF : Aside ((swpN k m i dk).toList = P ++ (Y ++ (X ++ Q))) := by
        show _ = _
        have h := swpN_list i (d := dk) (P := P') (X := X') (M := []) (Y := Y') (Q := Q') (a := k) (b := m) (by rw [HL.out]; rfl) (by rw [HN.out.1]; exact hk) HN.out.2.1 HN.out.2.2 (by rw [HN.out.1]; simp; omega)
        rw [h, ← HE.out]
        rfl
      clear S1 HL HN HE hk
      go_wp2_with fail
      refine HSW.out.mono ?_
      rintro e w2 ⟨rfl, S2⟩
      have S2' : Aside (SW enc w0 blk off (swpN k m i dk) w2) := S2
      clear S2 HSW
      go_wp2
      go_end0
      exact ⟨rfl, _, S2'.out, HF.out⟩
    · have hz : ((i : Int) != (j : Int)) = true := by simp; omega
      by_cases hlt : j < i
      · have hg : (j : Int) < (i : Int) := by omega
        have HSW : Aside (Calls Tryz.prog 174 #[.slice (some ⟨blk, off, none⟩) d.size cap, .int .i64 k, .int .i64 m, .int .i64 j, fv] wr fun e w' => e = .returned (.tuple #[]) ∧ SW enc w0 blk off (swpN k m j dk) w') := by
          have := swapRange_s enc blk off cap k m j fv d0 dk w0 wr HR.out (by omega) S1.out (by omega) (by omega) (by omega)
          rw [hds] at this
          exact this
        have HF : Aside (∃ A B, X' = A ++ B ∧ A.length = j ∧ B.length = i - j ∧ (swpN k m j dk).toList = (P' ++ Y') ++ (B ++ (A ++ Q'))) := by
          refine ⟨X'.take j, X'.drop j, (List.take_append_drop _ _).symm, by rw [List.length_take, HN.out.2.1]; omega, by rw [List.length_drop, HN.out.2.1], ?_⟩
          have h := swpN_list j (d := dk) (P := P') (X := X'.take j) (M := X'.drop j) (Y := Y') (Q := Q') (a := k) (b := m) (by rw [HL.out, ← List.append_assoc (X'.take j), List.take_append_drop]) (by rw [HN.out.1]; exact hk) (by rw [List.length_take, HN.out.2.1]; omega) HN.out.2.2 (by rw [HN.out.1, List.length_drop, HN.out.2.1]; omega)
          rw [h]
          simp
        have rij : IntKind.i64.wrap ((i : Int) - (j : Int)) = ((i - j : Nat) : Int) := by rw [IntKind.wrap_i64]; omega
        have HKQ : Aside ((swpN k m j dk).size = d.size ∧ k = m - i ∧ 0 < i ∧ 0 < j ∧ i ≤ m ∧ m + j ≤ b ∧ j < i) := ⟨by rw [swpN_size, hds], hk, hi, hj, him, hmj, hlt⟩
        clear S1 HL hk hds hij hi hj him hmj hlt
        go_wp2_with fail
        refine HSW.out.mono ?_
        rintro e w2 ⟨rfl, S2⟩
        have S2' : Aside (SW enc w0 blk off (swpN k m j dk) w2) := S2
        clear S2 HSW
        go_wp2
        obtain ⟨A, B, hX', hA, hB, hL⟩ := HF.out
        obtain ⟨hsk, hk, hi, hj, him, hmj, hlt⟩ := HKQ.out
        refine ⟨⟨i - j, j, P' ++ Y', B, A, Q', _, rfl, rfl, by omega, by omega, by omega, by omega, hsk, S2', hL, ⟨by rw [List.length_append, HN.out.1, HN.out.2.2]; omega, hB, hA⟩, ?_⟩, ?_⟩
        · show _ = _
          rw [← HE.out, hX']
          simp
        · simp only [intOf]
          omega
      · have hg : ¬ (j : Int) < (i : Int) := by omega
        obtain ⟨q, hq⟩ : ∃ q, q = m + j - i := ⟨_, rfl⟩
        have rq1 : IntKind.i64.wrap ((m : Int) + (j : Int)) = (m : Int) + (j : Int) := by rw [IntKind.wrap_i64]; omega
        have rq2 : IntKind.i64.wrap ((m : Int) + (j : Int) - (i : Int)) = (q : Int) := by rw [IntKind.wrap_i64]; omega
        have HSW : Aside (Calls Tryz.prog 174 #[.slice (some ⟨blk, off, none⟩) d.size cap, .int .i64 k, .int .i64 q, .int .i64 i, fv] wr fun e w' => e = .returned (.tuple #[]) ∧ SW enc w0 blk off (swpN k q i dk) w') := by
          have := swapRange_s enc blk off cap k q i fv d0 dk w0 wr HR.out (by omega) S1.out (by omega) (by omega) (by omega)
          rw [hds] at this
          exact this
        have HF : Aside (∃ C D, Y' = C ++ D ∧ C.length = j - i ∧ D.length = i ∧ (swpN k q i dk).toList = P' ++ (D ++ (C ++ (X' ++ Q')))) := by
          refine ⟨Y'.take (j - i), Y'.drop (j - i), (List.take_append_drop _ _).symm, by rw [List.length_take, HN.out.2.2]; omega, by rw [List.length_drop, HN.out.2.2]; omega, ?_⟩
          exact swpN_list i (d := dk) (P := P') (X := X') (M := Y'.take (j - i)) (Y := Y'.drop (j - i)) (Q := Q') (a := k) (b := q) (by rw [HL.out, ← List.append_assoc (Y'.take (j - i)), List.take_append_drop]) (by rw [HN.out.1]; exact hk) HN.out.2.1 (by rw [List.length_drop, HN.out.2.2]; omega) (by rw [HN.out.1, List.length_take, HN.out.2.2]; omega)
        have rij : IntKind.i64.wrap ((j : Int) - (i : Int)) = ((j - i : Nat) : Int) := by rw [IntKind.wrap_i64]; omega
        have HKQ : Aside ((swpN k q i dk).size = d.size ∧ k = m - i ∧ 0 < i ∧ 0 < j ∧ i ≤ m ∧ m + j ≤ b ∧ ¬ j < i ∧ i ≠ j) := ⟨by rw [swpN_size, hds], hk, hi, hj, him, hmj, hlt, hij⟩
        clear S1 HL hk hds hij hi hj him hmj hlt hq
        go_wp2_with fail
        refine HSW.out.mono ?_
        rintro e w2 ⟨rfl, S2⟩
        have S2' : Aside (SW enc w0 blk off (swpN k q i dk) w2) := S2
        clear S2 HSW
        go_wp2
        obtain ⟨C, D, hY', hC, hD, hL⟩ := HF.out
        obtain ⟨hsk, hk, hi, hj, him, hmj, hlt, hij⟩ := HKQ.out
        refine ⟨⟨i, j - i, P', D, C, X' ++ Q', _, rfl, rfl, by omega, by omega, by omega, by omega, hsk, S2', hL, ⟨HN.out.1, hD, hC⟩, ?_⟩, ?_⟩
        · show _ = _
          rw [← HE.out, hY']
          simp
        · simp only [intOf]
          omega
end Go.Proofs.YtlnkbhbpkmnkaaaGreatDoor.Stb
namespace Go.Proofs.YtlnkbhbpkmnkaaaGreatDoor.Stb
variable {α : Type} (lt : α → α → Bool)
/-- Of two rows one; of what is the same the first row's goes first. -/
def mg : List α → List α → List α
  | [], B => B
  | a :: A, [] => a :: A
  | a :: A, b :: B => if lt b a then b :: mg (a :: A) B else a :: mg A (b :: B)
termination_by A B => A.length + B.length
/-- A row stands in order. -/
def Up (l : List α) : Prop := l.Pairwise fun x y => lt y x = false
theorem mg_nil (A : List α) : mg lt A [] = A := by cases A <;> simp [mg]
theorem mg_nil' (B : List α) : mg lt [] B = B := by simp [mg]
theorem mg_cc (a b : α) (A B : List α) : mg lt (a :: A) (b :: B) = if lt b a then b :: mg lt (a :: A) B else a :: mg lt A (b :: B) := by rw [mg]
theorem mg_perm : ∀ (A B : List α), (mg lt A B).Perm (A ++ B)
  | [], B => by simp [mg]
  | a :: A, [] => by simp [mg]
  | a :: A, b :: B => by
    rw [mg]
    split
    · have := mg_perm (a :: A) B
      exact (this.cons b).trans (List.perm_middle.symm.trans (by simp))
    · exact (mg_perm A (b :: B)).cons a
termination_by A B => A.length + B.length
theorem mem_mg {x : α} {A B : List α} : x ∈ mg lt A B ↔ x ∈ A ∨ x ∈ B := by
  rw [(mg_perm lt A B).mem_iff, List.mem_append]
/-- What is less is no more; what is no more goes on. -/
structure Ord (lt : α → α → Bool) : Prop where
  asym : ∀ x y, lt x y = true → lt y x = false
  trans : ∀ x y z, lt y x = false → lt z y = false → lt z x = false
theorem mg_up (h : Ord lt) : ∀ (A B : List α), Up lt A → Up lt B → Up lt (mg lt A B)
  | [], B, _, hB => by simpa [mg] using hB
  | a :: A, [], hA, _ => by simpa [mg] using hA
  | a :: A, b :: B, hA, hB => by
    have hA' := List.pairwise_cons.1 hA
    have hB' := List.pairwise_cons.1 hB
    rw [mg]
    split
    · rename_i hlt
      refine List.pairwise_cons.2 ⟨fun x hx => ?_, mg_up h (a :: A) B hA hB'.2⟩
      rcases (mem_mg lt).1 hx with hx | hx
      · have h1 := h.asym _ _ hlt
        rcases List.mem_cons.1 hx with rfl | hx
        · exact h1
        · exact h.trans _ _ _ h1 (hA'.1 x hx)
      · exact hB'.1 x hx
    · rename_i hlt
      have hlt' : lt b a = false := by simpa using hlt
      refine List.pairwise_cons.2 ⟨fun x hx => ?_, mg_up h A (b :: B) hA'.2 hB⟩
      rcases (mem_mg lt).1 hx with hx | hx
      · exact hA'.1 x hx
      · rcases List.mem_cons.1 hx with rfl | hx
        · exact hlt'
        · exact h.trans _ _ _ hlt' (hB'.1 x hx)
termination_by A B => A.length + B.length
/-- Two rows, cut: what goes first goes first. -/
theorem mg_cut : ∀ (A B A' B' : List α), (∀ x ∈ A, ∀ y ∈ B', lt y x = false) → (∀ y ∈ B, ∀ x ∈ A', lt y x = true) → mg lt (A ++ A') (B ++ B') = mg lt A B ++ mg lt A' B'
  | [], [], A', B', _, _ => by simp [mg]
  | [], b :: B, A', B', h1, h2 => by
    cases A' with
    | nil => simp [mg]
    | cons a A' =>
      have hb := h2 b (List.mem_cons_self ..) a (List.mem_cons_self ..)
      have ih := mg_cut [] B (a :: A') B' h1 (fun y hy x hx => h2 y (List.mem_cons_of_mem _ hy) x hx)
      simp only [List.nil_append, List.cons_append] at ih ⊢
      rw [mg_cc lt a b A' (B ++ B'), if_pos hb, ih]
      simp [mg_nil']
  | a :: A, [], A', B', h1, h2 => by
    cases B' with
    | nil => simp [mg_nil]
    | cons b B' =>
      have ha := h1 a (List.mem_cons_self ..) b (List.mem_cons_self ..)
      have ih := mg_cut A [] A' (b :: B') (fun x hx y hy => h1 x (List.mem_cons_of_mem _ hx) y hy) h2
      simp only [List.nil_append, List.cons_append] at ih ⊢
      rw [mg_cc lt a b (A ++ A') B', ha]
      simp only [Bool.false_eq_true, if_false]
      rw [ih]
      simp [mg_nil]
  | a :: A, b :: B, A', B', h1, h2 => by
    simp only [List.cons_append]
    rw [mg_cc lt a b (A ++ A') (B ++ B'), mg_cc lt a b A B]
    by_cases hlt : lt b a = true
    · rw [if_pos hlt, if_pos hlt]
      have ih := mg_cut (a :: A) B A' B' h1 (fun y hy x hx => h2 y (List.mem_cons_of_mem _ hy) x hx)
      simp only [List.cons_append] at ih ⊢
      rw [ih]
    · rw [if_neg hlt, if_neg hlt]
      have ih := mg_cut A (b :: B) A' B' (fun x hx y hy => h1 x (List.mem_cons_of_mem _ hx) y hy) h2
      simp only [List.cons_append] at ih ⊢
      rw [ih]
termination_by A B => A.length + B.length
/-- One, and a row: behind all that is less. -/
theorem mg_one (x : α) (B C : List α) (h1 : ∀ y ∈ B, lt y x = true) (h2 : ∀ y ∈ C, lt y x = false) : mg lt [x] (B ++ C) = B ++ x :: C := by
  have := mg_cut lt [] B [x] C (fun y hy => by cases hy) (fun y hy z hz => by simp at hz; subst hz; exact h1 y hy)
  simp only [List.nil_append] at this
  rw [this, mg_nil']
  congr 1
  cases C with
  | nil => simp [mg]
  | cons c C => rw [mg_cc, h2 c (List.mem_cons_self ..)]; simp [mg]
/-- A row, and one: behind all that it is not less than. -/
theorem mg_last (y : α) (A C : List α) (h1 : ∀ x ∈ A, lt y x = false) (h2 : ∀ x ∈ C, lt y x = true) : mg lt (A ++ C) [y] = A ++ y :: C := by
  have := mg_cut lt A [] C [y] (fun x hx z hz => by simp at hz; subst hz; exact h1 x hx) (fun z hz => by cases hz)
  simp only [List.nil_append] at this
  rw [this, mg_nil]
  congr 1
  cases C with
  | nil => simp [mg]
  | cons c C => rw [mg_cc, if_pos (h2 c (List.mem_cons_self ..)), mg_nil]
/-- Where nothing is less all stays as it stands. -/
theorem mg_same (h : ∀ x y, lt x y = false) : ∀ (A B : List α), mg lt A B = A ++ B
  | [], B => by simp [mg]
  | a :: A, [] => by simp [mg]
  | a :: A, b :: B => by rw [mg_cc, h]; simp [mg_same h A (b :: B)]
/-- In a row that stands in order, whoever stands ahead is no more. -/
theorem Up.at {l : List α} (h : Up lt l) (hr : ∀ x, lt x x = false) {i j : Nat} (hij : i ≤ j) (hj : j < l.length) : lt l[j] l[i] = false := by
  rcases Nat.lt_or_ge i j with h' | h'
  · exact List.pairwise_iff_getElem.1 h i j (by omega) hj h'
  · obtain rfl : i = j := by omega
    exact hr _
/-- WHERE TWO ROWS ARE CUT: s of the first, so many of the second that both halves are as long as they should be; ahead of s nobody is more than whom it would meet, from s on everybody is. -/
theorem mg_at (h : Ord lt) (hr : ∀ x, lt x x = false) (L R : List α) (hL : Up lt L) (hR : Up lt R) (mid lo r s : Nat) (h1 : lo ≤ s) (h2 : s ≤ r) (hrm : r ≤ mid) (hrl : r ≤ L.length) (hmr : mid ≤ lo + R.length)
    (e1 : lo = 0 ∨ mid = lo + R.length) (e2 : r = L.length ∨ r = mid)
    (hok : ∀ c, lo ≤ c → c < s → ∀ (hc : c < L.length) (hd : mid - 1 - c < R.length), lt R[mid - 1 - c] L[c] = false) (hno : ∀ c, s ≤ c → c < r → ∀ (hc : c < L.length) (hd : mid - 1 - c < R.length), lt R[mid - 1 - c] L[c] = true) :
    mg lt L R = mg lt (L.take s) (R.take (mid - s)) ++ mg lt (L.drop s) (R.drop (mid - s)) := by
  have hc := mg_cut lt (L.take s) (R.take (mid - s)) (L.drop s) (R.drop (mid - s)) ?_ ?_
  · rw [List.take_append_drop, List.take_append_drop] at hc
    exact hc
  · intro x hx y hy
    obtain ⟨i, hi, rfl⟩ := List.mem_iff_getElem.1 hx
    obtain ⟨j, hj, rfl⟩ := List.mem_iff_getElem.1 hy
    rw [List.length_take] at hi
    rw [List.length_drop] at hj
    rw [List.getElem_take, List.getElem_drop]
    rcases Nat.lt_or_ge lo s with hlo | hlo
    · have hk := hok (s - 1) (by omega) (by omega) (by omega) (by omega)
      have a1 := hL.at lt hr (i := i) (j := s - 1) (by omega) (by omega)
      have a2 := hR.at lt hr (i := mid - 1 - (s - 1)) (j := mid - s + j) (by omega) (by omega)
      exact h.trans _ _ _ (h.trans _ _ _ a1 hk) a2
    · exfalso
      rcases e1 with e | e <;> omega
  · intro y hy x hx
    obtain ⟨j, hj, rfl⟩ := List.mem_iff_getElem.1 hy
    obtain ⟨i, hi, rfl⟩ := List.mem_iff_getElem.1 hx
    rw [List.length_take] at hj
    rw [List.length_drop] at hi
    rw [List.getElem_take, List.getElem_drop]
    rcases Nat.lt_or_ge s r with hsr | hsr
    · have hk := hno s (Nat.le_refl _) hsr (by omega) (by omega)
      have a1 := hL.at lt hr (i := s) (j := s + i) (by omega) (by omega)
      have a2 := hR.at lt hr (i := j) (j := mid - 1 - s) (by omega) (by omega)
      cases hlt : lt R[j] L[s + i] with
      | true => rfl
      | false =>
        exfalso
        have := h.trans _ _ _ (h.trans _ _ _ a1 hlt) a2
        rw [this] at hk
        cases hk
    · exfalso
      rcases e2 with e | e <;> omega
/-- Whom somebody would meet: once more, always more. -/
theorem meet_mono (h : Ord lt) (hr : ∀ x, lt x x = false) (L R : List α) (hL : Up lt L) (hR : Up lt R) (mid c d : Nat) (hcd : c ≤ d) (hd : d < L.length) (hm : mid - 1 - c < R.length) (hk : lt R[mid - 1 - c] L[c] = true) : lt R[mid - 1 - d] L[d] = true := by
  have a1 := hL.at lt hr hcd hd
  have a2 := hR.at lt hr (i := mid - 1 - d) (j := mid - 1 - c) (by omega) hm
  cases hlt : lt R[mid - 1 - d] L[d] with
  | true => rfl
  | false =>
    exfalso
    have := h.trans _ _ _ (h.trans _ _ _ a1 hlt) a2
    rw [this] at hk
    cases hk
theorem Ord.lt_trans (h : Ord lt) {x y z : α} (h1 : lt x y = true) (h2 : lt y z = true) : lt x z = true := by
  cases hlt : lt x z with
  | true => rfl
  | false =>
    exfalso
    have := h.trans _ _ _ hlt (h.asym _ _ h1)
    rw [this] at h2
    cases h2
theorem Ord.lt_le (h : Ord lt) {x y z : α} (h1 : lt x y = true) (h2 : lt z y = false) : lt x z = true := by
  cases hlt : lt x z with
  | true => rfl
  | false =>
    exfalso
    have := h.trans _ _ _ h2 hlt
    rw [this] at h1
    cases h1
/-- Three rows: whichever two are put together first. -/
theorem mg_assoc (h : Ord lt) : ∀ (A B C : List α), mg lt (mg lt A B) C = mg lt A (mg lt B C)
  | [], B, C => by rw [mg_nil', mg_nil']
  | a :: A, [], C => by rw [mg_nil, mg_nil']
  | a :: A, b :: B, [] => by rw [mg_nil, mg_nil]
  | a :: A, b :: B, c :: C => by
    by_cases h1 : lt b a = true
    · by_cases h2 : lt c b = true
      · have h3 := h.lt_trans lt h2 h1
        have ih := mg_assoc h (a :: A) (b :: B) C
        rw [mg_cc lt a b A B, if_pos h1, mg_cc, if_pos h2, mg_cc lt b c B C, if_pos h2, mg_cc, if_pos h3, ← ih, mg_cc lt a b A B, if_pos h1]
      · have ih := mg_assoc h (a :: A) B (c :: C)
        rw [mg_cc lt a b A B, if_pos h1, mg_cc, if_neg h2, ih, mg_cc lt b c B C, if_neg h2, mg_cc, if_pos h1]
    · have h1' : lt b a = false := by simpa using h1
      by_cases h2 : lt c a = true
      · have h3 := h.lt_le lt h2 h1'
        have ih := mg_assoc h (a :: A) (b :: B) C
        rw [mg_cc lt a b A B, if_neg h1, mg_cc, if_pos h2, mg_cc lt b c B C, if_pos h3, mg_cc, if_pos h2, ← ih, mg_cc lt a b A B, if_neg h1]
      · have ih := mg_assoc h A (b :: B) (c :: C)
        rw [mg_cc lt a b A B, if_neg h1, mg_cc, if_neg h2, ih]
        by_cases h3 : lt c b = true
        · rw [mg_cc lt b c B C, if_pos h3, mg_cc, if_neg h2]
        · rw [mg_cc lt b c B C, if_neg h3, mg_cc, if_neg h1]
termination_by A B C => A.length + B.length + C.length
/-- A row in order, what is the same as it stood. -/
def ss : List α → List α
  | [] => []
  | x :: l => mg lt [x] (ss l)
theorem ss_append (h : Ord lt) : ∀ A B : List α, ss lt (A ++ B) = mg lt (ss lt A) (ss lt B)
  | [], B => by simp [ss, mg_nil']
  | a :: A, B => by simp only [List.cons_append, ss, ss_append h A B, mg_assoc lt h]
theorem ss_perm : ∀ A : List α, (ss lt A).Perm A
  | [] => by simp [ss]
  | a :: A => by
    simp only [ss]
    exact (mg_perm lt [a] (ss lt A)).trans ((ss_perm A).cons a)
theorem ss_up (h : Ord lt) : ∀ A : List α, Up lt (ss lt A)
  | [] => List.Pairwise.nil
  | a :: A => by
    simp only [ss]
    exact mg_up lt h [a] (ss lt A) (List.pairwise_singleton ..) (ss_up h A)
theorem ss_same (h : ∀ x y, lt x y = false) : ∀ A : List α, ss lt A = A
  | [] => rfl
  | a :: A => by simp only [ss, ss_same h A, mg_same lt h]; rfl
theorem ss_len (A : List α) : (ss lt A).length = A.length := (ss_perm lt A).length_eq
/-- One more at the end: behind all that it is not less than. -/
theorem ss_snoc (h : Ord lt) (A : List α) (y : α) : ss lt (A ++ [y]) = mg lt (ss lt A) [y] := by rw [ss_append lt h]; simp [ss, mg_nil]
end Go.Proofs.YtlnkbhbpkmnkaaaGreatDoor.Stb
namespace Go.Proofs.YtlnkbhbpkmnkaaaGreatDoor.Stb
open Go.Shelf Go.RowKit Go.Proofs Go.Lib Go.Sort
variable {α : Type} [Inhabited α]

theorem arr_list (d : Array α) (k : Nat) : d[k]! = d.toList[k]! := by
  obtain ⟨l⟩ := d
  simp
theorem app_get (P l : List α) (t : Nat) : (P ++ l)[P.length + t]! = l[t]! := by
  rw [List.getElem!_eq_getElem?_getD, List.getElem?_append_right (by omega), Nat.add_sub_cancel_left, ← List.getElem!_eq_getElem?_getD]
theorem app_left (l Q : List α) {t : Nat} (h : t < l.length) : (l ++ Q)[t]! = l[t]! := by
  rw [List.getElem!_eq_getElem?_getD, List.getElem?_append_left h, ← List.getElem!_eq_getElem?_getD]
/-- Where a row of yes ends. -/
structure Cut (p : Nat → Bool) (lo hi i j : Nat) : Prop where
  yes : ∀ t, lo ≤ t → t < i → p t = true
  no : ∀ t, j ≤ t → t < hi → p t = false
theorem Cut.more {p : Nat → Bool} {lo hi i j h : Nat} (hm : ∀ s t, s ≤ t → t < hi → p t = true → p s = true) (c : Cut p lo hi i j) (hh : h < hi) (hp : p h = true) : Cut p lo hi (h + 1) j :=
  ⟨fun t _ h2 => hm t h (by omega) hh hp, c.no⟩
theorem Cut.less {p : Nat → Bool} {lo hi i j h : Nat} (hm : ∀ s t, s ≤ t → t < hi → p t = true → p s = true) (c : Cut p lo hi i j) (hp : p h = false) : Cut p lo hi i h :=
  ⟨c.yes, fun t h1 h2 => by
    cases e : p t with
    | false => rfl
    | true =>
      have := hm h t h1 h2 e
      rw [hp] at this
      cases this⟩
set_option maxHeartbeats 16000000 in
set_option maxRecDepth 1000000 in
theorem sym_one (enc : α → Value) (cf : α → α → Int) (gf : Nat) (cb : Array Value) (blk off cap a m b : Nat) (d0 d : Array α) (w0 w : World) (P : List α) (x0 : α) (R Q : List α)
    (eg : ∀ args w, (callFunc gf args).run Tryz.prog w = .ok (.enter gf args) w) (hcmp : CmpLays1 Tryz.prog gf cb enc cf blk off d0.size w0) (hR : Row1 enc w0 blk off d0) (hs : d0.size = d.size) (S : SW enc w0 blk off d w) (ho : Ord (ltOf cf))
    (hd : d.toList = P ++ (x0 :: (R ++ Q))) (hP : P.length = a) (hm : a + 1 = m) (hb : R.length + m = b) (hb1 : m < b) (hU : Up (ltOf cf) R) (hsz : d.size < 1000000) :
    Calls Tryz.prog 116 #[.slice (some ⟨blk, off, none⟩) d.size cap, .int .i64 a, .int .i64 m, .int .i64 b, .func (.func gf) #[] cb] w fun e w' => e = .returned (.tuple #[]) ∧ ∃ d', SW enc w0 blk off d' w' ∧ d'.toList = P ++ (mg (ltOf cf) [x0] R ++ Q) := by
  have mixed : Tryz.prog.follows Departure.mixedOrders = true := by kernel_rfl
  have u22 := run_underlying (P := Tryz.prog) Tryz.underlying35
  have hcl0 := hR.hO.cells
  simp only [Value.cells] at hcl0
  have hst := hR.hO.store Tryz.prog
  have HC : Aside _ := hcmp
  have S0 : Aside (SW enc w0 blk off d w) := S
  have HR : Aside (Row1 enc w0 blk off d0) := hR
  have HD : Aside (d.toList = P ++ (x0 :: (R ++ Q))) := hd
  have hlen : d.size = P.length + (1 + (R.length + Q.length)) := by rw [← Array.length_toList, hd]; simp; omega
  have hbd : b ≤ d.size := by omega
  have HP : Aside (P.length = a ∧ R.length + m = b) := ⟨hP, hb⟩
  have hx : d[a]! = x0 := by rw [← hP]; exact at_list hd
  have hg : ∀ t, t < R.length → d[m + t]! = R[t]! := fun t ht => by
    rw [arr_list, hd, show m + t = P.length + (1 + t) by omega, app_get, show x0 :: (R ++ Q) = [x0] ++ (R ++ Q) from rfl]
    have := app_get [x0] (R ++ Q) t
    simp only [List.length_singleton] at this
    rw [this, app_left R Q ht]
  have HX : Aside (d[a]! = x0) := hx
  have HG : Aside (∀ t, t < R.length → d[m + t]! = R[t]!) := hg
  have hmono : ∀ s t, s ≤ t → t < R.length → ltOf cf R[t]! x0 = true → ltOf cf R[s]! x0 = true := fun s t hst ht h => by
    have h1 := hU.at (ltOf cf) (fun x => by cases e : ltOf cf x x with | false => rfl | true => rw [ho.asym _ _ e] at e; cases e) (i := s) (j := t) hst ht
    rw [getElem!_pos R t ht] at h
    rw [getElem!_pos R s (by omega)]
    cases e : ltOf cf R[s] x0 with
    | true => rfl
    | false =>
      rw [ho.trans _ _ _ e h1] at h
      cases h
  have HM : Aside (∀ s t, s ≤ t → t < R.length → ltOf cf R[t]! x0 = true → ltOf cf R[s]! x0 = true) := hmono
  have HU : Aside (Up (ltOf cf) R) := hU
  have hds0 := hs
  have rma : IntKind.i64.wrap ((m : Int) - (a : Int)) = 1 := by rw [IntKind.wrap_i64]; omega
  have pa : (0 : Int) ≤ (a : Int) := by omega
  have ba : (a : Int) < (d.size : Int) := by omega
  clear S hd hR hcmp hx hg hmono hU hlen hP hb
  go_enter Tryz.func116, Tryz.ntmps116
  go_wp2
  go_loopw [10, 11] (fun vi vj wr => ∃ (i j : Nat), vi = .int .i64 (i : Int) ∧ vj = .int .i64 (j : Int) ∧ m ≤ i ∧ i ≤ j ∧ j ≤ b ∧ Aside (SW enc w0 blk off d wr) ∧ Aside (Cut (fun t => ltOf cf R[t]! x0) 0 R.length (i - m) (j - m))) (fun vi vj _ => (intOf vj).toNat - (intOf vi).toNat)
  case atStart => exact ⟨m, b, rfl, rfl, Nat.le_refl _, by omega, Nat.le_refl _, S0, ⟨fun t _ h => by omega, fun t h1 h2 => by have := HP.out.2; omega⟩⟩
  case round =>
    clear S0
    obtain ⟨i, j, rfl, rfl, hmi, hij, hjb, S1, HCU⟩ := hrel
    by_cases hlt : i < j
    · have hz : (i : Int) < (j : Int) := by omega
      obtain ⟨h, hh⟩ : ∃ h, h = (i + j) / 2 := ⟨_, rfl⟩
      have hh1 : i ≤ h := by omega
      have hh2 : h < j := by omega
      have r1 : IntKind.i64.wrap ((i : Int) + (j : Int)) = (i : Int) + (j : Int) := by rw [IntKind.wrap_i64]; omega
      have r2 : IntKind.u64.wrap ((i : Int) + (j : Int)) = (i : Int) + (j : Int) := by rw [IntKind.wrap_u64]; omega
      have r3 : ((i : Int) + (j : Int)) / 2 = (h : Int) := by omega
      have HH : Aside (h = (i + j) / 2) := hh
      clear hh
      have ph : (0 : Int) ≤ (h : Int) := by omega
      have bh : (h : Int) < (d.size : Int) := by omega
      obtain ⟨y, hy⟩ : ∃ y, y = d[h]! := ⟨_, rfl⟩
      have hyR : y = R[h - m]! := by rw [hy, ← HG.out (h - m) (by have := HP.out.2; omega)]; congr 1; omega
      have l1 := S1.out.cl HR.out (by omega) h (by omega)
      have l2 := S1.out.cl HR.out (by omega) a (by omega)
      rw [← hy] at l1
      rw [HX.out] at l2
      have hc := S1.out.cmp HC.out (by omega) y x0
      have HLT : Aside (ltOf cf R[h - m]! x0 = decide (cf y x0 < 0)) := by show _ = _; rw [← hyR]; rfl
      clear hy hyR
      go_wp2_with fail
      cases hd : decide (cf y x0 < 0) with
      | true =>
        have hv : cf y x0 < 0 := of_decide_eq_true hd
        go_quiet_grown (first | (go_at_fn gf; refine Calls.grown_of (hc _ _)))
        have S2 : Aside (SW enc w0 blk off d (grow (wr.drewN nq) osq)) := S1.out.grown nq osq
        clear l1 l2 hc S1
        generalize grow (wr.drewN nq) osq = w2 at S2 ⊢
        clear nq osq
        have r4 : IntKind.i64.wrap ((h : Int) + 1) = (h : Int) + 1 := by rw [IntKind.wrap_i64]; omega
        go_wp2
        refine ⟨⟨h + 1, j, by go_num, rfl, by omega, by omega, hjb, S2, ?_⟩, by simp [intOf]; omega⟩
        have := HCU.out.more HM.out (h := h - m) (by have := HP.out.2; omega) (by rw [HLT.out]; exact hd)
        rwa [show h - m + 1 = h + 1 - m by omega] at this
      | false =>
        have hv : ¬ cf y x0 < 0 := of_decide_eq_false hd
        go_quiet_grown (first | (go_at_fn gf; refine Calls.grown_of (hc _ _)))
        have S2 : Aside (SW enc w0 blk off d (grow (wr.drewN nq) osq)) := S1.out.grown nq osq
        clear l1 l2 hc S1
        generalize grow (wr.drewN nq) osq = w2 at S2 ⊢
        clear nq osq
        go_wp2
        exact ⟨⟨i, h, rfl, rfl, hmi, hh1, by omega, S2, HCU.out.less HM.out (by rw [HLT.out]; exact hd)⟩, by simp [intOf]; omega⟩
    · have hz : ¬ (i : Int) < (j : Int) := by omega
      obtain rfl : i = j := by omega
      have HI : Aside (∃ R1 R2, R = R1 ++ R2 ∧ R1.length + m = i ∧ mg (ltOf cf) [x0] R = R1 ++ x0 :: R2) := by
        refine ⟨R.take (i - m), R.drop (i - m), (List.take_append_drop _ _).symm, by rw [List.length_take]; have := HP.out.2; omega, ?_⟩
        have := mg_one (ltOf cf) x0 (R.take (i - m)) (R.drop (i - m)) (fun y hy => ?_) (fun y hy => ?_)
        · rwa [List.take_append_drop] at this
        · obtain ⟨t, ht, rfl⟩ := List.mem_iff_getElem.1 hy
          rw [List.length_take] at ht
          rw [List.getElem_take, ← getElem!_pos R t (by omega)]
          exact HCU.out.yes t (Nat.zero_le _) (by omega)
        · obtain ⟨t, ht, rfl⟩ := List.mem_iff_getElem.1 hy
          rw [List.length_drop] at ht
          rw [List.getElem_drop, ← getElem!_pos R (i - m + t) (by omega)]
          exact HCU.out.no _ (by omega) (by omega)
      obtain ⟨R1, R2, hR12, hR1, hmg⟩ := HI.out
      have HD2 : Aside (d.toList = P ++ ([] ++ (x0 :: (R1 ++ (R2 ++ Q))))) := by show _ = _; rw [HD.out, hR12]; simp
      have HMG : Aside (mg (ltOf cf) [x0] R = R1 ++ x0 :: R2 ∧ R1.length + m = i) := ⟨hmg, hR1⟩
      clear HI hR12 hR1 hmg HCU HM HU HG HX HD
      have r5 : IntKind.i64.wrap ((i : Int) - 1) = (i : Int) - 1 := by rw [IntKind.wrap_i64]; omega
      go_wp2_with fail
      go_loopw [13] (fun vk wk => ∃ (k : Nat) (A B : List α) (dk : Array α), vk = .int .i64 (k : Int) ∧ a ≤ k ∧ k + 1 ≤ i ∧ A.length = k - a ∧ B.length + k + 1 = i ∧ dk.size = d.size ∧ Aside (SW enc w0 blk off dk wk) ∧ Aside (dk.toList = P ++ (A ++ (x0 :: (B ++ (R2 ++ Q)))) ∧ A ++ B = R1)) (fun vk _ => i - (intOf vk).toNat)
      case atStart => exact ⟨a, [], R1, d, rfl, Nat.le_refl _, by omega, by simp, by have := HMG.out.2; omega, rfl, S1, HD2.out, rfl⟩
      case round =>
        clear S1 HD2
        obtain ⟨k, A, B, dk, rfl, hak, hki, hA, hB, hds, S3, HK⟩ := hrel
        by_cases hkl : k + 1 < i
        · have hz2 : (k : Int) < (i : Int) - 1 := by omega
          obtain ⟨y, B', rfl⟩ : ∃ y B', B = y :: B' := by
            cases B with
            | nil => simp at hB; omega
            | cons y B' => exact ⟨y, B', rfl⟩
          obtain ⟨k1, hk1⟩ : ∃ k1, k1 = k + 1 := ⟨_, rfl⟩
          have rk : IntKind.i64.wrap ((k : Int) + 1) = (k1 : Int) := by rw [IntKind.wrap_i64]; omega
          have pk : (0 : Int) ≤ (k : Int) := by omega
          have bk : (k : Int) < (d.size : Int) := by omega
          have pk1 : (0 : Int) ≤ (k1 : Int) := by omega
          have bk1 : (k1 : Int) < (d.size : Int) := by omega
          have HPA : Aside (k = (P ++ A).length ∧ B'.length + k1 + 1 = i) := ⟨by rw [List.length_append, HP.out.1]; omega, by simp at hB; omega⟩
          have e1 : dk[k]! = x0 := by rw [HPA.out.1]; exact at_list (Q := y :: (B' ++ (R2 ++ Q))) (by rw [HK.out.1]; simp)
          have e2 : dk[k + 1]! = y := by
            have := at_list (d := dk) (P := P ++ A ++ [x0]) (x := y) (Q := B' ++ (R2 ++ Q)) (by rw [HK.out.1]; simp)
            rw [← this]
            congr 1
            rw [HPA.out.1]
            simp
            omega
          have S4 : Aside (SW enc w0 blk off (swp dk k (k + 1)) ((wr.setCell ⟨blk, off + k, none⟩ (enc y)).setCell ⟨blk, off + k1, none⟩ (enc x0)).drew) := by
            have := S3.out.swapped HR.out k (k + 1) (by omega) (by omega)
            rw [e1, e2, ← hk1] at this
            rw [← hk1]
            exact this
          have HL : Aside ((swp dk k (k + 1)).toList = P ++ ((A ++ [y]) ++ (x0 :: (B' ++ (R2 ++ Q)))) ∧ (A ++ [y]) ++ B' = R1) := by
            refine ⟨?_, by rw [← HK.out.2]; simp⟩
            rw [swp_list (d := dk) (P := P ++ A) (x := x0) (M := []) (y := y) (Q := B' ++ (R2 ++ Q)) (by rw [HK.out.1]; simp) HPA.out.1 (by rw [← HPA.out.1]; simp)]
            simp
          have c1 := S3.out.c1 HR.out (by omega) k (by omega)
          have c2 := S3.out.c1 HR.out (by omega) (k + 1) (by omega)
          have f1 := S3.out.f1 HR.out (by omega) k (by omega)
          have f2 := S3.out.f1 HR.out (by omega) (k + 1) (by omega)
          obtain ⟨u3, c3⟩ := S3.out.c2 HR.out (by omega) k (k + 1) (by omega) (by omega) (enc y)
          rw [← hk1] at c3
          rw [e1] at c1
          rw [e2, ← hk1] at c2
          rw [← hk1] at f2
          have HK1 : Aside (k1 = k + 1) := hk1
          clear S3 e1 e2 hk1 hB HK
          go_wp2_with fail
          go_big_region_o
          clear c1 c2 c3 f1 f2
          generalize ((wr.setCell ⟨blk, off + k, none⟩ (enc y)).setCell ⟨blk, off + k1, none⟩ (enc x0)).drew = w2 at S4 ⊢
          go_wp2
          have hk1 := HK1.out
          exact ⟨⟨k1, A ++ [y], B', _, by go_num, by omega, by omega, by simp; omega, HPA.out.2, by rw [size_swp]; exact hds, S4, HL⟩, by simp [intOf]; omega⟩
        · have hz2 : ¬ (k : Int) < (i : Int) - 1 := by omega
          have hB0 : B = [] := List.length_eq_zero_iff.1 (by omega)
          subst hB0
          go_wp2
          try simp only [Exit.inBlock, Exit.then]
          refine bodyPost_ret (results_none rfl _ _ _) rfl ?_
          refine ⟨rfl, dk, S3.out, ?_⟩
          rw [HK.out.1, HMG.out.1, ← HK.out.2]
          simp
end Go.Proofs.YtlnkbhbpkmnkaaaGreatDoor.Stb
namespace Go.Proofs.YtlnkbhbpkmnkaaaGreatDoor.Stb
open Go.Shelf Go.RowKit Go.Proofs Go.Lib Go.Sort
variable {α : Type} [Inhabited α]

theorem swp_back {d : Array α} {P Q : List α} {x y : α} {i j : Nat} (h : d.toList = P ++ x :: y :: Q) (hi : i = P.length + 1) (hj : j = P.length) : (swp d i j).toList = P ++ y :: x :: Q := by
  have h1 : d[j]! = x := by rw [hj]; exact at_list h
  have h2 : d[i]! = y := by
    have := at_list (P := P ++ [x]) (x := y) (Q := Q) (d := d) (by rw [h]; simp)
    rw [hi, ← this]
    congr 1
    simp
  unfold swp
  rw [h1, h2, Array.toList_setIfInBounds, Array.toList_setIfInBounds, h]
  subst hi hj
  rw [List.set_append_right _ _ (by omega), show P.length + 1 - P.length = 1 by omega]
  simp only [List.set_cons_succ, List.set_cons_zero]
  rw [List.set_append_right _ _ (Nat.le_refl _)]
  simp
set_option maxHeartbeats 16000000 in
set_option maxRecDepth 1000000 in
theorem sym_last (enc : α → Value) (cf : α → α → Int) (gf : Nat) (cb : Array Value) (blk off cap a m b : Nat) (d0 d : Array α) (w0 w : World) (P L : List α) (y0 : α) (Q : List α)
    (eg : ∀ args w, (callFunc gf args).run Tryz.prog w = .ok (.enter gf args) w) (hcmp : CmpLays1 Tryz.prog gf cb enc cf blk off d0.size w0) (hR : Row1 enc w0 blk off d0) (hs : d0.size = d.size) (S : SW enc w0 blk off d w) (ho : Ord (ltOf cf))
    (hd : d.toList = P ++ (L ++ (y0 :: Q))) (hP : P.length = a) (hm : L.length + a = m) (hb : m + 1 = b) (ha1 : a + 1 < m) (hU : Up (ltOf cf) L) (hsz : d.size < 1000000) :
    Calls Tryz.prog 116 #[.slice (some ⟨blk, off, none⟩) d.size cap, .int .i64 a, .int .i64 m, .int .i64 b, .func (.func gf) #[] cb] w fun e w' => e = .returned (.tuple #[]) ∧ ∃ d', SW enc w0 blk off d' w' ∧ d'.toList = P ++ (mg (ltOf cf) L [y0] ++ Q) := by
  have mixed : Tryz.prog.follows Departure.mixedOrders = true := by kernel_rfl
  have u22 := run_underlying (P := Tryz.prog) Tryz.underlying35
  have hcl0 := hR.hO.cells
  simp only [Value.cells] at hcl0
  have hst := hR.hO.store Tryz.prog
  have HC : Aside _ := hcmp
  have S0 : Aside (SW enc w0 blk off d w) := S
  have HR : Aside (Row1 enc w0 blk off d0) := hR
  have HD : Aside (d.toList = P ++ (L ++ (y0 :: Q))) := hd
  have hlen : d.size = P.length + (L.length + (1 + Q.length)) := by rw [← Array.length_toList, hd]; simp; omega
  have hbd : b ≤ d.size := by omega
  have HP : Aside (P.length = a ∧ L.length + a = m) := ⟨hP, hm⟩
  have hx : d[m]! = y0 := by
    have := at_list (d := d) (P := P ++ L) (x := y0) (Q := Q) (by rw [hd]; simp)
    rw [← this]
    congr 1
    rw [List.length_append]
    omega
  have hg : ∀ t, t < L.length → d[a + t]! = L[t]! := fun t ht => by
    rw [arr_list, hd, ← hP, app_get, app_left L (y0 :: Q) ht]
  have HX : Aside (d[m]! = y0) := hx
  have HG : Aside (∀ t, t < L.length → d[a + t]! = L[t]!) := hg
  have hmono : ∀ s t, s ≤ t → t < L.length → (!ltOf cf y0 L[t]!) = true → (!ltOf cf y0 L[s]!) = true := fun s t hst ht h => by
    have h1 := hU.at (ltOf cf) (fun x => by cases e : ltOf cf x x with | false => rfl | true => rw [ho.asym _ _ e] at e; cases e) (i := s) (j := t) hst ht
    rw [getElem!_pos L t ht] at h
    rw [getElem!_pos L s (by omega)]
    have h2 : ltOf cf y0 L[t] = false := by simpa using h
    rw [ho.trans _ _ _ h1 h2]
    rfl
  obtain ⟨pf, hpf⟩ : ∃ pf : Nat → Bool, pf = fun t => !ltOf cf y0 L[t]! := ⟨_, rfl⟩
  have HPF : Aside (∀ t, pf t = !ltOf cf y0 L[t]!) := fun t => by rw [hpf]
  have HM : Aside (∀ s t, s ≤ t → t < L.length → pf t = true → pf s = true) := fun s t h1 h2 h3 => by rw [HPF.out] at h3 ⊢; exact hmono s t h1 h2 h3
  clear hpf
  have hds0 := hs
  obtain ⟨q1, hq1⟩ : ∃ q : Nat, q = m - a := ⟨_, rfl⟩
  have rma : IntKind.i64.wrap ((m : Int) - (a : Int)) = (q1 : Int) := by rw [IntKind.wrap_i64]; omega
  have nma : ((q1 : Int) == 1) = false := by simp; omega
  have rbm : IntKind.i64.wrap ((b : Int) - (m : Int)) = 1 := by rw [IntKind.wrap_i64]; omega
  have pm : (0 : Int) ≤ (m : Int) := by omega
  have bm : (m : Int) < (d.size : Int) := by omega
  have ham : a ≤ m := by omega
  clear S hd hR hcmp hx hg hmono hU hlen hP hm hq1
  go_enter Tryz.func116, Tryz.ntmps116
  go_wp2
  go_loopw [14, 15] (fun vi vj wr => ∃ (i j : Nat), vi = .int .i64 (i : Int) ∧ vj = .int .i64 (j : Int) ∧ a ≤ i ∧ i ≤ j ∧ j ≤ m ∧ Aside (SW enc w0 blk off d wr) ∧ Aside (Cut pf 0 L.length (i - a) (j - a))) (fun vi vj _ => (intOf vj).toNat - (intOf vi).toNat)
  case atStart => exact ⟨a, m, rfl, rfl, Nat.le_refl _, ham, Nat.le_refl _, S0, ⟨fun t _ h => by omega, fun t h1 h2 => by have := HP.out.2; omega⟩⟩
  case round =>
    clear S0
    obtain ⟨i, j, rfl, rfl, hmi, hij, hjb, S1, HCU⟩ := hrel
    by_cases hlt : i < j
    · have hz : (i : Int) < (j : Int) := by omega
      obtain ⟨h, hh⟩ : ∃ h, h = (i + j) / 2 := ⟨_, rfl⟩
      have hh1 : i ≤ h := by omega
      have hh2 : h < j := by omega
      have r1 : IntKind.i64.wrap ((i : Int) + (j : Int)) = (i : Int) + (j : Int) := by rw [IntKind.wrap_i64]; omega
      have r2 : IntKind.u64.wrap ((i : Int) + (j : Int)) = (i : Int) + (j : Int) := by rw [IntKind.wrap_u64]; omega
      have r3 : ((i : Int) + (j : Int)) / 2 = (h : Int) := by omega
      have HH : Aside (h = (i + j) / 2) := hh
      clear hh
      have ph : (0 : Int) ≤ (h : Int) := by omega
      have bh : (h : Int) < (d.size : Int) := by omega
      obtain ⟨y, hy⟩ : ∃ y, y = d[h]! := ⟨_, rfl⟩
      have hyR : y = L[h - a]! := by rw [hy, ← HG.out (h - a) (by have := HP.out.2; omega)]; congr 1; omega
      have l1 := S1.out.cl HR.out (by omega) h (by omega)
      have l2 := S1.out.cl HR.out (by omega) m (by omega)
      rw [← hy] at l1
      rw [HX.out] at l2
      have hc := S1.out.cmp HC.out (by omega) y0 y
      have HLT : Aside (pf (h - a) = !decide (cf y0 y < 0)) := by show _ = _; rw [HPF.out, ← hyR]; rfl
      clear hy hyR
      go_wp2_with fail
      cases hd : decide (cf y0 y < 0) with
      | false =>
        have hv : ¬ cf y0 y < 0 := of_decide_eq_false hd
        go_quiet_grown (first | (go_at_fn gf; refine Calls.grown_of (hc _ _)))
        have S2 : Aside (SW enc w0 blk off d (grow (wr.drewN nq) osq)) := S1.out.grown nq osq
        clear l1 l2 hc S1
        generalize grow (wr.drewN nq) osq = w2 at S2 ⊢
        clear nq osq
        have r4 : IntKind.i64.wrap ((h : Int) + 1) = (h : Int) + 1 := by rw [IntKind.wrap_i64]; omega
        go_wp2
        refine ⟨⟨h + 1, j, by go_num, rfl, by omega, by omega, hjb, S2, ?_⟩, by simp [intOf]; omega⟩
        have := HCU.out.more HM.out (h := h - a) (by have := HP.out.2; omega) (by rw [HLT.out, hd]; rfl)
        rwa [show h - a + 1 = h + 1 - a by omega] at this
      | true =>
        have hv : cf y0 y < 0 := of_decide_eq_true hd
        go_quiet_grown (first | (go_at_fn gf; refine Calls.grown_of (hc _ _)))
        have S2 : Aside (SW enc w0 blk off d (grow (wr.drewN nq) osq)) := S1.out.grown nq osq
        clear l1 l2 hc S1
        generalize grow (wr.drewN nq) osq = w2 at S2 ⊢
        clear nq osq
        go_wp2
        exact ⟨⟨i, h, rfl, rfl, hmi, hh1, by omega, S2, HCU.out.less HM.out (by rw [HLT.out, hd]; rfl)⟩, by simp [intOf]; omega⟩
    · have hz : ¬ (i : Int) < (j : Int) := by omega
      obtain rfl : i = j := by omega
      have HI : Aside (∃ L1 L2, L = L1 ++ L2 ∧ L1.length + a = i ∧ mg (ltOf cf) L [y0] = L1 ++ y0 :: L2) := by
        refine ⟨L.take (i - a), L.drop (i - a), (List.take_append_drop _ _).symm, by rw [List.length_take]; have := HP.out.2; omega, ?_⟩
        have := mg_last (ltOf cf) y0 (L.take (i - a)) (L.drop (i - a)) (fun y hy => ?_) (fun y hy => ?_)
        · rwa [List.take_append_drop] at this
        · obtain ⟨t, ht, rfl⟩ := List.mem_iff_getElem.1 hy
          rw [List.length_take] at ht
          rw [List.getElem_take, ← getElem!_pos L t (by omega)]
          have := HCU.out.yes t (Nat.zero_le _) (by omega)
          rw [HPF.out] at this
          simpa using this
        · obtain ⟨t, ht, rfl⟩ := List.mem_iff_getElem.1 hy
          rw [List.length_drop] at ht
          rw [List.getElem_drop, ← getElem!_pos L (i - a + t) (by omega)]
          have := HCU.out.no (i - a + t) (by omega) (by omega)
          rw [HPF.out] at this
          simpa using this
      obtain ⟨L1, L2, hL12, hL1, hmg⟩ := HI.out
      have HD2 : Aside (d.toList = P ++ (L1 ++ (L2 ++ (y0 :: ([] ++ Q))))) := by show _ = _; rw [HD.out, hL12]; simp
      have HMG : Aside (mg (ltOf cf) L [y0] = L1 ++ y0 :: L2 ∧ L1.length + a = i ∧ L2.length = m - i) := ⟨hmg, hL1, by have := HP.out.2; rw [hL12, List.length_append] at this; omega⟩
      clear HI hL12 hL1 hmg HCU HM HG HX HD HPF
      go_wp2_with fail
      go_loopw [17] (fun vk wk => ∃ (k : Nat) (A B : List α) (dk : Array α), vk = .int .i64 (k : Int) ∧ i ≤ k ∧ k ≤ m ∧ A.length = k - i ∧ dk.size = d.size ∧ Aside (SW enc w0 blk off dk wk) ∧ Aside (dk.toList = P ++ (L1 ++ (A ++ (y0 :: (B ++ Q)))) ∧ A ++ B = L2)) (fun vk _ => (intOf vk).toNat)
      case atStart => exact ⟨m, L2, [], d, rfl, hjb, Nat.le_refl _, HMG.out.2.2, rfl, S1, HD2.out, by simp⟩
      case round =>
        clear S1 HD2
        obtain ⟨k, A, B, dk, rfl, hik, hkm, hA, hds, S3, HK⟩ := hrel
        by_cases hkl : i < k
        · have hz2 : (i : Int) < (k : Int) := by omega
          obtain ⟨A', x, rfl⟩ : ∃ A' x, A = A' ++ [x] := ⟨A.dropLast, A.getLast (by intro e; rw [e] at hA; simp at hA; omega), (List.dropLast_concat_getLast _).symm⟩
          obtain ⟨k1, hk1⟩ : ∃ k1, k1 = k - 1 := ⟨_, rfl⟩
          have rk : IntKind.i64.wrap ((k : Int) - 1) = (k1 : Int) := by rw [IntKind.wrap_i64]; omega
          have pk : (0 : Int) ≤ (k : Int) := by omega
          have bk : (k : Int) < (d.size : Int) := by omega
          have pk1 : (0 : Int) ≤ (k1 : Int) := by omega
          have bk1 : (k1 : Int) < (d.size : Int) := by omega
          have HPA : Aside (k1 = (P ++ L1 ++ A').length ∧ k = (P ++ L1 ++ A').length + 1 ∧ A'.length = k1 - i) := by
            simp at hA
            have h1 := HMG.out.2.1
            have h2 := HP.out.1
            refine ⟨?_, ?_, by omega⟩ <;> simp <;> omega
          have e1 : dk[k1]! = x := by rw [HPA.out.1]; exact at_list (Q := y0 :: (B ++ Q)) (by rw [HK.out.1]; simp)
          have e2 : dk[k]! = y0 := by
            have := at_list (d := dk) (P := P ++ L1 ++ A' ++ [x]) (x := y0) (Q := B ++ Q) (by rw [HK.out.1]; simp)
            rw [← this]
            congr 1
            rw [HPA.out.2.1]
            simp
            omega
          have S4 : Aside (SW enc w0 blk off (swp dk k k1) ((wr.setCell ⟨blk, off + k, none⟩ (enc x)).setCell ⟨blk, off + k1, none⟩ (enc y0)).drew) := by
            have := S3.out.swapped HR.out k k1 (by omega) (by omega)
            rw [e1, e2] at this
            exact this
          have HL : Aside ((swp dk k k1).toList = P ++ (L1 ++ (A' ++ (y0 :: ((x :: B) ++ Q)))) ∧ A' ++ (x :: B) = L2) := by
            refine ⟨?_, by rw [← HK.out.2]; simp⟩
            rw [swp_back (d := dk) (P := P ++ L1 ++ A') (x := x) (y := y0) (Q := B ++ Q) (by rw [HK.out.1]; simp) HPA.out.2.1 HPA.out.1]
            simp
          have c1 := S3.out.c1 HR.out (by omega) k (by omega)
          have c2 := S3.out.c1 HR.out (by omega) k1 (by omega)
          have f1 := S3.out.f1 HR.out (by omega) k (by omega)
          have f2 := S3.out.f1 HR.out (by omega) k1 (by omega)
          obtain ⟨u3, c3⟩ := S3.out.c2 HR.out (by omega) k k1 (by omega) (by omega) (enc x)
          rw [e2] at c1
          rw [e1] at c2
          have HK1 : Aside (k1 = k - 1) := hk1
          clear S3 e1 e2 hk1 hA HK
          go_wp2_with fail
          go_big_region_o
          clear c1 c2 c3 f1 f2
          generalize ((wr.setCell ⟨blk, off + k, none⟩ (enc x)).setCell ⟨blk, off + k1, none⟩ (enc y0)).drew = w2 at S4 ⊢
          go_wp2
          have hk1 := HK1.out
          exact ⟨⟨k1, A', x :: B, _, by go_num, by omega, by omega, HPA.out.2.2, by rw [size_swp]; exact hds, S4, HL⟩, by simp [intOf]; omega⟩
        · have hz2 : ¬ (i : Int) < (k : Int) := by omega
          have hA0 : A = [] := List.length_eq_zero_iff.1 (by omega)
          subst hA0
          go_wp2
          try simp only [Exit.inBlock, Exit.then]
          refine bodyPost_ret (results_none rfl _ _ _) rfl ?_
          refine ⟨rfl, dk, S3.out, ?_⟩
          rw [HK.out.1, HMG.out.1, ← HK.out.2]
          simp
end Go.Proofs.YtlnkbhbpkmnkaaaGreatDoor.Stb
