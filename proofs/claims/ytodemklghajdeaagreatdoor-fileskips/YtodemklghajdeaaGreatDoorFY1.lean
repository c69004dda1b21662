/- slices.Chunk at rows, and the iterator that it hands back. -/
import Derived.RangeFuncNested
import Derived.RangeFuncBound
import Derived.RangeFuncCalls
import Derived.RangeFuncLeaves
import Derived.Shelf.Abstract
import Derived.Shelf.RegionOpen
import Derived.WalkKit
import Derived.OwnWalkIn
import Derived.TacticsInMore
import Derived.LoopNIn
import Derived.LoopIn
import Derived.Test.YtodemklghajdeaaGreatDoorFX3
namespace Go.Proofs.YtodemklghajdeaaGreatDoor
open Go.RowKit Go.Proofs Go.Shelf Go.Joins

attribute [local go_sem] Oper.semAt_some

set_option maxHeartbeats 1000000 in
theorem chunk_any (ra : Option Addr) (len cap : Nat) (w : World) :
    Calls Tryz.prog 41 #[.slice ra len cap, .int .i64 6] w fun e w' => e = .returned (.func (.func 70) #[] #[.pointer (some ⟨w.heap.size, 0, none⟩), .pointer (some ⟨w.heap.size + 1, 0, none⟩)]) ∧ w' = (w.alloc (.cells #[.slice ra len cap] 23)).alloc (.cells #[.int .i64 6] 3) := by
  go_enter Tryz.func41, Tryz.ntmps41
  go_wp2
  go_ret
  exact ⟨rfl, rfl⟩

/-- Which chunk. -/
abbrev CK (n : Nat) := { k : Nat // 6 * k < n }
def ckN {n : Nat} (x : CK n) : Nat := x.1
def ckL (n k : Nat) : Nat := if n - 6 * k < 6 then n - 6 * k else 6
def ckV (b off n : Nat) (k : CK n) : Value := .slice (some ⟨b, off + 6 * k.1, none⟩) (ckL n k.1) (ckL n k.1)
def KpC (Bs Bn : Nat) (W W' : World) : Prop := W'.cell? ⟨Bs, 0, none⟩ = W.cell? ⟨Bs, 0, none⟩ ∧ W'.cell? ⟨Bn, 0, none⟩ = W.cell? ⟨Bn, 0, none⟩
theorem KpC.t {Bs Bn : Nat} {A B C : World} (h : KpC Bs Bn A B) (k : KpC Bs Bn B C) : KpC Bs Bn A C := ⟨k.1.trans h.1, k.2.trans h.2⟩

set_option maxRecDepth 100000 in
set_option maxHeartbeats 4000000 in
theorem chunk1_in (n : Nat) (_hn : 1 ≤ n) (l Bs Bn b off len cap : Nat) (hlen : len ≤ 1000) (hcap : len ≤ cap) (J Jx : List (CK len) → World → Prop) (hJd : ∀ pre W, J pre W → J pre W.drew)
    (hY : ∀ pre x W, J pre W → pre.length < nGr len → YieldAt Fence.wide (n - 1) Tryz.prog l #[ckV b off len x] W fun e W' =>
      (e = .returned (.bool true) ∧ J (pre ++ [x]) W' ∧ KpC Bs Bn W W') ∨ (e = .returned (.bool false) ∧ Jx (pre ++ [x]) W'))
    (W : World) (hBs : W.cell? ⟨Bs, 0, none⟩ = some (.slice (some ⟨b, off, none⟩) len cap)) (hBn : W.cell? ⟨Bn, 0, none⟩ = some (.int .i64 6)) (h0 : J [] W) :
    CallsIn Fence.wide n Tryz.prog 70 #[.func (.yield l) #[] #[], .pointer (some ⟨Bs, 0, none⟩), .pointer (some ⟨Bn, 0, none⟩)] W fun e W' => (∃ v, e = .returned v) ∧
      ((∃ ys : List (CK len), ys.map ckN = List.range (nGr len) ∧ J ys W') ∨ (∃ pre : List (CK len), True ∧ Jx pre W')) := by
  refine callsIn_of_wp Tryz.func70 rfl trivial ?_ rfl
  simp only [Tryz.ntmps70, List.size_toArray, List.length_cons, List.length_nil, Nat.reduceAdd, Nat.reduceSub, Array.replicate_succ, Array.replicate_zero, List.push_toArray, List.append_toArray, List.nil_append, List.cons_append]
  gi_wp2
  gi_loopw [4] (fun i wr => ∃ (k : Nat) (pre : List (CK len)), k ≤ nGr len ∧ i = .int .i64 ((6 * k : Nat) : Int) ∧ pre.map ckN = List.range k ∧ J pre wr ∧ wr.cell? ⟨Bs, 0, none⟩ = some (.slice (some ⟨b, off, none⟩) len cap) ∧ wr.cell? ⟨Bn, 0, none⟩ = some (.int .i64 6))
    (fun i _ => len + 6 - (intOf i).toNat)
  case atStart => exact ⟨0, [], Nat.zero_le _, rfl, rfl, h0, hBs, hBn⟩
  case round =>
    obtain ⟨k, pre, hk, rfl, hpre, hJs, q0, q1⟩ := hrel
    have hpl : pre.length = k := by have := congrArg List.length hpre; simpa using this
    by_cases hlt : 6 * k < len
    · obtain ⟨fn, tmps, assign, body, hy, hR⟩ := hY pre ⟨k, hlt⟩ wr.drew (hJd _ _ hJs) (by rw [hpl]; unfold nGr; omega)
      have HLT : Hid (6 * k < len) := mkH hlt
      have hkc : k < nGr len := by unfold nGr; omega
      obtain ⟨m, hm⟩ : ∃ m, 6 * k = m := ⟨_, rfl⟩
      have eL : ckL len k = (((m : Int) + min 6 ((len - m : Nat) : Int)).toNat - m) := by unfold ckL; rw [hm]; split <;> omega
      unfold ckV at hy
      dsimp only at hy
      rw [eL, hm] at hy
      rw [hm] at hlt ⊢
      have hlt' : (m : Int) < (len : Int) := by omega
      have hmle : (m : Int) ≤ (len : Int) := by omega
      have hm0 : (0 : Int) ≤ (m : Int) := by omega
      have hcm : ¬ cap = m := by omega
      have hmc : m ≤ cap := by omega
      have HM := mkH hm
      clear eL hm
      gi_wp2
      refine wpIn_wide.2 ?_
      go_region
      all_goals gi_wp2
      refine hR.mono ?_
      rintro e W3 (⟨rfl, hJ3, hk3⟩ | ⟨rfl, hJx3⟩)
      · have p0 : W3.cell? ⟨Bs, 0, none⟩ = some (.slice (some ⟨b, off, none⟩) len cap) := hk3.1.trans q0
        have p1 : W3.cell? ⟨Bn, 0, none⟩ = some (.int .i64 6) := hk3.2.trans q1
        gi_wp2
        go_roundw
        case rel =>
          refine ⟨k + 1, pre ++ [⟨k, HLT.out⟩], hkc, ?_, ?_, hJ3, p0, p1⟩
          · have := HM.out
            congr 1
            omega
          · rw [List.map_append, hpre, List.range_succ]; rfl
        case measure => simp [intOf]; omega
      · gi_wp2
        refine bodyPost_ret (results_none rfl _ _ _) rfl ?_
        exact ⟨⟨_, rfl⟩, .inr ⟨_, trivial, hJx3⟩⟩
    · have hge : ¬ ((6 * k : Nat) : Int) < (len : Int) := by omega
      have ek : k = nGr len := by unfold nGr at hk ⊢; omega
      gi_wp2
      go_end0
      exact ⟨⟨_, rfl⟩, .inl ⟨pre, by rw [hpre, ek], hJs⟩⟩

theorem chunk_stops (n : Nat) (hn : 1 ≤ n) (Bs Bn b off len cap : Nat) (hlen : len ≤ 1000) (hcap : len ≤ cap) (w : World) (hBs : Bs < w.heap.size) (hBn : Bn < w.heap.size) (hs : w.cell? ⟨Bs, 0, none⟩ = some (.slice (some ⟨b, off, none⟩) len cap)) (h6 : w.cell? ⟨Bn, 0, none⟩ = some (.int .i64 6)) :
    SeqStopsK Fence.wide n Tryz.prog 70 #[.pointer (some ⟨Bs, 0, none⟩), .pointer (some ⟨Bn, 0, none⟩)] (fun x : CK len => #[ckV b off len x]) (KpC Bs Bn) (fun ys => ys.map ckN = List.range (nGr len)) (fun _ => True) (nGr len) w := fun l J Jx W hW hJ _ hY h0 =>
  chunk1_in n hn l Bs Bn b off len cap hlen hcap J Jx (fun pre W h => hJ pre W _ none h ⟨rfl, rfl, rfl, Nat.le_refl _, fun _ _ _ => rfl⟩ (fun r e => by cases e)) hY W ((hW.cell (p := ⟨Bs, 0, none⟩) hBs).trans hs) ((hW.cell (p := ⟨Bn, 0, none⟩) hBn).trans h6) h0
end Go.Proofs.YtodemklghajdeaaGreatDoor
