/- What millpondkeep.cond does at a list of no parts, and how a list of parts that came in lies in memory. -/
import Derived.Test.YtodemklghajdeaaGreatDoorSK7
import Derived.Test.YtodemklghajdeaaGreatDoorEWb
import Derived.ProofKit
import Derived.OpenShut
import Derived.Lib.SmallJoins
import Derived.Deep.Slices
import Derived.Deep.Strs
namespace Go.Proofs.YtodemklghajdeaaGreatDoor.S
open Go.RowKit Go.Proofs

theorem info32 : (Tryz.prog.info? 60).map (fun i => (i.zero, i.size, i.bytes)) = some (some (.pointer none), 1, 8) := by kernel_rfl

theorem wrap_small (m : Nat) (h : m ≤ 1000) : IntKind.i64.wrap (m : Int) = (m : Int) := by
  rw [IntKind.wrap_i64]; omega
theorem InC.ptr {w : World} : ∀ {T : CT} {v : Value}, InC w T v → ∃ p, v = .pointer p
  | .nil, _, h => ⟨none, h⟩
  | .node _ _ ⟨_, _, _, _, _⟩ _ _, _, ⟨b, _, _, e, _⟩ => ⟨some ⟨b, 0, none⟩, e⟩
theorem below3 (w : World) (X Y Z : Obj) : Below w.heap.size w (((w.alloc X).alloc Y).alloc Z).drew := ((((Below.refl _ _).alloc (Nat.le_refl _) _).alloc (by simp) _).alloc (by simp; omega) _).drew
theorem third (w : World) (X Y Z : Obj) : (((w.alloc X).alloc Y).alloc Z).drew.heap[w.heap.size + 1 + 1]? = some Z := by
  rw [← show ((w.alloc X).alloc Y).heap.size = w.heap.size + 1 + 1 by simp]
  exact heap_alloc_new _ _
theorem second (w : World) (X Y Z : Obj) : (((w.alloc X).alloc Y).alloc Z).drew.heap[w.heap.size + 1]? = some Y := by
  refine (Below.heap_alloc _ _ _ (by simp)).trans ?_
  rw [← show (w.alloc X).heap.size = w.heap.size + 1 by simp]
  exact heap_alloc_new _ _
theorem first_cell (w : World) (cs : Array Value) (Y Z : Obj) : (((w.alloc (.cells cs 108)).alloc Y).alloc Z).drew.cell? ⟨w.heap.size, 0, none⟩ = cs[0]? := by
  show (((w.alloc (.cells cs 108)).alloc Y).alloc Z).cell? ⟨w.heap.size, 0, none⟩ = cs[0]?
  rw [World.cell?_alloc_past _ _ _ (by simp; omega), World.cell?_alloc_past _ _ _ (by simp), World.cell?_alloc_at _ _ _ _ rfl]
theorem take_one {Ts : List CT} {T : CT} (h : Ts[0]? = some T) : depthT T ≤ ((Ts.take 1).map depthT).sum := by
  cases Ts with
  | nil => simp at h
  | cons a l => simp at h; subst h; simp
theorem take_next {Ts : List CT} {T : CT} {q : Nat} (h : Ts[q]? = some T) : ((Ts.take (q + 1)).map depthT).sum = ((Ts.take q).map depthT).sum + depthT T := by
  have hq : q < Ts.length := by
    rcases Nat.lt_or_ge q Ts.length with h' | h'
    · exact h'
    · rw [List.getElem?_eq_none h'] at h; cases h
  rw [List.take_succ_eq_append_getElem hq, List.map_append, List.sum_append]
  rw [List.getElem?_eq_getElem hq] at h
  injection h with h
  simp [h]
theorem row_cells {w0 wr : World} {i g n cp : Nat} {vs : List Value} {Ts : List CT} (h : Stack w0 wr i (.slice (some ⟨g, 0, none⟩) n cp) n vs Ts) (m : Nat) :
    ∀ W, Below wr.heap.size wr W → ∀ b, (some ⟨g, 0, none⟩ : Option Addr) = some b → ∀ (j : Nat) (u : Value), (vs.take m)[j]? = some u → W.cell? (b.add j) = some u := by
  intro W hb b e j u hu
  cases e
  have hadd : (⟨g, 0, none⟩ : Addr).add j = ⟨g, j, none⟩ := by unfold Addr.add; split <;> simp_all
  rw [hadd]
  have hu' : vs[j]? = some u := by
    rw [List.getElem?_take] at hu
    split at hu
    · exact hu
    · cases hu
  have := (h.up hb (Nat.le_refl _)).cells hu'
  exact this

theorem exit_facts {w0 wr : World} {i g n cp : Nat} {vs : List Value} {Ts : List CT} (h : Stack w0 wr i (.slice (some ⟨g, 0, none⟩) n cp) n vs Ts) :
    ∃ BW : World → Prop, Hid (BW wr ∧ (∀ W X, BW W → BW (W.alloc X)) ∧ (∀ W, BW W → ∀ q, q < n → ∃ pu Tq, W.cell? ⟨g, q, none⟩ = some (.pointer pu) ∧ InC W Tq (.pointer pu) ∧ 0 < depthT Tq ∧ Ts[q]? = some Tq) ∧ (∀ W, BW W → Below w0.heap.size w0 W)) := by
  refine ⟨fun W => Below wr.heap.size wr W, Below.refl _ _, fun W X hb => hb.alloc hb.size _, fun W hb q hq => ?_, fun W hb => Below.up h.bel hb⟩
  obtain ⟨u, T, hu, hT', hT, hd⟩ := h.last hq
  obtain ⟨pu, rfl⟩ := hT.ptr
  exact ⟨pu, T, (h.up hb (Nat.le_refl _)).cells hu, hT.up hb, hd, hT'⟩
theorem and_step {w : World} {T Tq : CT} {p pu : Option Addr} {Ts : List CT} {q : Nat} {BW : World → Prop} (h1 : InC w T (.pointer p)) (h2 : InC w Tq (.pointer pu)) (d1 : 0 < depthT T) (d2 : 0 < depthT Tq) (hs : depthT T ≤ ((Ts.take q).map depthT).sum) (ht : Ts[q]? = some Tq)
    (hB : BW (w.alloc (.cells #[.int .i64 9, .string ⟨#[]⟩, .int .i64 0, .int .i64 0, .string ⟨#[]⟩, .pointer p, .pointer pu] 110))) :
    InC (w.alloc (.cells #[.int .i64 9, .string ⟨#[]⟩, .int .i64 0, .int .i64 0, .string ⟨#[]⟩, .pointer p, .pointer pu] 110)) (.node 0 0 ⟨9, ⟨#[]⟩, 0, 0, ⟨#[]⟩⟩ T Tq) (.pointer (some ⟨w.heap.size, 0, none⟩)) ∧ 0 < depthT (.node 0 0 ⟨9, ⟨#[]⟩, 0, 0, ⟨#[]⟩⟩ T Tq) ∧ depthT (.node 0 0 ⟨9, ⟨#[]⟩, 0, 0, ⟨#[]⟩⟩ T Tq) ≤ ((Ts.take (q + 1)).map depthT).sum ∧ BW (w.alloc (.cells #[.int .i64 9, .string ⟨#[]⟩, .int .i64 0, .int .i64 0, .string ⟨#[]⟩, .pointer p, .pointer pu] 110)) := by
  have hb : Below w.heap.size w (w.alloc (.cells #[.int .i64 9, .string ⟨#[]⟩, .int .i64 0, .int .i64 0, .string ⟨#[]⟩, .pointer p, .pointer pu] 110)) := (Below.refl _ _).alloc (Nat.le_refl _) _
  refine ⟨?_, by simp only [depthT]; omega, by rw [take_next ht]; simp only [depthT]; omega, hB⟩
  unfold InC
  exact ⟨_, .pointer p, .pointer pu, rfl, heap_alloc_new _ _, by omega, h1.up hb, h2.up hb⟩
theorem inNil (w : World) : InC w .nil (.pointer none) := rfl
theorem Stack.step {w0 wr w1 : World} {i n m : Nat} {v v' : Value} {vs : List Value} {Ts : List CT} {Lt Rt : CT} {pl pr : Value} {c k n' : Int} {col t : ByteArray} {X Z : Obj} (h : Stack w0 wr i v n vs Ts) (hm : m ≤ n) (hcd : 1 ≤ c ∧ c ≤ 11) (hl : InC wr Lt pl) (hr : InC wr Rt pr)
    (hd : ((Ts.take m).map depthT).sum + (1 + max (depthT Lt) (depthT Rt)) ≤ i + 1)
    (hg : (((wr.alloc X).alloc (.cells #[.int .i64 c, .string col, .int .i64 k, .int .i64 n', .string t, pl, pr] 110)).alloc Z).drew.grownBy w1 none)
    (ho : w1.ownsRow (((wr.alloc X).alloc (.cells #[.int .i64 c, .string col, .int .i64 k, .int .i64 n', .string t, pl, pr] 110)).alloc Z).drew.heap.size 60 1 v' (m + 1) (vs.take m ++ [.pointer (some ⟨wr.heap.size + 1, 0, none⟩)])) :
    Stack w0 w1 (i + 1) v' (m + 1) (vs.take m ++ [.pointer (some ⟨wr.heap.size + 1, 0, none⟩)]) (Ts.take m ++ [.node 0 0 ⟨c, col, k, n', t⟩ Lt Rt]) := by
  have hb := below3 wr X (.cells #[.int .i64 c, .string col, .int .i64 k, .int .i64 n', .string t, pl, pr] 110) Z
  refine (h.up hb (Nat.le_refl _)).replace m hm ?_ (by simp only [depthT]; omega) (by simp only [depthT]; omega) hg ho
  unfold InC
  exact ⟨_, pl, pr, rfl, second wr _ _ _, hcd, hl.up hb, hr.up hb⟩

theorem below2 (w : World) (X Y : Obj) : Below w.heap.size w ((w.alloc X).alloc Y) := ((Below.refl _ _).alloc (Nat.le_refl _) _).alloc (by simp) _
theorem first2 (w : World) (X Y : Obj) (H : Nat) (hH : w.heap.size = H) : ((w.alloc X).alloc Y).heap[H]? = some X := by
  subst hH
  exact (Below.heap_alloc _ _ _ (by simp)).trans (heap_alloc_new _ _)
theorem second2 (w : World) (X Y : Obj) (H : Nat) (hH : w.heap.size + 1 = H) : ((w.alloc X).alloc Y).heap[H]? = some Y := by
  subst hH
  rw [← show (w.alloc X).heap.size = w.heap.size + 1 by simp]
  exact heap_alloc_new _ _
theorem Stack.leaf {w0 wr w1 w2 : World} {i n : Nat} {v v' : Value} {vs : List Value} {Ts : List CT} {c k n' : Int} {col t : ByteArray} {Z : Obj} {H : Nat} (h : Stack w0 wr i v n vs Ts) (hcd : 1 ≤ c ∧ c ≤ 11) (hb : Below wr.heap.size wr w1) (hH : w1.heap.size = H)
    (hg : ((w1.alloc (.cells #[.int .i64 c, .string col, .int .i64 k, .int .i64 n', .string t, .pointer none, .pointer none] 110)).alloc Z).grownBy w2 v.ownBlock)
    (ho : w2.ownsRow w0.heap.size 60 1 v' (n + 1) (vs ++ [.pointer (some ⟨H, 0, none⟩)])) :
    Stack w0 w2 (i + 1) v' (n + 1) (vs ++ [.pointer (some ⟨H, 0, none⟩)]) (Ts ++ [.node 0 0 ⟨c, col, k, n', t⟩ .nil .nil]) := by
  refine (h.up (Below.up hb (below2 w1 _ _)) (Nat.le_refl _)).push ?_ (by simp [depthT]) hg ho
  unfold InC
  exact ⟨_, .pointer none, .pointer none, rfl, first2 w1 _ _ H hH, hcd, inNil _, inNil _⟩

set_option maxHeartbeats 40000000 in
set_option maxRecDepth 100000 in
theorem cond_some (bl ol L cap : Nat) (PC PK PN : Nat → Int) (PL PT : Nat → ByteArray) (w : World) (_hL : L ≤ cap) (_hcap : cap ≤ maxLen) (hT : ∀ j, (PT j).size ≤ maxLen) (hbl : bl < w.heap.size)
    (q0 : ∀ j, j < L → w.cell? ⟨bl, ol + j * 5, none⟩ = some (.int .i64 (PC j))) (q1 : ∀ j, j < L → w.cell? ⟨bl, ol + j * 5 + 1, none⟩ = some (.string (PL j)))
    (q2 : ∀ j, j < L → w.cell? ⟨bl, ol + j * 5 + 2, none⟩ = some (.int .i64 (PK j))) (q3 : ∀ j, j < L → w.cell? ⟨bl, ol + j * 5 + 3, none⟩ = some (.int .i64 (PN j))) (q4 : ∀ j, j < L → w.cell? ⟨bl, ol + j * 5 + 4, none⟩ = some (.string (PT j))) :
    Calls Tryz.prog 21 #[.slice (some ⟨bl, ol, none⟩) L cap] w fun e w' => ∃ v T, e = .returned v ∧ InC w' T v ∧ depthT T ≤ 14 ∧ Below w.heap.size w w' := by
  obtain ⟨i0, hi0, hz0, hz1, hz2⟩ := info_parts info32
  have HI : Hid (Tryz.prog.info? 60 = some i0 ∧ i0.zero = some (.pointer none) ∧ i0.size = 1 ∧ i0.bytes = 8) := ⟨hi0, hz0, hz1, hz2⟩
  clear hi0 hz0 hz1 hz2
  have Q0 := mkHid q0; have Q1 := mkHid q1; have Q2 := mkHid q2; have Q3 := mkHid q3; have Q4 := mkHid q4; have HT := mkHid hT
  clear q0 q1 q2 q3 q4 hT
  unfold maxLen at _hcap
  go_enter Tryz.func21, Tryz.ntmps21
  go_wp2
  go_loopw [3, 4] (fun o i wr => ∃ (k n : Nat) (vs : List Value) (Ts : List CT), k ≤ 14 ∧ i = .int .i64 k ∧ Hid (Stack w wr k o n vs Ts)) (fun _ i _ => 14 - (intOf i).toNat)
  case atStart => exact ⟨0, 0, [], [], by omega, rfl, ⟨World.ownsRow_nil _ _ _ _, rfl, fun j T u h => by simp at h, by simp, Below.refl _ _⟩⟩
  case round =>
    obtain ⟨k, n, vs, Ts, hk, rfl, HS⟩ := hrel
    obtain ⟨ao, cp, rfl, hncp, hcp⟩ := ownsRow_slice HS.out.own
    have hnk := HS.out.n_le
    unfold maxLen at hcp
    by_cases hlt : k < L ∧ k < 14
    · obtain ⟨hkL, hk14⟩ := hlt
      have hb := HS.out.bel
      have hblr : bl < wr.heap.size := Nat.lt_of_lt_of_le hbl hb.size
      have c0 : wr.cell? ⟨bl, ol + k * 5, none⟩ = some (.int .i64 (PC k)) := (hb.cell (p := ⟨bl, ol + k * 5, none⟩) hbl).trans (Q0.out k hkL)
      have c1 : wr.cell? ⟨bl, ol + k * 5 + 1, none⟩ = some (.string (PL k)) := (hb.cell (p := ⟨bl, ol + k * 5 + 1, none⟩) hbl).trans (Q1.out k hkL)
      have c2 : wr.cell? ⟨bl, ol + k * 5 + 2, none⟩ = some (.int .i64 (PK k)) := (hb.cell (p := ⟨bl, ol + k * 5 + 2, none⟩) hbl).trans (Q2.out k hkL)
      have c3 : wr.cell? ⟨bl, ol + k * 5 + 3, none⟩ = some (.int .i64 (PN k)) := (hb.cell (p := ⟨bl, ol + k * 5 + 3, none⟩) hbl).trans (Q3.out k hkL)
      have c4 : wr.cell? ⟨bl, ol + k * 5 + 4, none⟩ = some (.string (PT k)) := (hb.cell (p := ⟨bl, ol + k * 5 + 4, none⟩) hbl).trans (Q4.out k hkL)
      have ht := HT.out k
      clear hb Q0 Q1 Q2 Q3 Q4 HT
      generalize PC k = c at *
      generalize PL k = col at *
      generalize PK k = kk at *
      generalize PN k = nn at *
      generalize PT k = tt at *
      have HB : Hid (∀ X, Below wr.heap.size wr (wr.alloc X)) := fun X => (Below.refl _ _).alloc (Nat.le_refl _) _
      by_cases h11 : c = 11
      · subst h11
        by_cases hn0 : n = 0
        · subst hn0
          go_wp2
          all_goals
            go_roundw
            case rel => exact ⟨k + 1, _, vs, Ts, by omega, by go_num, mkHid (HS.out.up (HB.out _) (by omega))⟩
            case measure => simp [intOf]; omega
        · obtain ⟨m, rfl⟩ : ∃ m, n = m + 1 := ⟨n - 1, by omega⟩
          obtain ⟨g, rfl, hg1, hg2⟩ := HS.out.some_of (by omega)
          obtain ⟨u, T, hu, hTu, hsum⟩ := HS.out.top1
          obtain ⟨pu, rfl⟩ := hTu.ptr
          have cu := HS.out.cells hu
          have HU : Hid (InC wr T (.pointer pu) ∧ vs[m]? = some (.pointer pu)) := ⟨hTu, hu⟩
          have HD := mkHid hsum
          have hm0 : (0 : Int) ≤ (m : Int) := by omega
          have hm1 : (m : Int) < (m : Int) + 1 := by omega
          clear hu hTu hsum
          have HC : Hid (∀ W, Below wr.heap.size wr W → ∀ b, (some ⟨g, 0, none⟩ : Option Addr) = some b → ∀ (j : Nat) (u' : Value), (vs.take m)[j]? = some u' → W.cell? (b.add j) = some u') := row_cells HS.out m
          have HV : Hid ((vs.take m).length = m * 1) := mkHid (by simp [HS.out.vlen])
          have hne := World.new_ne wr ⟨g, m, none⟩ cu
          have HK : Hid (∀ W, Below wr.heap.size wr W → W.cell? ⟨g, m, none⟩ = some (.pointer pu)) := fun W hb => (hb.cell (p := ⟨g, m, none⟩) hg2).trans cu
          have hwm : IntKind.i64.wrap (m : Int) = (m : Int) := wrap_small m (by omega)
          have hmc : (m : Int) ≤ (cp : Int) := by omega
          go_wp2_with fail
          go_region_held3 (fun w' => w'.cell? ⟨g, m, none⟩ = some (.pointer pu))
            (first
              | (go_keep; done)
              | exact HK.out _ (below3 wr _ _ _)
              | exact HK.out _ (Below.up (below3 wr _ _ _) (below_grown hgrow)))
            ((refine step_append_grows (by rfl) (.tmp 38) (.tmp 46) 106 (by rfl) 60 i0 (.pointer none) 1 8 Tryz.underlying106 HI.out.1 HI.out.2.1 HI.out.2.2.1 HI.out.2.2.2 rfl (by omega) (some ⟨g, 0, none⟩) m m (vs.take m) (by rfl) (by simp) HV.out (HC.out _ (below3 wr _ _ _)) ⟨wr.heap.size + 1 + 1, 0, none⟩ 1 1 [.pointer (some ⟨wr.heap.size + 1, 0, none⟩)] (by rfl) (by rfl) (World.news_of_block (cs := #[.pointer (some ⟨wr.heap.size + 1, 0, none⟩)]) (t := 60) (fr := (0, 0)) (third wr _ _ _)) (by simp [Value.oneCell']) (by omega) (by unfold maxLen; omega) (by omega) ?_; intro v' w1 hown hgrow))
          go_wp2
          go_roundw
          case rel => exact ⟨k + 1, m + 1, _, _, by omega, by go_num, mkHid (HS.out.step (by omega) (by omega) HU.out.1 (inNil wr) (by have := HD.out; simp only [depthT]; omega) hgrow hown)⟩
          case measure => simp [intOf]; omega
      have b11 : (c == 11) = false := by simpa using h11
      by_cases h9 : c = 9 ∨ c = 10
      · by_cases hn1 : n ≤ 1
        · rcases h9 with rfl | rfl
          · go_wp2
            all_goals
              go_roundw
              case rel => exact ⟨k + 1, _, vs, Ts, by omega, by go_num, mkHid (HS.out.up (HB.out _) (by omega))⟩
              case measure => simp [intOf]; omega
          · go_wp2
            all_goals
              go_roundw
              case rel => exact ⟨k + 1, _, vs, Ts, by omega, by go_num, mkHid (HS.out.up (HB.out _) (by omega))⟩
              case measure => simp [intOf]; omega
        · obtain ⟨m, rfl⟩ : ∃ m, n = m + 2 := ⟨n - 2, by omega⟩
          obtain ⟨g, rfl, hg1, hg2⟩ := HS.out.some_of (by omega)
          obtain ⟨u1, u2, T1, T2, hu1, hu2, hT1, hT2, hd1, hd2, hsum⟩ := HS.out.top2
          have cu1 := HS.out.cells hu1
          have cu2 := HS.out.cells hu2
          obtain ⟨p1, rfl⟩ := hT1.ptr
          obtain ⟨p2, rfl⟩ := hT2.ptr
          have HU : Hid (InC wr T1 (.pointer p1) ∧ InC wr T2 (.pointer p2)) := ⟨hT1, hT2⟩
          have HD : Hid (0 < depthT T1 ∧ 0 < depthT T2 ∧ ((Ts.take m).map depthT).sum + depthT T1 + depthT T2 ≤ k) := ⟨hd1, hd2, hsum⟩
          have hm0 : (0 : Int) ≤ (m : Int) := by omega
          have hm1 : (m : Int) < (m : Int) + 2 := by omega
          obtain ⟨m1, hm1e⟩ : ∃ m1 : Nat, m1 = m + 1 := ⟨_, rfl⟩
          have hm2 : (m1 : Int) < (m : Int) + 2 := by omega
          have hm3 : (0 : Int) ≤ (m1 : Int) := by omega
          have hwm1 : IntKind.i64.wrap ((m : Int) + 2 - 1) = (m1 : Int) := by rw [show ((m : Int) + 2 - 1) = (m1 : Int) by omega]; exact wrap_small m1 (by omega)
          rw [← hm1e] at cu2
          clear hm1e
          clear hu1 hu2 hT1 hT2 hd1 hd2 hsum
          have HC : Hid (∀ W, Below wr.heap.size wr W → ∀ b, (some ⟨g, 0, none⟩ : Option Addr) = some b → ∀ (j : Nat) (u' : Value), (vs.take m)[j]? = some u' → W.cell? (b.add j) = some u') := row_cells HS.out m
          have HV : Hid ((vs.take m).length = m * 1) := mkHid (by simp [HS.out.vlen])
          have hne1 := World.new_ne wr ⟨g, m, none⟩ cu1
          have hne2 := World.new_ne wr ⟨g, m1, none⟩ cu2
          have HK : Hid (∀ W, Below wr.heap.size wr W → ∀ X, W.cell? ⟨wr.heap.size, 0, none⟩ = some X → W.cell? ⟨g, m, none⟩ = some (.pointer p1) ∧ W.cell? ⟨g, m1, none⟩ = some (.pointer p2) ∧ W.cell? ⟨wr.heap.size, 0, none⟩ = some X) := fun W hb X hX => ⟨(hb.cell (p := ⟨g, m, none⟩) hg2).trans cu1, (hb.cell (p := ⟨g, m1, none⟩) hg2).trans cu2, hX⟩
          have hwm : IntKind.i64.wrap (m : Int) = (m : Int) := wrap_small m (by omega)
          have hmc : (m : Int) ≤ (cp : Int) := by omega
          rcases h9 with rfl | rfl
          · go_wp2_with fail
            go_region_held3 (fun w' => w'.cell? ⟨g, m, none⟩ = some (.pointer p1) ∧ w'.cell? ⟨g, m1, none⟩ = some (.pointer p2) ∧ w'.cell? ⟨wr.heap.size, 0, none⟩ = some (.int .i64 9))
              (first
                | (go_keep; done)
                | exact HK.out _ (below3 wr _ _ _) _ (first_cell wr _ _ _)
                | exact HK.out _ (Below.up (below3 wr _ _ _) (below_grown hgrow)) _ ((hgrow.cell_far _ (by simp; omega) (by simp)).trans (first_cell wr _ _ _)))
              ((refine step_append_grows (by rfl) (.tmp 66) (.tmp 81) 106 (by rfl) 60 i0 (.pointer none) 1 8 Tryz.underlying106 HI.out.1 HI.out.2.1 HI.out.2.2.1 HI.out.2.2.2 rfl (by omega) (some ⟨g, 0, none⟩) m m (vs.take m) (by rfl) (by simp) HV.out (HC.out _ (below3 wr _ _ _)) ⟨wr.heap.size + 1 + 1, 0, none⟩ 1 1 [.pointer (some ⟨wr.heap.size + 1, 0, none⟩)] (by rfl) (by rfl) (World.news_of_block (cs := #[.pointer (some ⟨wr.heap.size + 1, 0, none⟩)]) (t := 60) (fr := (0, 0)) (third wr _ _ _)) (by simp [Value.oneCell']) (by omega) (by unfold maxLen; omega) (by omega) ?_; intro v' w1 hown hgrow))
            go_wp2
            go_roundw
            case rel => exact ⟨k + 1, m + 1, _, _, by omega, by go_num, mkHid (HS.out.step (by omega) (by omega) HU.out.1 HU.out.2 (by have := HD.out; omega) hgrow hown)⟩
            case measure => simp [intOf]; omega
          · go_wp2_with fail
            go_region_held3 (fun w' => w'.cell? ⟨g, m, none⟩ = some (.pointer p1) ∧ w'.cell? ⟨g, m1, none⟩ = some (.pointer p2) ∧ w'.cell? ⟨wr.heap.size, 0, none⟩ = some (.int .i64 10))
              (first
                | (go_keep; done)
                | exact HK.out _ (below3 wr _ _ _) _ (first_cell wr _ _ _)
                | exact HK.out _ (Below.up (below3 wr _ _ _) (below_grown hgrow)) _ ((hgrow.cell_far _ (by simp; omega) (by simp)).trans (first_cell wr _ _ _)))
              ((refine step_append_grows (by rfl) (.tmp 66) (.tmp 81) 106 (by rfl) 60 i0 (.pointer none) 1 8 Tryz.underlying106 HI.out.1 HI.out.2.1 HI.out.2.2.1 HI.out.2.2.2 rfl (by omega) (some ⟨g, 0, none⟩) m m (vs.take m) (by rfl) (by simp) HV.out (HC.out _ (below3 wr _ _ _)) ⟨wr.heap.size + 1 + 1, 0, none⟩ 1 1 [.pointer (some ⟨wr.heap.size + 1, 0, none⟩)] (by rfl) (by rfl) (World.news_of_block (cs := #[.pointer (some ⟨wr.heap.size + 1, 0, none⟩)]) (t := 60) (fr := (0, 0)) (third wr _ _ _)) (by simp [Value.oneCell']) (by omega) (by unfold maxLen; omega) (by omega) ?_; intro v' w1 hown hgrow))
            go_wp2
            go_roundw
            case rel => exact ⟨k + 1, m + 1, _, _, by omega, by go_num, mkHid (HS.out.step (by omega) (by omega) HU.out.1 HU.out.2 (by have := HD.out; omega) hgrow hown)⟩
            case measure => simp [intOf]; omega
      have b9 : (c == 9) = false := by simp; omega
      have b10 : (c == 10) = false := by simp; omega
      by_cases h16 : 1 ≤ c ∧ c ≤ 6
      · obtain ⟨h1, h6⟩ := h16
        have b7 : (c == 7) = false := by simp; omega
        have b8 : (c == 8) = false := by simp; omega
        by_cases hsz : (tt.size : Int) ≤ 100
        · have HR : Hid (∀ W, Calls Tryz.prog 49 #[.agg #[.int .i64 kk, .int .i64 nn, .string tt]] W fun e w' => e = .returned (.bool (E.rightV kk nn tt)) ∧ Below W.heap.size W w') := fun W => E.rightV_any kk nn tt W ht
          cases hrv : E.rightV kk nn tt
          · rw [hrv] at HR
            clear hrv
            go_wp2_with fail
            refine (HR.out _).mono ?_
            rintro e w1 ⟨rfl, hb1⟩
            have x0 : w1.cell? ⟨wr.heap.size, 0, none⟩ = some (.int .i64 c) := (hb1.cell (p := ⟨wr.heap.size, 0, none⟩) (by simp)).trans (by go_simp)
            have HX := mkHid hb1
            clear hb1
            go_wp2
            all_goals
              go_roundw
              case rel => exact ⟨k + 1, n, vs, Ts, by omega, by go_num, mkHid (HS.out.up (Below.up (HB.out _) HX.out) (by omega))⟩
              case measure => simp [intOf]; omega
          · rw [hrv] at HR
            clear hrv
            go_wp2_with fail
            refine (HR.out _).mono ?_
            rintro e w1 ⟨rfl, hb1⟩
            have x0 : w1.cell? ⟨wr.heap.size, 0, none⟩ = some (.int .i64 c) := (hb1.cell (p := ⟨wr.heap.size, 0, none⟩) (by simp)).trans (by go_simp)
            have x1 : w1.cell? ⟨wr.heap.size, 1, none⟩ = some (.string col) := (hb1.cell (p := ⟨wr.heap.size, 1, none⟩) (by simp)).trans (by go_simp)
            have x2 : w1.cell? ⟨wr.heap.size, 2, none⟩ = some (.int .i64 kk) := (hb1.cell (p := ⟨wr.heap.size, 2, none⟩) (by simp)).trans (by go_simp)
            have x3 : w1.cell? ⟨wr.heap.size, 3, none⟩ = some (.int .i64 nn) := (hb1.cell (p := ⟨wr.heap.size, 3, none⟩) (by simp)).trans (by go_simp)
            have x4 : w1.cell? ⟨wr.heap.size, 4, none⟩ = some (.string tt) := (hb1.cell (p := ⟨wr.heap.size, 4, none⟩) (by simp)).trans (by go_simp)
            have HX : Hid (Below wr.heap.size wr w1) := Below.up (HB.out _) hb1
            clear hb1
            go_wp2_with (at_builtin; refine wpList_append_lies _ rfl (.tmp 104) (.tmp 113) 106 rfl w.heap.size 60 i0 (.pointer none) 1 8 Tryz.underlying106 HI.out.1 HI.out.2.1 HI.out.2.2.1 HI.out.2.2.2 rfl (by omega) (.slice ao n cp) n vs rfl (ownsRow_up HS.out.own (Below.up HX.out (below2 w1 _ _))) ⟨w1.heap.size + 1, 0, none⟩ 1 1 [.pointer (some ⟨w1.heap.size, 0, none⟩)] rfl rfl (World.news_of_block (cs := #[.pointer (some ⟨w1.heap.size, 0, none⟩)]) (t := 60) (fr := (0, 0)) (second2 w1 _ _ _ (by simp))) (by simp [Value.oneCell']) (by omega) (by unfold maxLen; omega) (by omega) (Nat.le_trans HS.out.bel.size (Below.up HX.out (below2 w1 _ _)).size) (w1.heap.size + 1 + 1) (by simp) ?_; intro gg cp' w2 hown hgrow hat hlt)
            go_roundw
            case rel => exact ⟨k + 1, n + 1, _, _, by omega, by go_num, mkHid (HS.out.leaf (by omega) HX.out (by simp) hgrow hown)⟩
            case measure => simp [intOf]; omega
        · have hsz' : (100 : Int) < tt.size := by omega
          clear hsz
          go_wp2
          all_goals
            go_roundw
            case rel => exact ⟨k + 1, _, vs, Ts, by omega, by go_num, mkHid (HS.out.up (HB.out _) (by omega))⟩
            case measure => simp [intOf]; omega
      by_cases h78 : c = 7 ∨ c = 8
      · skip
        clear h16 h9 h11
        rcases h78 with rfl | rfl
        · go_wp2_with (at_builtin; refine wpList_append_lies _ rfl (.tmp 124) (.tmp 131) 106 rfl w.heap.size 60 i0 (.pointer none) 1 8 Tryz.underlying106 HI.out.1 HI.out.2.1 HI.out.2.2.1 HI.out.2.2.2 rfl (by omega) (.slice ao n cp) n vs rfl (ownsRow_up HS.out.own (Below.up (HB.out _) (below2 _ _ _))) ⟨wr.heap.size + 1 + 1, 0, none⟩ 1 1 [.pointer (some ⟨wr.heap.size + 1, 0, none⟩)] rfl rfl (World.news_of_block (cs := #[.pointer (some ⟨wr.heap.size + 1, 0, none⟩)]) (t := 60) (fr := (0, 0)) (second2 (wr.alloc _) _ _ _ (by simp))) (by simp [Value.oneCell']) (by omega) (by unfold maxLen; omega) (by omega) (Nat.le_trans HS.out.bel.size (Below.up (HB.out _) (below2 _ _ _)).size) (wr.heap.size + 1 + 1 + 1) (by simp) ?_; intro gg cp' w2 hown hgrow hat hlt)
          go_roundw
          case rel => exact ⟨k + 1, n + 1, _, _, by omega, by go_num, mkHid (HS.out.leaf (by omega) (HB.out _) (by simp) hgrow hown)⟩
          case measure => simp [intOf]; omega
        · go_wp2_with (at_builtin; refine wpList_append_lies _ rfl (.tmp 124) (.tmp 131) 106 rfl w.heap.size 60 i0 (.pointer none) 1 8 Tryz.underlying106 HI.out.1 HI.out.2.1 HI.out.2.2.1 HI.out.2.2.2 rfl (by omega) (.slice ao n cp) n vs rfl (ownsRow_up HS.out.own (Below.up (HB.out _) (below2 _ _ _))) ⟨wr.heap.size + 1 + 1, 0, none⟩ 1 1 [.pointer (some ⟨wr.heap.size + 1, 0, none⟩)] rfl rfl (World.news_of_block (cs := #[.pointer (some ⟨wr.heap.size + 1, 0, none⟩)]) (t := 60) (fr := (0, 0)) (second2 (wr.alloc _) _ _ _ (by simp))) (by simp [Value.oneCell']) (by omega) (by unfold maxLen; omega) (by omega) (Nat.le_trans HS.out.bel.size (Below.up (HB.out _) (below2 _ _ _)).size) (wr.heap.size + 1 + 1 + 1) (by simp) ?_; intro gg cp' w2 hown hgrow hat hlt)
          go_roundw
          case rel => exact ⟨k + 1, n + 1, _, _, by omega, by go_num, mkHid (HS.out.leaf (by omega) (HB.out _) (by simp) hgrow hown)⟩
          case measure => simp [intOf]; omega
      have b7 : (c == 7) = false := by simp; omega
      have b8 : (c == 8) = false := by simp; omega
      by_cases hc1 : 1 ≤ c
      · have hc6 : ¬ c ≤ 6 := by omega
        clear h16 h78 h9 h11
        go_wp2
        all_goals
          go_roundw
          case rel => exact ⟨k + 1, _, vs, Ts, by omega, by go_num, mkHid (HS.out.up (HB.out _) (by omega))⟩
          case measure => simp [intOf]; omega
      · clear h16 h78 h9 h11
        go_wp2
        all_goals
          go_roundw
          case rel => exact ⟨k + 1, _, vs, Ts, by omega, by go_num, mkHid (HS.out.up (HB.out _) (by omega))⟩
          case measure => simp [intOf]; omega
    · by_cases hkL : k < L
      · have hk14 : ¬ k < 14 := fun hh => hlt ⟨hkL, hh⟩
        clear hlt
        by_cases hn0 : n = 0
        · subst hn0
          go_wp2
          go_ret
          exact ⟨_, .nil, rfl, inNil _, by simp [depthT], HS.out.bel⟩
        · obtain ⟨g, rfl, hg1, hg2⟩ := HS.out.some_of (by omega)
          obtain ⟨BW, HBW⟩ := exit_facts HS.out
          obtain ⟨p0, T0, cu, hT0, hd0, hT0'⟩ := HBW.out.2.2.1 _ HBW.out.1 0 (by omega)
          have H0 : Hid (InC wr T0 (.pointer p0) ∧ 0 < depthT T0 ∧ Ts[0]? = some T0) := ⟨hT0, hd0, hT0'⟩
          have HD := mkHid HS.out.dep
          have HL := mkHid HS.out.len
          clear hT0 hd0 hT0' HS Q0 Q1 Q2 Q3 Q4 HT
          have hn1 : (n == 0) = false := by simpa using hn0
          have hn2 : (0 : Int) < (n : Int) := by omega
          go_wp2
          go_loopw [7, 8] (fun cv iv w2 => ∃ (q : Nat) (T : CT) (p : Option Addr), 1 ≤ q ∧ q ≤ n ∧ iv = .int .i64 q ∧ cv = .pointer p ∧ Hid (InC w2 T (.pointer p) ∧ 0 < depthT T ∧ depthT T ≤ ((Ts.take q).map depthT).sum ∧ BW w2)) (fun _ iv _ => n - (intOf iv).toNat)
          case atStart => exact ⟨1, T0, p0, by omega, by omega, rfl, rfl, ⟨H0.out.1, H0.out.2.1, take_one H0.out.2.2, HBW.out.1⟩⟩
          case round =>
            obtain ⟨q, T, p, hq1, hqn, rfl, rfl, HR⟩ := hrel
            clear cu hn1 hn2
            by_cases hq : q < n
            · obtain ⟨pu, Tq, cq, hTq, hdq, hTq'⟩ := HBW.out.2.2.1 _ HR.out.2.2.2 q hq
              have HU : Hid (InC wr Tq (.pointer pu) ∧ 0 < depthT Tq ∧ Ts[q]? = some Tq) := ⟨hTq, hdq, hTq'⟩
              clear hTq hdq hTq'
              go_wp2
              go_roundw
              case rel => exact ⟨q + 1, .node 0 0 ⟨9, ⟨#[]⟩, 0, 0, ⟨#[]⟩⟩ T Tq, some ⟨wr.heap.size, 0, none⟩, by omega, by omega, by go_num, rfl, mkHid (and_step HR.out.1 HU.out.1 HR.out.2.1 HU.out.2.1 HR.out.2.2.1 HU.out.2.2 (HBW.out.2.1 _ _ HR.out.2.2.2))⟩
              case measure => simp [intOf]; omega
            · have HF : Hid (depthT T ≤ 14) := mkHid (by
                have h1 := HR.out.2.2.1
                have h2 := HD.out
                rw [List.take_of_length_le (by have := HL.out; omega)] at h1
                omega)
              go_wp2
              go_ret
              exact ⟨_, T, rfl, HR.out.1, HF.out, HBW.out.2.2.2 _ HR.out.2.2.2⟩
      · clear hlt
        by_cases hn0 : n = 0
        · subst hn0
          go_wp2
          go_ret
          exact ⟨_, .nil, rfl, inNil _, by simp [depthT], HS.out.bel⟩
        · obtain ⟨g, rfl, hg1, hg2⟩ := HS.out.some_of (by omega)
          obtain ⟨BW, HBW⟩ := exit_facts HS.out
          obtain ⟨p0, T0, cu, hT0, hd0, hT0'⟩ := HBW.out.2.2.1 _ HBW.out.1 0 (by omega)
          have H0 : Hid (InC wr T0 (.pointer p0) ∧ 0 < depthT T0 ∧ Ts[0]? = some T0) := ⟨hT0, hd0, hT0'⟩
          have HD := mkHid HS.out.dep
          have HL := mkHid HS.out.len
          clear hT0 hd0 hT0' HS Q0 Q1 Q2 Q3 Q4 HT
          have hn1 : (n == 0) = false := by simpa using hn0
          have hn2 : (0 : Int) < (n : Int) := by omega
          go_wp2
          go_loopw [7, 8] (fun cv iv w2 => ∃ (q : Nat) (T : CT) (p : Option Addr), 1 ≤ q ∧ q ≤ n ∧ iv = .int .i64 q ∧ cv = .pointer p ∧ Hid (InC w2 T (.pointer p) ∧ 0 < depthT T ∧ depthT T ≤ ((Ts.take q).map depthT).sum ∧ BW w2)) (fun _ iv _ => n - (intOf iv).toNat)
          case atStart => exact ⟨1, T0, p0, by omega, by omega, rfl, rfl, ⟨H0.out.1, H0.out.2.1, take_one H0.out.2.2, HBW.out.1⟩⟩
          case round =>
            obtain ⟨q, T, p, hq1, hqn, rfl, rfl, HR⟩ := hrel
            clear cu hn1 hn2
            by_cases hq : q < n
            · obtain ⟨pu, Tq, cq, hTq, hdq, hTq'⟩ := HBW.out.2.2.1 _ HR.out.2.2.2 q hq
              have HU : Hid (InC wr Tq (.pointer pu) ∧ 0 < depthT Tq ∧ Ts[q]? = some Tq) := ⟨hTq, hdq, hTq'⟩
              clear hTq hdq hTq'
              go_wp2
              go_roundw
              case rel => exact ⟨q + 1, .node 0 0 ⟨9, ⟨#[]⟩, 0, 0, ⟨#[]⟩⟩ T Tq, some ⟨wr.heap.size, 0, none⟩, by omega, by omega, by go_num, rfl, mkHid (and_step HR.out.1 HU.out.1 HR.out.2.1 HU.out.2.1 HR.out.2.2.1 HU.out.2.2 (HBW.out.2.1 _ _ HR.out.2.2.2))⟩
              case measure => simp [intOf]; omega
            · have HF : Hid (depthT T ≤ 14) := mkHid (by
                have h1 := HR.out.2.2.1
                have h2 := HD.out
                rw [List.take_of_length_le (by have := HL.out; omega)] at h1
                omega)
              go_wp2
              go_ret
              exact ⟨_, T, rfl, HR.out.1, HF.out, HBW.out.2.2.2 _ HR.out.2.2.2⟩
end Go.Proofs.YtodemklghajdeaaGreatDoor.S

namespace Go.Proofs.YtodemklghajdeaaGreatDoor.S
open Go.ChangeShapes Go.WideShapes Go.ChangeAt Go.RowKit Go.Joins Go.Deep Go.Proofs

set_option maxHeartbeats 4000000 in
set_option maxRecDepth 100000 in
theorem cond_zero (ao : Option Addr) (cap : Nat) (w : World) :
    Calls Tryz.prog 21 #[.slice ao 0 cap] w fun e w' => ∃ v T, e = .returned v ∧ InC w' T v ∧ depthT T ≤ 14 ∧ Below w.heap.size w w' := by
  go_enter Tryz.func21, Tryz.ntmps21
  go_wp2
  go_loopw [3, 4] (fun o i wr => o = .slice none 0 0 ∧ i = .int .i64 0 ∧ wr = w) (fun _ _ _ => 0)
  case atStart => exact ⟨rfl, rfl, rfl⟩
  case round =>
    obtain ⟨rfl, rfl, rfl⟩ := hrel
    go_wp2
    go_ret
    exact ⟨_, .nil, rfl, rfl, by simp [depthT], Below.refl _ _⟩

theorem cells54 : Tryz.prog.cellsOf 108 = 5 := by kernel_rfl
theorem cells3 : Tryz.prog.cellsOf 3 = 1 := by kernel_rfl
theorem cells2 : Tryz.prog.cellsOf 2 = 1 := by kernel_rfl
theorem cells9 : Tryz.prog.cellsOf 9 = 1 := by kernel_rfl
theorem cellsV : Tryz.prog.cellsOf 45 = 3 := by kernel_rfl

set_option maxRecDepth 100000 in
theorem open_part {H : Type} {enc : TypeId × Value → H} {W : World} {base : Nat} {sp : Nat → Bool} {held : Bool} {n : Nat} {cs : List Value} {x : DataW H × List MemPlace} (h : DataW.trod enc Tryz.prog W base sp held n 108 cs = some x) :
    ∃ (c k m : Int) (l t : ByteArray), cs = [.int .i64 c, .string l, .int .i64 k, .int .i64 m, .string t] ∧ t.size ≤ maxLen := by
  obtain ⟨y0, y1, y2, n1, _, hl, h0, h1, h2⟩ := trod_struct3 Tryz.underlying108 h
  rw [cells54] at hl
  match cs, hl with
  | [v0, v1, v2, v3, v4], _ =>
    simp only [cells3, cells9, cellsV, List.drop_zero, List.drop_succ_cons, List.take_succ_cons, List.take_zero] at h0 h1 h2
    obtain ⟨c, e0, _, _⟩ := DataW.trod_int Tryz.underlying3 h0
    obtain ⟨l, e1, _, _⟩ := DataW.trod_string Tryz.underlying9 h1
    obtain ⟨z0, z1, z2, n2, _, _, g0, g1, g2⟩ := trod_struct3 Tryz.underlying45 h2
    simp only [cells3, cells9, cells2, List.drop_zero, List.drop_succ_cons, List.take_succ_cons, List.take_zero] at g0 g1 g2
    obtain ⟨k, e2, _, _⟩ := DataW.trod_int Tryz.underlying3 g0
    obtain ⟨m, e3, _, _⟩ := DataW.trod_int Tryz.underlying2 g1
    obtain ⟨t, e4, _, ht⟩ := DataW.trod_string Tryz.underlying9 g2
    simp at e0 e1 e2 e3 e4
    subst e0 e1 e2 e3 e4
    exact ⟨c, k, m, l, t, rfl, ht⟩

/-- Five things of a part. -/
structure Pt where
  c : Int
  k : Int
  m : Int
  l : ByteArray
  t : ByteArray

set_option maxRecDepth 100000 in
theorem open_parts {H : Type} {enc : TypeId × Value → H} {W : World} {b0 : Nat} {v : Value} {d : DataW H} {p : List MemPlace} (hv : Value.okWide Tryz.prog W .any b0 59 v) (h : DataW.Trod enc Tryz.prog W 0 (fun _ => true) true 59 v d p) :
    (∃ ao cap, v = .slice ao 0 cap) ∨ ∃ (bl ol L cap : Nat) (P : Nat → Pt), v = .slice (some ⟨bl, ol, none⟩) L cap ∧ L ≤ cap ∧ cap ≤ maxLen ∧ (∀ j, (P j).t.size ≤ maxLen) ∧ bl < W.heap.size ∧
      (∀ j, j < L → W.cell? ⟨bl, ol + j * 5, none⟩ = some (.int .i64 (P j).c)) ∧ (∀ j, j < L → W.cell? ⟨bl, ol + j * 5 + 1, none⟩ = some (.string (P j).l)) ∧ (∀ j, j < L → W.cell? ⟨bl, ol + j * 5 + 2, none⟩ = some (.int .i64 (P j).k)) ∧
      (∀ j, j < L → W.cell? ⟨bl, ol + j * 5 + 3, none⟩ = some (.int .i64 (P j).m)) ∧ (∀ j, j < L → W.cell? ⟨bl, ol + j * 5 + 4, none⟩ = some (.string (P j).t)) := by
  obtain ⟨a0, len, cap, rfl⟩ := okWide_slice Tryz.underlying59 hv
  obtain ⟨fuel, hf⟩ := h
  rcases open_slice Tryz.underlying59 hf with ⟨hcs, _⟩ | ⟨a, len', cap', m, n, D, Pl, hcs, hb, hl, hm, hmm, hx, hel⟩
  · simp [Value.cells] at hcs
    obtain ⟨rfl, rfl, rfl⟩ := hcs
    exact .inl ⟨_, _, rfl⟩
  · simp [Value.cells] at hcs
    obtain ⟨rfl, rfl, rfl⟩ := hcs
    rcases Nat.eq_zero_or_pos len with rfl | hpos
    · exact .inl ⟨_, _, rfl⟩
    · right
      have hlm : len ≤ m := by rw [hmm]; split <;> omega
      have hall : ∀ i, i < len → ∃ q : Pt, W.cells? 0 (a.add (i * 5)) 5 = some [.int .i64 q.c, .string q.l, .int .i64 q.k, .int .i64 q.m, .string q.t] ∧ q.t.size ≤ maxLen := fun i hi => by
        obtain ⟨cs', h1, h2⟩ := hel i (by omega)
        obtain ⟨c, k, m', l, t, rfl, ht⟩ := open_part h2
        rw [cells54] at h1
        exact ⟨⟨c, k, m', l, t⟩, h1, ht⟩
      haveI : Inhabited Pt := ⟨⟨0, 0, 0, ⟨#[]⟩, ⟨#[]⟩⟩⟩
      obtain ⟨P, hP⟩ := choose_lt hall
      obtain ⟨bl, ol, spot⟩ := a
      have hspot : spot = none := by
        have := (World.cells?_some (hP 0 hpos).1).2.2 0 (by omega)
        simpa [Addr.add] using World.cell?_spot this
      subst hspot
      have cell : ∀ j, j < len → ∀ i, i < 5 → W.cell? ⟨bl, ol + j * 5 + i, none⟩ = [Value.int .i64 (P j).c, .string (P j).l, .int .i64 (P j).k, .int .i64 (P j).m, .string (P j).t][i]? := fun j hj i hi => by
        have := (World.cells?_some (hP j hj).1).2.2 i hi
        rwa [add_plain, add_plain] at this
      refine ⟨bl, ol, len, cap, fun j => if j < len then P j else ⟨0, 0, 0, ⟨#[]⟩, ⟨#[]⟩⟩, rfl, hl, hm, ?_, block_lt_of_cell ((cell 0 hpos 0 (by omega)).trans rfl), ?_, ?_, ?_, ?_, ?_⟩
      · intro j
        by_cases hj : j < len
        · simp only [if_pos hj]; exact (hP j hj).2
        · simp only [if_neg hj]; decide
      · intro j hj; simp only [if_pos hj]; exact cell j hj 0 (by omega)
      · intro j hj; simp only [if_pos hj]; exact cell j hj 1 (by omega)
      · intro j hj; simp only [if_pos hj]; exact cell j hj 2 (by omega)
      · intro j hj; simp only [if_pos hj]; exact cell j hj 3 (by omega)
      · intro j hj; simp only [if_pos hj]; exact cell j hj 4 (by omega)
end Go.Proofs.YtodemklghajdeaaGreatDoor.S
