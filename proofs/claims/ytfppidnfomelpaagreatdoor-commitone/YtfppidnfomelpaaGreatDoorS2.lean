/- What slices.Equal at columns and at numbers does at two lists that are the same. -/
import Derived.Test.YtfppidnfomelpaaGreatDoorC3
import Derived.Laws.StructEq
namespace Go.Proofs.YtfppidnfomelpaaGreatDoor
open Go.RowKit Go.Proofs Go.Lib Go.Joins Go.Maps

def addrD : Option Addr → DataW Unit
  | none => .nil
  | some a => .agg [.lit (.int .i64 a.block), .lit (.int .i64 a.off)]
def entD (p : ByteArray) (r : Int) (s : Sv) : DataW Unit := .agg [.lit (.string p.data.toList), .lit (.int .i64 r), addrD s.1, .lit (.int .i64 s.2.1), .lit (.int .i64 s.2.2)]
def plainS (s : Sv) : Prop := s.1 = none ∨ ∃ b o, s.1 = some ⟨b, o, none⟩
theorem entD_inj {p p' : ByteArray} {r r' : Int} {s s' : Sv} (h : entD p r s = entD p' r' s') (hs : plainS s) (hs' : plainS s') : p = p' ∧ r = r' ∧ s = s' := by
  obtain ⟨a, n, c⟩ := s
  obtain ⟨a', n', c'⟩ := s'
  simp only [entD, DataW.agg.injEq, List.cons.injEq, DataW.lit.injEq, Lit.string.injEq, Lit.int.injEq, true_and, and_true] at h
  obtain ⟨h1, h2, h3, h4, h5⟩ := h
  have e1 : p = p' := by cases p; cases p'; simp at h1; simp [h1]
  have e4 : n = n' := by omega
  have e5 : c = c' := by omega
  subst e1 h2 e4 e5
  refine ⟨rfl, rfl, ?_⟩
  rcases hs with hs | ⟨b, o, hs⟩ <;> rcases hs' with hs' | ⟨b', o', hs'⟩ <;> simp only at hs hs' <;> subst hs hs'
  · rfl
  · simp [addrD] at h3
  · simp [addrD] at h3
  · simp only [addrD, DataW.agg.injEq, List.cons.injEq, DataW.lit.injEq, Lit.int.injEq, true_and, and_true] at h3
    have : b = b' := by omega
    have : o = o' := by omega
    subst b' o'
    rfl
/-- How a file reads in a map. -/
def entE (v : Value) : Option (DataW Unit × List MemPlace) :=
  match v with
  | .agg cs => match cs.toList with
    | [.string p, .int k r, .slice a n c] => if k = .i64 ∧ (a = none ∨ (a.map (fun x => x.spot)) = some none) then some (entD p r (a, n, c), []) else none
    | _ => none
  | _ => none
theorem plainS_iff (a : Option Addr) (n c : Nat) : plainS (a, n, c) ↔ (a = none ∨ (a.map (fun x => x.spot)) = some none) := by
  constructor
  · rintro (h | ⟨b, o, h⟩)
    · exact .inl h
    · simp only at h; subst h; exact .inr rfl
  · rintro (h | h)
    · exact .inl h
    · cases a with
      | none => cases h
      | some x =>
        obtain ⟨b, o, sp⟩ := x
        simp at h
        subst h
        exact .inr ⟨b, o, rfl⟩
theorem entE_mk {p : ByteArray} {r : Int} {a : Option Addr} {n c : Nat} (h : plainS (a, n, c)) : entE (.agg #[.string p, .int .i64 r, .slice a n c]) = some (entD p r (a, n, c), []) := by
  simp only [entE]
  rw [if_pos ⟨by trivial, (plainS_iff a n c).1 h⟩]
theorem entE_inv {v : Value} {z : DataW Unit × List MemPlace} (h : entE v = some z) : ∃ p r a n c, v = .agg #[.string p, .int .i64 r, .slice a n c] ∧ z = (entD p r (a, n, c), []) ∧ plainS (a, n, c) := by
  unfold entE at h
  split at h
  · rename_i cs
    split at h
    · rename_i p k r a n c hs
      split at h
      · rename_i hl
        cases h
        obtain ⟨rfl, hl⟩ := hl
        exact ⟨p, r, a, n, c, by rw [← Array.toArray_toList (xs := cs), hs], rfl, (plainS_iff a n c).2 hl⟩
      · cases h
    · cases h
  · cases h

/-- A map has just these files. -/
def SetAt (W : World) (m n : Nat) (L : List EntV) : Prop := ∃ D : DataW Unit, W.ownsMap Tryz.prog 9 entE m n D ∧ (∀ p, has D (lit p) = L.any (fun x => decide (x.1.1 = p))) ∧ (∀ x ∈ L, ∀ z, D.atKey (lit x.1.1) z = entD x.1.1 x.1.2.1 x.2) ∧ Maps.size D = L.length
theorem ownsMap_up {w W : World} {R : Value → Option (DataW Unit × List MemPlace)} {k b n : Nat} {D : DataW Unit} (h : w.ownsMap Tryz.prog k R b n D) (hb : Below w.heap.size w W) : W.ownsMap Tryz.prog k R b n D := by
  obtain ⟨es, clock, h3, h4⟩ := h
  exact ⟨es, clock, (hb.block b (blk_lt h3)).trans h3, h4⟩
theorem SetAt.below {w W : World} {b n : Nat} {l : List EntV} (h : SetAt w b n l) (hb : Below w.heap.size w W) : SetAt W b n l := by
  obtain ⟨D, h1, h2⟩ := h
  exact ⟨D, ownsMap_up h1 hb, h2⟩
theorem SetAt.put {w W : World} {m n : Nat} {l : List EntV} {x : EntV} {D : DataW Unit} (h1 : w.ownsMap Tryz.prog 9 entE m n D) (h2 : ∀ p, has D (lit p) = l.any (fun x => decide (x.1.1 = p))) (h3 : ∀ x ∈ l, ∀ z, D.atKey (lit x.1.1) z = entD x.1.1 x.1.2.1 x.2) (h4 : Maps.size D = l.length)
    (hx : ∀ y ∈ l, y.1.1 ≠ x.1.1) (ho : W.ownsMap Tryz.prog 9 entE m (n + 1) (D.put (lit x.1.1) (entD x.1.1 x.1.2.1 x.2))) : SetAt W m (n + 1) (l ++ [x]) := by
  have hno : has D (lit x.1.1) = false := by
    rw [h2, List.any_eq_false]
    intro y hy
    simp [hx y hy]
  refine ⟨_, ho, fun p => ?_, fun y hy z => ?_, ?_⟩
  · by_cases e : x.1.1 = p
    · subst e
      rw [has_put_same h1.isMap (litKey _)]
      simp
    · rw [has_put_other (fun hh => e (lit_inj hh).symm), h2]
      simp [e]
  · rcases List.mem_append.1 hy with hy | hy
    · rw [atKey_put_other (fun hh => hx y hy (lit_inj hh))]
      exact h3 y hy z
    · simp at hy
      subst hy
      exact atKey_put_same h1.isMap (litKey _) _ _
  · rw [size_put (h1.tidy law9), hno, h4]
    simp
theorem own_plain {w : World} {base : Nat} {e : TypeId} {z : Nat} {s : Sv} {n : Nat} {xs : List Value} (h : w.ownsRow base e z (sv s) n xs) : plainS s := by
  rcases own_forms h with ⟨e1, _⟩ | ⟨g, c, e1, _⟩
  · obtain ⟨a, b, c⟩ := s; injection e1 with e1; exact .inl e1
  · obtain ⟨a, b, c⟩ := s; injection e1 with e1; exact .inr ⟨g, 0, e1⟩
theorem takeX_next {l : List EntV} {k : Nat} (hk : k < l.length) : l.take (k + 1) = l.take k ++ [l[k]!] := by
  rw [List.take_add_one, List.getElem?_eq_getElem hk, getElem!_pos l k hk]; rfl

def SetPost (w : World) (L : List EntV) (e : Ending) (w' : World) : Prop := ∃ m, e = .returned (.map (some m)) ∧ w.heap.size ≤ m ∧ SetAt w' m L.length L ∧ Below w.heap.size w w'

set_option maxHeartbeats 2000000 in
set_option maxRecDepth 100000 in
theorem set_any (s : Snap) (a1 : Option Addr) (n1 c1 : Nat) (a2 : Option Addr) (c2 : Nat) (L : List EntV) (w : World) (hV : SnapV w s (.slice a1 n1 c1) (.slice a2 L.length c2) L) (hn : L.length ≤ 1000) (hp : ∀ x ∈ L, x.1.1.size ≤ maxLen) (hd : (L.map (·.1.1)).Nodup) :
    Calls Tryz.prog 38 #[.agg #[.int .i64 s.ver, .slice a1 n1 c1, .int .i64 s.next, .slice a2 L.length c2]] w (SetPost w L) := by
  have HV := mkH hV
  have HP := mkH hp
  have HND : Hid (∀ k, k < L.length → ∀ y ∈ L.take k, y.1.1 ≠ L[k]!.1.1) := fun k hk y hy e => by
    obtain ⟨j, hj, rfl⟩ := List.getElem_of_mem hy
    have hj' : j < k ∧ j < L.length := by simpa [Nat.lt_min] using hj
    rw [List.getElem_take, getElem!_pos L k hk] at e
    have := (List.getElem_inj (xs := L.map (·.1.1)) (i := j) (j := k) (h₀ := by simpa using hj'.2) (h₁ := by simpa using hk) hd).1 (by simpa using e)
    omega
  have hmm := @run_makeMap Tryz.prog
  have HM0 : Hid (∀ W : World, SetAt (W.alloc (.map #[] 0)) W.heap.size 0 []) := fun W => ⟨.map [], World.ownsMap_made W _ _ _, fun p => rfl, (fun x hx => (by cases hx)), rfl⟩
  clear hV hp hd
  go_enter Tryz.func38, Tryz.ntmps38
  go_wp2_with fail
  have HB0 : Hid (Below w.heap.size w ((w.alloc (.cells #[.int .i64 s.ver, .slice a1 n1 c1, .int .i64 s.next, .slice a2 L.length c2] 47)).alloc (.map #[] 0))) := ((Below.refl _ _).alloc (Nat.le_refl _) _).alloc (by simp) _
  have HS0 : Hid (SetAt ((w.alloc (.cells #[.int .i64 s.ver, .slice a1 n1 c1, .int .i64 s.next, .slice a2 L.length c2] 47)).alloc (.map #[] 0)) (w.heap.size + 1) 0 (L.take 0)) := mkH (by
    have := HM0.out (w.alloc (.cells #[.int .i64 s.ver, .slice a1 n1 c1, .int .i64 s.next, .slice a2 L.length c2] 47))
    rwa [World.size_alloc] at this)
  clear hmm HM0
  go_loopw [10] (fun vi wr => ∃ k : Nat, k ≤ L.length ∧ vi = .int .i64 k ∧ Hid (SetAt wr (w.heap.size + 1) k (L.take k)) ∧ Hid (Below w.heap.size w wr)) (fun vi _ => L.length - (intOf vi).toNat)
  case atStart => exact ⟨0, Nat.zero_le _, rfl, HS0, HB0⟩
  case round =>
    clear HS0 HB0
    obtain ⟨k, hk, rfl, SE, BW⟩ := hrel
    by_cases hlt : k < L.length
    · have hltz : (k : Int) < (L.length : Int) := by omega
      have hV := HV.out.up BW.out
      rcases own_forms hV.row with ⟨_, e0⟩ | ⟨g, c, eg, _, hgl, _, _⟩
      · omega
      · injection eg with eg1 _ eg2
        subst eg1 eg2
        have hx : L[k]! ∈ L := by rw [getElem!_pos L k hlt]; exact List.getElem_mem hlt
        have hpl := own_plain (hV.masks _ hx)
        have hpz := HP.out _ hx
        have HNX := mkH (HND.out k hlt)
        have HTN := mkH (takeX_next hlt)
        have hr := rowX hV.row rfl k hlt
        obtain ⟨⟨⟨xp, xr, xm⟩, xa, xn, xc⟩, hxe⟩ : ∃ x, L[k]! = x := ⟨_, rfl⟩
        rw [hxe] at hpl hpz HNX HTN hr
        have q0 := hr 0 _ rfl
        have q1 := hr 1 _ rfl
        have q2 := hr 2 _ rfl
        simp only [Nat.zero_add, Nat.add_zero] at q0 q1 q2
        simp only at hpz
        obtain ⟨D, d1, d2, d3, d4⟩ := SE.out.below ((Below.refl wr.heap.size wr).alloc (Nat.le_refl _) (.cells #[.string xp, .int .i64 xr, .slice xa xn xc] 70))
        have D1 := mkH d1
        have D2 := mkH d2
        have D3 := mkH d3
        have D4 := mkH d4
        have HPL := mkH hpl
        have hsw := BW.out.size
        have hml : w.heap.size + 1 < wr.heap.size := by
          obtain ⟨_, h1, _⟩ := SE.out
          exact h1.lt
        clear d1 d2 d3 d4 hr hx hxe hV hpl
        go_wp2_with (at_mapUpdate; refine wpList_mapUpdate_in _ rfl _ _ _ 97 rfl 9 70 law9 Tryz.underlying97 _ (w.heap.size + 1) k D rfl D1.out (by unfold maxLen; omega) _ _ _ rfl rfl (keyOf9 hpz) _ [] (entE_mk HPL.out) ?_; intro w8 hown8 hturn8
                     have HO8 := mkH hown8
                     have HG8 := mkH hturn8.grown
                     clear hown8 hturn8)
        go_roundw
        case rel =>
          refine ⟨k + 1, by omega, by go_num, mkH ?_, mkH ((BW.out.alloc hsw _).grown HG8.out (by simp; omega) (fun j hj => by cases hj; omega))⟩
          rw [HTN.out]
          exact SetAt.put (x := ((xp, xr, xm), (xa, xn, xc))) D1.out D2.out D3.out D4.out HNX.out HO8.out
        case measure => simp [intOf]; omega
    · have hkl : k = L.length := by omega
      subst hkl
      go_wp2
      go_ret
      refine ⟨w.heap.size + 1, rfl, Nat.le_succ _, ?_, BW.out⟩
      have := SE.out
      rwa [List.take_length] at this
end Go.Proofs.YtfppidnfomelpaaGreatDoor

namespace Go.Proofs.YtfppidnfomelpaaGreatDoor
open Go.RowKit Go.Proofs Go.Lib Go.Joins

def eqC (x y : Col) : Bool := x.1 == y.1 && (x.2.1.toList == y.2.1.toList && (x.2.2.1 == y.2.2.1 && (x.2.2.2.1 == y.2.2.2.1 && (x.2.2.2.2.1 == y.2.2.2.2.1 && (x.2.2.2.2.2.1 == y.2.2.2.2.2.1 && x.2.2.2.2.2.2.toList == y.2.2.2.2.2.2.toList)))))

set_option maxHeartbeats 2000000 in
theorem neqC : NeqAt Tryz.prog 67 (fun x : Col => .agg (encC x).toArray) eqC := by
  refine ⟨fun x y w => ?_, GuardAt.agg _ (by kernel_rfl)⟩
  obtain ⟨x1, x2, x3, x4, x5, x6, x7⟩ := x
  obtain ⟨y1, y2, y3, y4, y5, y6, y7⟩ := y
  have hS : Tryz.prog.underlying 67 = some (.struct (Tryz.prog.fieldsOf 67)) := by kernel_rfl
  have hp : Tryz.prog.stoodInHeld 67 = false := by kernel_rfl
  have hS2 : Tryz.prog.underlying 65 = some (.struct (Tryz.prog.fieldsOf 65)) := by kernel_rfl
  have hp2 : Tryz.prog.stoodInHeld 65 = false := by kernel_rfl
  have u2 := Tryz.underlying2; have a2 := Tryz.isAgg2; have z2 := Tryz.sizeOf2
  have u3 := Tryz.underlying3; have a3 := Tryz.isAgg3; have z3 := Tryz.sizeOf3
  have u4 := Tryz.underlying4; have a4 := Tryz.isAgg4; have z4 := Tryz.sizeOf4
  have u9 := Tryz.underlying9; have a9 := Tryz.isAgg9; have z9 := Tryz.sizeOf9
  have a23 := Tryz.isAgg65; have z23 := Tryz.sizeOf65
  have hV : ∀ w, (Op.equalIn 9998 65 (.agg #[.int .i64 x5, .int .i64 x6, .string x7]) (.agg #[.int .i64 y5, .int .i64 y6, .string y7])).run Tryz.prog w = .ok (x5 == y5 && (x6 == y6 && x7.toList == y7.toList)) w := by
    intro w
    rw [show (9998 : Nat) = 9997 + 1 from rfl, run_equalIn_agg w 9997 65 _ _ hS2 hp2]
    simp only [Program.fieldsOf, Tryz.underlying65]
    clear hS hp hS2 hp2
    go_simp
    by_cases h1 : x5 = y5 <;> by_cases h2 : x6 = y6 <;> by_cases h3 : x7.toList = y7.toList <;> simp [h1, h2, h3]
  simp only [encC, eqC]
  rw [run_neq_struct, show (10000 : Nat) = 9999 + 1 from rfl, run_equalIn_agg w 9999 67 _ _ hS hp]
  simp only [Program.fieldsOf, Tryz.underlying67]
  clear hS hp hS2 hp2
  generalize hq : (x5 == y5 && (x6 == y6 && x7.toList == y7.toList)) = q at *
  go_simp
  subst hq
  by_cases h1 : x1 = y1
  case neg => rw [if_neg h1]; simp [h1]
  rw [if_pos h1]
  by_cases h2 : x2.toList = y2.toList
  case neg => rw [if_neg h2]; simp [h2]
  rw [if_pos h2]
  by_cases h3 : x3 = y3
  case neg => rw [if_neg h3]; simp [h3]
  rw [if_pos h3]
  by_cases h4 : x4 = y4
  case neg => rw [if_neg h4]; simp [h4]
  rw [if_pos h4]
  by_cases h5 : x5 = y5
  case neg => rw [if_neg h5]; simp [h5]
  rw [if_pos h5]
  by_cases h6 : x6 = y6
  case neg => rw [if_neg h6]; simp [h6]
  rw [if_pos h6]
  by_cases h7 : x7.toList = y7.toList
  case neg => rw [if_neg h7]; simp [h7]
  rw [if_pos h7]
  simp [h1, h2, h3, h4, h5, h6, h7]

theorem eqC_self (c : Col) : eqC c c = true := by simp [eqC]
theorem allEq_self : ∀ l : List Col, Lib.allEq eqC l l = true
  | [] => rfl
  | c :: l => by simp [Lib.allEq, eqC_self, allEq_self l]

/-- slices.Equal at the same columns, wherever they lie: true. -/
theorem equal_any (g1 o1 c1 g2 o2 c2 : Nat) (l : List Col) (w : World) (h1 : SlC w g1 o1 l) (h2 : SlC w g2 o2 l) (hl : l.length ≤ 8) :
    Calls Tryz.prog 39 #[.slice (some ⟨g1, o1, none⟩) l.length c1, .slice (some ⟨g2, o2, none⟩) l.length c2] w fun e w' => e = .returned (.bool true) ∧ Below w.heap.size w w' := by
  refine (AnyQ.slices_Equal Tryz.layEqC 7 Tryz.isAgg67 Tryz.sizeOf67 encC encC_len eqC neqC g1 o1 l.length c1 g2 o2 l.length c2 l l w (Nat.le_refl _) (Nat.le_refl _) (by omega) (by omega) h1.2 h2.2).mono ?_
  rintro e w' ⟨rfl, q, rfl⟩
  refine ⟨?_, ⟨rfl, rfl, rfl, Nat.le_refl _, fun _ _ => rfl⟩⟩
  rw [List.take_length, allEq_self]

set_option maxHeartbeats 400000 in
theorem equalC_nil (a1 a2 : Option Addr) (c1 c2 : Nat) (w : World) : Calls Tryz.prog 39 #[.slice a1 0 c1, .slice a2 0 c2] w fun e w' => e = .returned (.bool true) ∧ Below w.heap.size w w' := by
  go_enter Tryz.func39, Tryz.ntmps39
  go_wp2
  go_loopw [13] (fun vi wr => vi = .int .i64 0 ∧ wr = w) (fun _ _ => 0)
  case atStart => exact ⟨rfl, rfl⟩
  case round =>
    obtain ⟨rfl, rfl⟩ := hrel
    go_wp2
    go_ret
    exact ⟨rfl, Below.refl _ _⟩
set_option maxHeartbeats 400000 in
theorem equalI_nil (a1 a2 : Option Addr) (c1 c2 : Nat) (w : World) : Calls Tryz.prog 40 #[.slice a1 0 c1, .slice a2 0 c2] w fun e w' => e = .returned (.bool true) ∧ Below w.heap.size w w' := by
  go_enter Tryz.func40, Tryz.ntmps40
  go_wp2
  go_loopw [13] (fun vi wr => vi = .int .i64 0 ∧ wr = w) (fun _ _ => 0)
  case atStart => exact ⟨rfl, rfl⟩
  case round =>
    obtain ⟨rfl, rfl⟩ := hrel
    go_wp2
    go_ret
    exact ⟨rfl, Below.refl _ _⟩
theorem equalC_any (v1 v2 : Value) (l : List Col) (w : World) (h1 : w.ownsRow 0 67 7 v1 l.length (cellsC l)) (h2 : w.ownsRow 0 67 7 v2 l.length (cellsC l)) (hl : l.length ≤ 8) :
    Calls Tryz.prog 39 #[v1, v2] w fun e w' => e = .returned (.bool true) ∧ Below w.heap.size w w' := by
  by_cases h0 : l.length = 0
  · obtain ⟨a1, c1, e1, _⟩ := own_slice h1
    obtain ⟨a2, c2, e2, _⟩ := own_slice h2
    rw [e1, e2, h0]
    exact equalC_nil a1 a2 c1 c2 w
  · rcases own_forms h1 with ⟨_, e0⟩ | ⟨g1, c1, e1, _⟩
    · exact (h0 e0).elim
    · rcases own_forms h2 with ⟨_, e0⟩ | ⟨g2, c2, e2, _⟩
      · exact (h0 e0).elim
      · subst e1 e2
        exact equal_any g1 0 c1 g2 0 c2 l w (SlC.of_own h1 rfl) (SlC.of_own h2 rfl) hl
theorem allEqI : ∀ l : List Int, Lib.allEq (fun x y => x == y) l l = true
  | [] => rfl
  | x :: l => by simp [Lib.allEq, allEqI l]
theorem equalI_any (v1 v2 : Value) (l : List Int) (w : World) (h1 : LiI w v1 l) (h2 : LiI w v2 l) (hl : l.length ≤ 1000) :
    Calls Tryz.prog 40 #[v1, v2] w fun e w' => e = .returned (.bool true) ∧ Below w.heap.size w w' := by
  by_cases h0 : l.length = 0
  · have hs : ∀ {v : Value}, LiI w v l → ∃ a c, v = .slice a 0 c := by
      rintro v (⟨⟨_, _, rfl⟩, _⟩ | ⟨g, o, c, rfl, _⟩)
      · exact ⟨_, _, rfl⟩
      · exact ⟨_, _, by rw [h0]⟩
    obtain ⟨a1, c1, e1⟩ := hs h1
    obtain ⟨a2, c2, e2⟩ := hs h2
    rw [e1, e2]
    exact equalI_nil a1 a2 c1 c2 w
  · rcases h1 with ⟨_, e0⟩ | ⟨g1, o1, c1, e1, _, _, d1⟩
    · rw [e0] at h0; exact (h0 rfl).elim
    · rcases h2 with ⟨_, e0⟩ | ⟨g2, o2, c2, e2, _, _, d2⟩
      · rw [e0] at h0; exact (h0 rfl).elim
      · subst e1 e2
        have := AnyE.slices_Equal Tryz.layEqI (Value.int .i64) (fun x y => x == y) (NeqAt.int _ _ .i64) g1 o1 l.length c1 g2 o2 l.length c2 l l w (Nat.le_refl _) (Nat.le_refl _) (by omega) (by omega) d1 d2
        rw [List.take_length, allEqI] at this
        exact this.mono fun _ _ ⟨he, q, hw⟩ => ⟨he, by rw [hw]; exact below_drewN' (Below.refl _ _) q⟩
end Go.Proofs.YtfppidnfomelpaaGreatDoor
