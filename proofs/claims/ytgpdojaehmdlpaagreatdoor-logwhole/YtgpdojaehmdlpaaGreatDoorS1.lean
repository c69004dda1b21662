/- What the statement's own set does, said of every call. -/
import Derived.Test.YtgpdojaehmdlpaaGreatDoorC3
namespace Go.Proofs.YtgpdojaehmdlpaaGreatDoor
open Go.RowKit Go.Proofs Go.Lib Go.Joins Go.Maps

def addrD : Option Addr → DataW Unit
  | none => .nil
  | some a => .agg [.lit (.int .i64 a.block), .lit (.int .i64 a.off)]
def entD (p : ByteArray) (r : Int) (s : Sv) : DataW Unit := .agg [.lit (.string p.data.toList), .lit (.int .i64 r), addrD s.1, .lit (.int .i64 s.2.1), .lit (.int .i64 s.2.2)]
def plainS (s : Sv) : Prop := s.1 = none ∨ ∃ b o, s.1 = some ⟨b, o, none⟩
theorem entD_inj {p p' : ByteArray} {r r' : Int} {s s' : Sv} (h : entD p r s = entD p' r' s') (hs : plainS s) (hs' : plainS s') : p = p' ∧ r = r' ∧ s = s' := by
  obtain ⟨a, n, c⟩ := s
  obtain ⟨a', n', c'⟩ := s'
  simp only [entD, DataW.agg.injEq, List.cons.injEq, DataW.lit.injEq, Lit.string.injEq, Lit.int.injEq, true_and, and_true] at h
  obtain ⟨h1, h2, h3, h4, h5⟩ := h
  have e1 : p = p' := by cases p; cases p'; simp at h1; simp [h1]
  have e4 : n = n' := by omega
  have e5 : c = c' := by omega
  subst e1 h2 e4 e5
  refine ⟨rfl, rfl, ?_⟩
  rcases hs with hs | ⟨b, o, hs⟩ <;> rcases hs' with hs' | ⟨b', o', hs'⟩ <;> simp only at hs hs' <;> subst hs hs'
  · rfl
  · simp [addrD] at h3
  · simp [addrD] at h3
  · simp only [addrD, DataW.agg.injEq, List.cons.injEq, DataW.lit.injEq, Lit.int.injEq, true_and, and_true] at h3
    have : b = b' := by omega
    have : o = o' := by omega
    subst b' o'
    rfl
/-- How a file reads in a map. -/
def entE (v : Value) : Option (DataW Unit × List MemPlace) :=
  match v with
  | .agg cs => match cs.toList with
    | [.string p, .int k r, .slice a n c] => if k = .i64 ∧ (a = none ∨ (a.map (fun x => x.spot)) = some none) then some (entD p r (a, n, c), []) else none
    | _ => none
  | _ => none
theorem plainS_iff (a : Option Addr) (n c : Nat) : plainS (a, n, c) ↔ (a = none ∨ (a.map (fun x => x.spot)) = some none) := by
  constructor
  · rintro (h | ⟨b, o, h⟩)
    · exact .inl h
    · simp only at h; subst h; exact .inr rfl
  · rintro (h | h)
    · exact .inl h
    · cases a with
      | none => cases h
      | some x =>
        obtain ⟨b, o, sp⟩ := x
        simp at h
        subst h
        exact .inr ⟨b, o, rfl⟩
theorem entE_mk {p : ByteArray} {r : Int} {a : Option Addr} {n c : Nat} (h : plainS (a, n, c)) : entE (.agg #[.string p, .int .i64 r, .slice a n c]) = some (entD p r (a, n, c), []) := by
  simp only [entE]
  rw [if_pos ⟨by trivial, (plainS_iff a n c).1 h⟩]
theorem entE_inv {v : Value} {z : DataW Unit × List MemPlace} (h : entE v = some z) : ∃ p r a n c, v = .agg #[.string p, .int .i64 r, .slice a n c] ∧ z = (entD p r (a, n, c), []) ∧ plainS (a, n, c) := by
  unfold entE at h
  split at h
  · rename_i cs
    split at h
    · rename_i p k r a n c hs
      split at h
      · rename_i hl
        cases h
        obtain ⟨rfl, hl⟩ := hl
        exact ⟨p, r, a, n, c, by rw [← Array.toArray_toList (xs := cs), hs], rfl, (plainS_iff a n c).2 hl⟩
      · cases h
    · cases h
  · cases h

/-- A map has just these files. -/
def SetAt (W : World) (m n : Nat) (L : List EntV) : Prop := ∃ D : DataW Unit, W.ownsMap Tryz.prog 9 entE m n D ∧ (∀ p, has D (lit p) = L.any (fun x => decide (x.1.1 = p))) ∧ (∀ x ∈ L, ∀ z, D.atKey (lit x.1.1) z = entD x.1.1 x.1.2.1 x.2) ∧ Maps.size D = L.length
theorem ownsMap_up {w W : World} {R : Value → Option (DataW Unit × List MemPlace)} {k b n : Nat} {D : DataW Unit} (h : w.ownsMap Tryz.prog k R b n D) (hb : Below w.heap.size w W) : W.ownsMap Tryz.prog k R b n D := by
  obtain ⟨es, clock, h3, h4⟩ := h
  exact ⟨es, clock, (hb.block b (blk_lt h3)).trans h3, h4⟩
theorem SetAt.below {w W : World} {b n : Nat} {l : List EntV} (h : SetAt w b n l) (hb : Below w.heap.size w W) : SetAt W b n l := by
  obtain ⟨D, h1, h2⟩ := h
  exact ⟨D, ownsMap_up h1 hb, h2⟩
theorem SetAt.put {w W : World} {m n : Nat} {l : List EntV} {x : EntV} {D : DataW Unit} (h1 : w.ownsMap Tryz.prog 9 entE m n D) (h2 : ∀ p, has D (lit p) = l.any (fun x => decide (x.1.1 = p))) (h3 : ∀ x ∈ l, ∀ z, D.atKey (lit x.1.1) z = entD x.1.1 x.1.2.1 x.2) (h4 : Maps.size D = l.length)
    (hx : ∀ y ∈ l, y.1.1 ≠ x.1.1) (ho : W.ownsMap Tryz.prog 9 entE m (n + 1) (D.put (lit x.1.1) (entD x.1.1 x.1.2.1 x.2))) : SetAt W m (n + 1) (l ++ [x]) := by
  have hno : has D (lit x.1.1) = false := by
    rw [h2, List.any_eq_false]
    intro y hy
    simp [hx y hy]
  refine ⟨_, ho, fun p => ?_, fun y hy z => ?_, ?_⟩
  · by_cases e : x.1.1 = p
    · subst e
      rw [has_put_same h1.isMap (litKey _)]
      simp
    · rw [has_put_other (fun hh => e (lit_inj hh).symm), h2]
      simp [e]
  · rcases List.mem_append.1 hy with hy | hy
    · rw [atKey_put_other (fun hh => hx y hy (lit_inj hh))]
      exact h3 y hy z
    · simp at hy
      subst hy
      exact atKey_put_same h1.isMap (litKey _) _ _
  · rw [size_put (h1.tidy law9), hno, h4]
    simp
theorem own_plain {w : World} {base : Nat} {e : TypeId} {z : Nat} {s : Sv} {n : Nat} {xs : List Value} (h : w.ownsRow base e z (sv s) n xs) : plainS s := by
  rcases own_forms h with ⟨e1, _⟩ | ⟨g, c, e1, _⟩
  · obtain ⟨a, b, c⟩ := s; injection e1 with e1; exact .inl e1
  · obtain ⟨a, b, c⟩ := s; injection e1 with e1; exact .inr ⟨g, 0, e1⟩
theorem takeX_next {l : List EntV} {k : Nat} (hk : k < l.length) : l.take (k + 1) = l.take k ++ [l[k]!] := by
  rw [List.take_add_one, List.getElem?_eq_getElem hk, getElem!_pos l k hk]; rfl

def SetPost (w : World) (L : List EntV) (e : Ending) (w' : World) : Prop := ∃ m, e = .returned (.map (some m)) ∧ w.heap.size ≤ m ∧ SetAt w' m L.length L ∧ Below w.heap.size w w'

set_option maxHeartbeats 2000000 in
set_option maxRecDepth 100000 in
theorem set_any (s : Snap) (a1 : Option Addr) (n1 c1 : Nat) (a2 : Option Addr) (c2 : Nat) (L : List EntV) (w : World) (hV : SnapV w s (.slice a1 n1 c1) (.slice a2 L.length c2) L) (hn : L.length ≤ 1000) (hp : ∀ x ∈ L, x.1.1.size ≤ maxLen) (hd : (L.map (·.1.1)).Nodup) :
    Calls Tryz.prog 17 #[.agg #[.int .i64 s.ver, .slice a1 n1 c1, .int .i64 s.next, .slice a2 L.length c2]] w (SetPost w L) := by
  have HV := mkH hV
  have HP := mkH hp
  have HND : Hid (∀ k, k < L.length → ∀ y ∈ L.take k, y.1.1 ≠ L[k]!.1.1) := fun k hk y hy e => by
    obtain ⟨j, hj, rfl⟩ := List.getElem_of_mem hy
    have hj' : j < k ∧ j < L.length := by simpa [Nat.lt_min] using hj
    rw [List.getElem_take, getElem!_pos L k hk] at e
    have := (List.getElem_inj (xs := L.map (·.1.1)) (i := j) (j := k) (h₀ := by simpa using hj'.2) (h₁ := by simpa using hk) hd).1 (by simpa using e)
    omega
  have hmm := @run_makeMap Tryz.prog
  have HM0 : Hid (∀ W : World, SetAt (W.alloc (.map #[] 0)) W.heap.size 0 []) := fun W => ⟨.map [], World.ownsMap_made W _ _ _, fun p => rfl, (fun x hx => (by cases hx)), rfl⟩
  clear hV hp hd
  go_enter Tryz.func17, Tryz.ntmps17
  go_wp2_with fail
  have HB0 : Hid (Below w.heap.size w ((w.alloc (.cells #[.int .i64 s.ver, .slice a1 n1 c1, .int .i64 s.next, .slice a2 L.length c2] 41)).alloc (.map #[] 0))) := ((Below.refl _ _).alloc (Nat.le_refl _) _).alloc (by simp) _
  have HS0 : Hid (SetAt ((w.alloc (.cells #[.int .i64 s.ver, .slice a1 n1 c1, .int .i64 s.next, .slice a2 L.length c2] 41)).alloc (.map #[] 0)) (w.heap.size + 1) 0 (L.take 0)) := mkH (by
    have := HM0.out (w.alloc (.cells #[.int .i64 s.ver, .slice a1 n1 c1, .int .i64 s.next, .slice a2 L.length c2] 41))
    rwa [World.size_alloc] at this)
  clear hmm HM0
  go_loopw [10] (fun vi wr => ∃ k : Nat, k ≤ L.length ∧ vi = .int .i64 k ∧ Hid (SetAt wr (w.heap.size + 1) k (L.take k)) ∧ Hid (Below w.heap.size w wr)) (fun vi _ => L.length - (intOf vi).toNat)
  case atStart => exact ⟨0, Nat.zero_le _, rfl, HS0, HB0⟩
  case round =>
    clear HS0 HB0
    obtain ⟨k, hk, rfl, SE, BW⟩ := hrel
    by_cases hlt : k < L.length
    · have hltz : (k : Int) < (L.length : Int) := by omega
      have hV := HV.out.up BW.out
      rcases own_forms hV.row with ⟨_, e0⟩ | ⟨g, c, eg, _, hgl, _, _⟩
      · omega
      · injection eg with eg1 _ eg2
        subst eg1 eg2
        have hx : L[k]! ∈ L := by rw [getElem!_pos L k hlt]; exact List.getElem_mem hlt
        have hpl := own_plain (hV.masks _ hx)
        have hpz := HP.out _ hx
        have HNX := mkH (HND.out k hlt)
        have HTN := mkH (takeX_next hlt)
        have hr := rowX hV.row rfl k hlt
        obtain ⟨⟨⟨xp, xr, xm⟩, xa, xn, xc⟩, hxe⟩ : ∃ x, L[k]! = x := ⟨_, rfl⟩
        rw [hxe] at hpl hpz HNX HTN hr
        have q0 := hr 0 _ rfl
        have q1 := hr 1 _ rfl
        have q2 := hr 2 _ rfl
        simp only [Nat.zero_add, Nat.add_zero] at q0 q1 q2
        simp only at hpz
        obtain ⟨D, d1, d2, d3, d4⟩ := SE.out.below ((Below.refl wr.heap.size wr).alloc (Nat.le_refl _) (.cells #[.string xp, .int .i64 xr, .slice xa xn xc] 53))
        have D1 := mkH d1
        have D2 := mkH d2
        have D3 := mkH d3
        have D4 := mkH d4
        have HPL := mkH hpl
        have hsw := BW.out.size
        have hml : w.heap.size + 1 < wr.heap.size := by
          obtain ⟨_, h1, _⟩ := SE.out
          exact h1.lt
        clear d1 d2 d3 d4 hr hx hxe hV hpl
        go_wp2_with (at_mapUpdate; refine wpList_mapUpdate_in _ rfl _ _ _ 47 rfl 9 53 law9 Tryz.underlying47 _ (w.heap.size + 1) k D rfl D1.out (by unfold maxLen; omega) _ _ _ rfl rfl (keyOf9 hpz) _ [] (entE_mk HPL.out) ?_; intro w8 hown8 hturn8
                     have HO8 := mkH hown8
                     have HG8 := mkH hturn8.grown
                     clear hown8 hturn8)
        go_roundw
        case rel =>
          refine ⟨k + 1, by omega, by go_num, mkH ?_, mkH ((BW.out.alloc hsw _).grown HG8.out (by simp; omega) (fun j hj => by cases hj; omega))⟩
          rw [HTN.out]
          exact SetAt.put (x := ((xp, xr, xm), (xa, xn, xc))) D1.out D2.out D3.out D4.out HNX.out HO8.out
        case measure => simp [intOf]; omega
    · have hkl : k = L.length := by omega
      subst hkl
      go_wp2
      go_ret
      refine ⟨w.heap.size + 1, rfl, Nat.le_succ _, ?_, BW.out⟩
      have := SE.out
      rwa [List.take_length] at this
end Go.Proofs.YtgpdojaehmdlpaaGreatDoor
