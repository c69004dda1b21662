/- What log.readColumns does, said of every call. -/
import Derived.Test.YtfppidnfomelpaaGreatDoorRC
namespace Go.Proofs.YtfppidnfomelpaaGreatDoor
open Go.RowKit Go.Proofs Go.Lib Go.Joins

def strLen : Value → Nat
  | .string s => s.size
  | _ => 0
def ColsPost (l : List UInt8) (w : World) (e : Ending) (w' : World) : Prop := ∃ (a : Option Addr) (n c : Nat) (ok : Bool), e = .returned (.tuple #[.slice a n c, .bool ok]) ∧ Below w.heap.size w w' ∧ ((ok = true ∧ ∃ L, readCols l = some L ∧ n = L.length ∧ w'.ownsRow w.heap.size 67 7 (.slice a n c) L.length (cellsC L)) ∨ (ok = false ∧ readCols l = none))
theorem cellsC_snoc (L : List Col) (c : Col) : cellsC (L ++ [c]) = cellsC L ++ encC c := by simp [cellsC]
theorem own_sl {w : World} {base : Nat} {T : TypeId} {z : Nat} {v : Value} {n : Nat} {xs : List Value} (h : w.ownsRow base T z v n xs) : ∃ a c, v = .slice a n c := by
  rcases own_forms h with ⟨e, e0⟩ | ⟨g, c, e, _⟩
  · exact ⟨none, 0, by rw [e, e0]⟩
  · exact ⟨_, c, e⟩
theorem own_blk {w : World} {base : Nat} {T : TypeId} {z : Nat} {v : Value} {n : Nat} {xs : List Value} (h : w.ownsRow base T z v n xs) {k : Nat} (hk : v.ownBlock = some k) : base ≤ k := by
  rcases own_forms h with ⟨e, _⟩ | ⟨g, c, e, hb, _⟩
  · rw [e] at hk; cases hk
  · rw [e] at hk; cases hk; exact hb

set_option maxHeartbeats 2000000 in
set_option maxRecDepth 100000 in
theorem readColumns_any (s : ByteArray) (w : World) (hs : s.size ≤ 1000000) (he : ErrB w) : Calls Tryz.prog 81 #[.string s] w (ColsPost s.data.toList w) := by
  obtain ⟨l, hl⟩ : ∃ l, s.data.toList = l := ⟨_, rfl⟩
  have hll : l.length ≤ 1000000 := by rw [← hl, size_list]; exact hs
  have es : s = bA l := by rw [← hl]; exact (bA_list s).symm
  rw [hl]
  obtain ⟨iC, ic1, ic2, ic3, ic4⟩ := info_parts info54
  have HIC := mkH (And.intro ic1 (And.intro ic2 (And.intro ic3 ic4)))
  have HRC : Hid (∀ (r : List UInt8) W, r.length ≤ 1000000 → Below w.heap.size w W → Calls Tryz.prog 112 #[.string (bA r)] W (ColPost r W)) := mkH (fun r W hr hW => by
    have := readColumn_any (bA r) W (by rw [bA_size]; exact hr) (he.below hW)
    rw [bA_toList] at this
    exact this)
  subst es
  clear he hl hs ic1 ic2 ic3 ic4
  go_enter Tryz.func81, Tryz.ntmps81
  go_wp2_with fail
  go_loopw [0, 4] (fun vs vl wr => ∃ (r : List UInt8) (L : List Col) (a : Option Addr) (c : Nat), vs = .string (bA r) ∧ vl = .slice a L.length c ∧ Hid (readCols l = (readCols r).map (L ++ ·)) ∧ L.length + r.length ≤ l.length ∧ Hid (wr.ownsRow w.heap.size 67 7 (.slice a L.length c) L.length (cellsC L)) ∧ Hid (Below w.heap.size w wr)) (fun vs _ _ => strLen vs)
  case atStart => exact ⟨l, [], none, 0, rfl, rfl, mkH (by simp), by simp, mkH (World.ownsRow_nil ..), mkH (Below.refl _ _)⟩
  case round =>
    obtain ⟨r, L, a, c, rfl, rfl, HRD, hlen, HOW, HBW⟩ := hrel
    cases r with
    | nil =>
      have e0 : bA ([] : List UInt8) = ⟨#[]⟩ := rfl
      rw [e0]
      go_wp2_with fail
      go_ret2
      refine ⟨a, L.length, c, true, rfl, HBW.out, .inl ⟨rfl, L, ?_, rfl, HOW.out⟩⟩
      rw [HRD.out, readCols_nil]
      simp
    | cons x r =>
      have hne : ((bA (x :: r)).toList == []) = false := by rw [toList_bA]; rfl
      have hne' : ¬ (bA (x :: r)).toList = [] := by rw [toList_bA]; simp
      have HC := mkH (HRC.out (x :: r) wr (by simp only [List.length_cons] at hlen ⊢; omega) HBW.out)
      have HZ : Hid (strLen (.string (bA (x :: r))) = (x :: r).length) := mkH (by simp [strLen, bA_size])
      have hlr : (x :: r).length ≤ l.length - L.length := by omega
      have hxr : (x :: r) ≠ [] := by simp
      generalize x :: r = xr at *
      have HXR := mkH hxr
      have HLT := mkH hlr
      clear hxr hlr
      cases hrc : readCol xr with
      | none =>
        have HN := mkH (readCols_none HXR.out hrc)
        have HC' : Hid (Calls Tryz.prog 112 #[.string (bA xr)] wr fun e w' => ∃ c1 c2 c3 c4 c5 c6 c7 b, e = .returned (.tuple #[.agg #[.int .i64 c1, .string c2, .int .i64 c3, .bool c4, .int .i64 c5, .int .i64 c6, .string c7], .string b, .bool false]) ∧ Below wr.heap.size wr w') := mkH (HC.out.mono (by
          rintro e w' ⟨c1, c2, c3, c4, c5, c6, c7, b, ok, rfl, hb, ⟨_, q, h, _⟩ | ⟨rfl, _⟩⟩
          · rw [hrc] at h; cases h
          · exact ⟨c1, c2, c3, c4, c5, c6, c7, b, rfl, hb⟩))
        clear HC hrc
        go_wp2_with (first
          | (go_at_call 112; refine HC'.out.mono ?_; rintro e w2 ⟨c1, c2, c3, c4, c5, c6, c7, b, rfl, hb2⟩))
        go_ret2
        refine ⟨none, 0, 0, false, rfl, (Below.ups HBW.out hb2).alloc (Below.ups HBW.out hb2).size _, .inr ⟨rfl, ?_⟩⟩
        rw [HRD.out, HN.out]
        rfl
      | some p =>
        obtain ⟨⟨c1, c2, c3, c4, c5, c6, c7⟩, r2⟩ := p
        have HN := mkH (readCols_cons HXR.out hrc)
        have hr2 := readCol_lt hrc
        have HC' : Hid (Calls Tryz.prog 112 #[.string (bA xr)] wr fun e w' => e = .returned (.tuple #[.agg #[.int .i64 c1, .string c2, .int .i64 c3, .bool c4, .int .i64 c5, .int .i64 c6, .string c7], .string (bA r2), .bool true]) ∧ Below wr.heap.size wr w') := mkH (HC.out.mono (by
          rintro e w' ⟨d1, d2, d3, d4, d5, d6, d7, b, ok, rfl, hb, ⟨rfl, q, h, rfl⟩ | ⟨_, h⟩⟩
          · rw [hrc] at h; cases h; exact ⟨rfl, hb⟩
          · rw [hrc] at h; cases h))
        clear HC hrc
        have hl2 := HLT.out
        go_wp2_with (first
          | (go_at_call 112; refine HC'.out.mono ?_; rintro e w2 ⟨rfl, hb2⟩; have HB2 := mkH hb2; have HA2 : Hid (Below w2.heap.size w2 ((w2.alloc (.cells #[.int .i64 c1, .string c2, .int .i64 c3, .bool c4, .int .i64 c5, .int .i64 c6, .string c7] 67)).alloc (.cells #[.int .i64 c1, .string c2, .int .i64 c3, .bool c4, .int .i64 c5, .int .i64 c6, .string c7] 67))) := mkH (((Below.refl _ _).alloc (Nat.le_refl _) _).alloc (by rw [World.size_alloc]; exact Nat.le_succ _) _); clear hb2)
          | (at_builtin; refine wpList_append_own _ rfl _ _ 44 rfl w.heap.size 67 iC zeroC 7 72 Tryz.underlying44 HIC.out.1 HIC.out.2.1 HIC.out.2.2.1 HIC.out.2.2.2 rfl (by decide) (.slice a L.length c) L.length (cellsC L) rfl (own_up (own_up HOW.out HB2.out) HA2.out) ⟨w2.heap.size + 1, 0, none⟩ 1 1 (encC (c1, c2, c3, c4, c5, c6, c7)) rfl rfl (fun j u hj => World.news_of_block (by rw [← World.size_alloc w2 (.cells #[.int .i64 c1, .string c2, .int .i64 c3, .bool c4, .int .i64 c5, .int .i64 c6, .string c7] 67)]; exact heap_alloc_new _ _) j u hj) (by intro u hu; simp [encC] at hu; rcases hu with rfl | rfl | rfl | rfl | rfl | rfl | rfl <;> rfl) (by unfold maxLen; omega) (by omega) (Nat.le_trans HBW.out.size (Nat.le_trans HB2.out.size HA2.out.size)) ?_
             intro v1 w3 hown3 hg3 _
             have HO3 := mkH hown3
             have HG3 := mkH hg3
             clear hown3 hg3))
        obtain ⟨a', c', rfl⟩ := own_sl HO3.out
        have hb4 := Below.ups (Below.ups HBW.out HB2.out) HA2.out
        refine ⟨⟨r2, L ++ [(c1, c2, c3, c4, c5, c6, c7)], a', c', rfl, by simp, mkH ?_, ?_, mkH ?_, mkH (hb4.grown HG3.out hb4.size (fun j hj => own_blk HOW.out hj))⟩, ?_⟩
        · rw [HRD.out, HN.out]
          cases readCols r2 <;> simp
        · simp only [List.length_append, List.length_cons, List.length_nil]
          omega
        · rw [cellsC_snoc]
          simpa using HO3.out
        · simp only [strLen, bA_size]
          exact hr2
end Go.Proofs.YtfppidnfomelpaaGreatDoor
