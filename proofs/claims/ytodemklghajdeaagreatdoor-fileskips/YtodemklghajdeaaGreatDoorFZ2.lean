/- What file.plainColumns does, said of every call. -/
import Derived.Test.YtodemklghajdeaaGreatDoorFX3
namespace Go.Proofs.YtodemklghajdeaaGreatDoor
open Go.RowKit Go.Proofs Go.Shelf Go.Joins

theorem dec_small {i : Nat} (h : i < 8) : (⟨#[99]⟩ ++ ⟨(Lib.decDigits i).toArray⟩ : ByteArray) = cname i := by
  rw [Lib.decDigits, dif_pos (by omega)]
  rfl
theorem plain_next {l : List Col} {k : Nat} {c : Col} (h : l[k]? = some c) : ((plainC l).take (k + 1)).flatMap C.encC = ((plainC l).take k).flatMap C.encC ++ [.int .i64 c.1, .string (cname k), .int .i64 c.2.2.1, .bool false, .int .i64 0, .int .i64 0, .string ⟨#[]⟩] := by
  rw [E.take_next (plainC_at h), List.flatMap_append]
  rfl

set_option maxHeartbeats 4000000 in
set_option maxRecDepth 100000 in
theorem plain_any (lv : Value) (l : List Col) (w : World) (hl : SlE 7 C.encC w lv l) (h8 : l.length ≤ 8) :
    Calls Tryz.prog 64 #[lv] w fun e w' => ∃ v', e = .returned v' ∧ w'.ownsRow w.heap.size 47 7 v' l.length ((plainC l).flatMap C.encC) ∧ Below w.heap.size w w' := by
  have HL := mkH hl
  obtain ⟨la, lc, rfl, _⟩ := hl.slice
  clear hl
  obtain ⟨iC, hiC, hzC, hz1C, hz2C⟩ := info_parts C.info54
  have HIC := mkH (And.intro hiC (And.intro hzC (And.intro hz1C hz2C)))
  clear hiC hzC hz1C hz2C
  go_enter Tryz.func64, Tryz.ntmps64
  go_wp2
  go_loopw [3, 8] (fun vp vi wr => ∃ k : Nat, k ≤ l.length ∧ vi = .int .i64 k ∧ Hid (wr.ownsRow w.heap.size 47 7 vp k (((plainC l).take k).flatMap C.encC)) ∧ Hid (Below w.heap.size w wr)) (fun _ vi _ => l.length - (intOf vi).toNat)
  case atStart => exact ⟨0, Nat.zero_le _, rfl, mkH (World.ownsRow_nil _ _ _ _), mkH (Below.refl _ _)⟩
  case round =>
    obtain ⟨k, hk, rfl, ho, hbR⟩ := hrel
    obtain ⟨pa, pc, rfl, _⟩ := E.ownsRow_slice ho.out
    have hszr := hbR.out.size
    by_cases hlt : k < l.length
    · obtain ⟨⟨c1, c2, c3, c4, c5, c6, c7⟩, hc⟩ : ∃ c, l[k]? = some c := ⟨_, List.getElem?_eq_getElem hlt⟩
      obtain ⟨lb, lo, lc', el, _, hlb, hlcell⟩ := (HL.out.up hbR.out).cons (by omega)
      injection el with el1 _ el2
      subst el1 el2
      obtain ⟨q0, q1, q2, q3, q4, q5, q6⟩ := cells7 hlcell hc
      have HNX := mkH (plain_next hc)
      have hkl : (k : Int) < (l.length : Int) := by omega
      have HDS := mkH (dec_small (i := k) (by omega))
      have HIT := mkH (fun W => Tryz.strconv_Itoa_small k (by omega) W)
      obtain ⟨d, hd⟩ : ∃ d, (⟨(Lib.decDigits k).toArray⟩ : ByteArray) = d := ⟨_, rfl⟩
      rw [hd] at HDS HIT
      have hd1 : d.size = 1 := by rw [← hd, Lib.decDigits, dif_pos (by omega)]; rfl
      clear hd
      have hk8 : k < 8 := by omega
      clear hlcell hc
      go_wp2_with fail
      clear q0 q1 q2 q3 q4 q5 q6
      have HNB := mkH (heap_alloc_new wr (.cells #[.int .i64 c1, .string c2, .int .i64 c3, .bool c4, .int .i64 c5, .int .i64 c6, .string c7] 47))
      have hO1 := (ho.out.alloc (.cells #[.int .i64 c1, .string c2, .int .i64 c3, .bool c4, .int .i64 c5, .int .i64 c6, .string c7] 47))
      have hB1 : Below w.heap.size w (wr.alloc (.cells #[.int .i64 c1, .string c2, .int .i64 c3, .bool c4, .int .i64 c5, .int .i64 c6, .string c7] 47)) := hbR.out.alloc hszr _
      have hS1 : (wr.alloc (.cells #[.int .i64 c1, .string c2, .int .i64 c3, .bool c4, .int .i64 c5, .int .i64 c6, .string c7] 47)).heap.size = wr.heap.size + 1 := World.size_alloc _ _
      generalize wr.alloc (.cells #[.int .i64 c1, .string c2, .int .i64 c3, .bool c4, .int .i64 c5, .int .i64 c6, .string c7] 47) = W1 at *
      have q0 : W1.cell? ⟨wr.heap.size, 0, none⟩ = some (.int .i64 c1) := by simp [World.cell?, HNB.out]
      have q2 : W1.cell? ⟨wr.heap.size, 2, none⟩ = some (.int .i64 c3) := by simp [World.cell?, HNB.out]
      have HS1 := mkH hS1
      have HO1 := mkH hO1
      have HB1 := mkH hB1
      have HFAR : Hid (∀ j, (Value.slice pa k pc).ownBlock = some j → j < wr.heap.size) := mkH (fun j hj => (ho.out.lt j hj).2)
      have HKP : Hid (∀ W W', Below (wr.heap.size + 1) W1 W → W.grownBy W' (Value.slice pa k pc).ownBlock → W'.cell? ⟨wr.heap.size, 0, none⟩ = some (.int .i64 c1) ∧ W'.cell? ⟨wr.heap.size, 2, none⟩ = some (.int .i64 c3)) := mkH (fun W W' hW hg => by
        have hs := hW.size
        have far : ∀ i, W'.cell? ⟨wr.heap.size, i, none⟩ = W1.cell? ⟨wr.heap.size, i, none⟩ := fun i => (hg.cell_far ⟨wr.heap.size, i, none⟩ (by show wr.heap.size < _; omega) (fun e => by have := HFAR.out _ e.symm; exact absurd this (Nat.lt_irrefl _))).trans (hW.cell (p := ⟨wr.heap.size, i, none⟩) (Nat.lt_succ_self _))
        exact ⟨(far 0).trans q0, (far 2).trans q2⟩)
      clear hO1 hB1 hS1
      go_region_held3 (fun w' => w'.cell? ⟨wr.heap.size, 0, none⟩ = some (.int .i64 c1) ∧ w'.cell? ⟨wr.heap.size, 2, none⟩ = some (.int .i64 c3))
        (first
          | (go_keep; done)
          | exact hkp4
          | fail)
        (first
          | (go_at_call 91; refine (HIT.out _).mono ?_; rintro e w3 ⟨rfl, rfl⟩)
          | (refine step_append_lies _ (by rfl) (.tmp 13) (.tmp 22) 22 (by rfl) w.heap.size 47 iC C.zeroC 7 72 Tryz.underlying22 HIC.out.1 HIC.out.2.1 HIC.out.2.2.1 HIC.out.2.2.2 rfl (by decide) (.slice pa k pc) k (((plainC l).take k).flatMap C.encC) (by rfl) (HO1.out.drew.alloc _) ⟨W1.heap.size, 0, none⟩ 1 1 [.int .i64 c1, .string (⟨#[99]⟩ ++ d), .int .i64 c3, .bool false, .int .i64 0, .int .i64 0, .string ⟨#[]⟩] (by rfl) rfl (fun j u hj => World.news_of_block (heap_alloc_new _ _) j u hj) (by simp [Value.oneCell']) (by omega) (by unfold maxLen; omega) (by omega) (by have := HS1.out; simp; omega) _ rfl ?_; intro g4 cap4 w4 ho4 hg4 _ _; have hkp4 := HKP.out _ _ (((Below.refl _ W1).drew).alloc (by have := HS1.out; simp; omega) _) hg4; clear hd1)
          | fail)
      have hb4 := E.below_grown_own (HB1.out.drew.alloc (by have := HB1.out.size; simp; omega) _) (HO1.out.drew.alloc _) hg4 (by have := HB1.out.size; simp; omega)
      have HO4 : Hid (w4.ownsRow w.heap.size 47 7 (.slice (some ⟨g4, 0, none⟩) (k + 1) cap4) (k + 1) (((plainC l).take (k + 1)).flatMap C.encC)) := mkH (by rw [HNX.out, ← HDS.out]; exact ho4)
      clear ho4 hg4 hkp4
      go_wp2
      exact ⟨⟨k + 1, by omega, by go_num, HO4, mkH hb4⟩, by simp [intOf]; omega⟩
    · have hkl : ¬ (k : Int) < (l.length : Int) := by omega
      have HO3 : Hid (wr.ownsRow w.heap.size 47 7 (.slice pa k pc) l.length ((plainC l).flatMap C.encC)) := mkH (by
        have h := ho.out
        have ek : k = l.length := by omega
        rw [List.take_of_length_le (by rw [plainC_len]; omega)] at h
        rw [← ek]; exact h)
      go_wp2
      go_ret
      exact ⟨_, rfl, HO3.out, hbR.out⟩
end Go.Proofs.YtodemklghajdeaaGreatDoor
