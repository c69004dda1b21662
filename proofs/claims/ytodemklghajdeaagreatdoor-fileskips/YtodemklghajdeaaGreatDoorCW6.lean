/- What schema.Right does, said of every call at columns that may be a table's. -/
import Derived.Test.YtodemklghajdeaaGreatDoorCW4
import Derived.Lib.QuietBelow
namespace Go.Proofs.YtodemklghajdeaaGreatDoor.C
open Go.RowKit Go.Proofs Go.Lib Go.Joins
open Go.Sort (grow)

def alikeB (x c : Col) : Bool := c.1 == x.1 || c.2.1.toList == x.2.1.toList

theorem alikeF_any (x : Col) (B : Nat) (w : World) (hB : B < w.heap.size) (h0 : w.cell? ⟨B, 0, none⟩ = some (.int .i64 x.1)) (h1 : w.cell? ⟨B, 1, none⟩ = some (.string x.2.1)) :
    PredBelow Tryz.prog 95 #[.pointer (some ⟨B, 0, none⟩)] (fun x : Col => .agg (encC x).toArray) (alikeB x) w := fun W c hb => by
  have h0' : W.cell? ⟨B, 0, none⟩ = some (.int .i64 x.1) := (hb.cell (p := ⟨B, 0, none⟩) hB).trans h0
  have h1' : W.cell? ⟨B, 1, none⟩ = some (.string x.2.1) := (hb.cell (p := ⟨B, 1, none⟩) hB).trans h1
  have hBW : B < W.heap.size := Nat.lt_of_lt_of_le hB hb.size
  have hne : B ≠ W.heap.size := by omega
  clear h0 h1
  obtain ⟨c1, c2, c3, c4, c5, c6, c7⟩ := c
  have HR : Hid (alikeB x (c1, c2, c3, c4, c5, c6, c7) = (c1 == x.1 || c2.toList == x.2.1.toList)) := rfl
  generalize alikeB x (c1, c2, c3, c4, c5, c6, c7) = r at *
  generalize x.1 = x1 at *
  generalize x.2.1 = x2 at *
  show Calls Tryz.prog 95 #[.agg #[.int .i64 c1, .string c2, .int .i64 c3, .bool c4, .int .i64 c5, .int .i64 c6, .string c7], .pointer (some ⟨B, 0, none⟩)] W _
  by_cases hq : c1 = x1
  · subst hq
    go_enter Tryz.func95, Tryz.ntmps95
    go_wp2
    all_goals (go_ret; exact ⟨ret_bool (by rw [HR.out]; simp), hb.alloc hb.size _⟩)
  · have hq' : (c1 == x1) = false := by simpa using hq
    go_enter Tryz.func95, Tryz.ntmps95
    go_wp2
    all_goals (go_ret; exact ⟨ret_bool (by rw [HR.out]; simp [hq']), hb.alloc hb.size _⟩)

set_option maxHeartbeats 1000000 in
theorem alike_any (g o c : Nat) (l : List Col) (x : Col) (w : World) (h : SlC w g o l) (hl : l.length ≤ 8) :
    Calls Tryz.prog 67 #[.slice (some ⟨g, o, none⟩) l.length c, .agg (encC x).toArray] w fun e w' => e = .returned (.bool (l.any (alikeB x))) ∧ Below w.heap.size w w' := by
  have eg : ∀ args w, (callFunc 95 args).run Tryz.prog w = .ok (.enter 95 args) w := enters_of Tryz.func95 (by kernel_rfl) rfl
  have h1 : SlC (w.alloc (.cells (encC x).toArray 47)) g o l := h.below ((Below.refl _ _).alloc (Nat.le_refl _) _)
  have hcon := AnyQ.slices_ContainsFunc Tryz.layCon 7 Tryz.isAgg47 Tryz.sizeOf47 encC encC_len (alikeB x) 95 #[.pointer (some ⟨w.heap.size, 0, none⟩)] eg g o l.length c l (w.alloc (.cells (encC x).toArray 47))
    (alikeF_any x w.heap.size _ (by simp) (by rw [World.cell?_alloc_at _ _ _ _ rfl]; rfl) (by rw [World.cell?_alloc_at _ _ _ _ rfl]; rfl)) (Nat.le_refl _) (by omega) h1.1 h1.2
  rw [List.take_length] at hcon
  change Calls Tryz.prog 94 _ _ (fun e w' => e = .returned (.bool (l.any (alikeB x))) ∧ _) at hcon
  clear h h1
  generalize l.any (alikeB x) = r at hcon ⊢
  obtain ⟨c1, c2, c3, c4, c5, c6, c7⟩ := x
  simp only [encC, List.toArray] at hcon ⊢
  go_enter Tryz.func67, Tryz.ntmps67
  go_wp2_with (go_at_call 94; refine hcon.mono ?_; rintro e w' ⟨rfl, hb'⟩)
  go_ret
  exact ⟨rfl, b1c hb'⟩
end Go.Proofs.YtodemklghajdeaaGreatDoor.C

namespace Go.Proofs.YtodemklghajdeaaGreatDoor.C
open Go.RowKit Go.Proofs Go.Lib Go.Joins
open Go.Sort (grow)

theorem name_small {s : ByteArray} (h : nameB s = true) : s.size ≤ 16 := by simp [nameB] at h; exact h.2.1
theorem col_small {s : ByteArray} (h : colB s = true) : s.size ≤ maxLen := by
  have : nameB s = true := by simp [colB] at h; exact h.2
  have := name_small this
  unfold maxLen; omega
theorem rightV_small {k n : Int} {t : ByteArray} (h : rightV k n t = true) : t.size ≤ 40 := by
  unfold rightV at h
  have e0 : t.toList.isEmpty = true → t.size ≤ 40 := fun e => by
    have : t.toList = [] := by simpa using e
    have := toList_nil.1 this
    omega
  split at h
  · exact e0 (by simp at h; simp [h.2])
  split at h
  · exact e0 h
  split at h
  · simp [rtB] at h; exact h.2.1
  · cases h
theorem fit_small {k dk dn : Int} {t : ByteArray} (h : fitB k dk dn t = true) : t.size ≤ maxLen := by
  have : rightV dk dn t = true := by simp [fitB] at h; exact h.1
  have := rightV_small this
  unfold maxLen; omega

theorem none_alike {cb : ByteArray → Bool} {fb : Int → Int → Int → ByteArray → Bool} {l : List Col} {next : Int} (h : RightP cb fb l next) {k : Nat} (hk : k < l.length) : (l.take k).any (alikeB l[k]!) = false := by
  rw [List.any_eq_false]
  intro c hc
  obtain ⟨j, hj, rfl⟩ := List.getElem_of_mem hc
  have hj' : j < k ∧ j < l.length := by simpa [Nat.lt_min] using hj
  rw [List.getElem_take, ← getElem!_pos l j hj'.2]
  have := apart_at h.2.2.2 hj'.2 hk (by omega)
  simp only [alikeB, Bool.or_eq_true, beq_iff_eq, not_or]
  exact ⟨this.1, fun e => this.2 (toList_inj e)⟩

theorem SlC.cells {w : World} {g o : Nat} {l : List Col} (h : SlC w g o l) {k : Nat} (hk : k < l.length) {c1 : Int} {c2 : ByteArray} {c3 : Int} {c4 : Bool} {c5 c6 : Int} {c7 : ByteArray} (e : l[k]! = (c1, c2, c3, c4, c5, c6, c7)) :
    w.cell? ⟨g, o + k * 7, none⟩ = some (.int .i64 c1) ∧ w.cell? ⟨g, o + k * 7 + 1, none⟩ = some (.string c2) ∧ w.cell? ⟨g, o + k * 7 + 2, none⟩ = some (.int .i64 c3) ∧ w.cell? ⟨g, o + k * 7 + 3, none⟩ = some (.bool c4) ∧ w.cell? ⟨g, o + k * 7 + 4, none⟩ = some (.int .i64 c5) ∧ w.cell? ⟨g, o + k * 7 + 5, none⟩ = some (.int .i64 c6) ∧ w.cell? ⟨g, o + k * 7 + 6, none⟩ = some (.string c7) :=
  ⟨h.2 k hk 0 _ (by rw [e]; rfl), h.2 k hk 1 _ (by rw [e]; rfl), h.2 k hk 2 _ (by rw [e]; rfl), h.2 k hk 3 _ (by rw [e]; rfl), h.2 k hk 4 _ (by rw [e]; rfl), h.2 k hk 5 _ (by rw [e]; rfl), h.2 k hk 6 _ (by rw [e]; rfl)⟩

theorem new7 (w : World) (v0 v1 v2 v3 v4 v5 v6 : Value) :
    (w.alloc (.cells #[v0, v1, v2, v3, v4, v5, v6] 47)).cell? ⟨w.heap.size, 0, none⟩ = some v0 ∧ (w.alloc (.cells #[v0, v1, v2, v3, v4, v5, v6] 47)).cell? ⟨w.heap.size, 1, none⟩ = some v1 ∧ (w.alloc (.cells #[v0, v1, v2, v3, v4, v5, v6] 47)).cell? ⟨w.heap.size, 2, none⟩ = some v2 ∧ (w.alloc (.cells #[v0, v1, v2, v3, v4, v5, v6] 47)).cell? ⟨w.heap.size, 3, none⟩ = some v3 ∧ (w.alloc (.cells #[v0, v1, v2, v3, v4, v5, v6] 47)).cell? ⟨w.heap.size, 4, none⟩ = some v4 ∧ (w.alloc (.cells #[v0, v1, v2, v3, v4, v5, v6] 47)).cell? ⟨w.heap.size, 5, none⟩ = some v5 ∧ (w.alloc (.cells #[v0, v1, v2, v3, v4, v5, v6] 47)).cell? ⟨w.heap.size, 6, none⟩ = some v6 := by
  refine ⟨?_, ?_, ?_, ?_, ?_, ?_, ?_⟩ <;> (rw [World.cell?_alloc_at _ _ _ _ rfl]; rfl)

set_option maxHeartbeats 4000000 in
set_option maxRecDepth 100000 in
theorem right_any (g c : Nat) (l : List Col) (next : Int) (w : World) (h : SlC w g 0 l) (hr : RightP colB fitB l next) (hcap : l.length ≤ c) (hw : NcB w) :
    Calls Tryz.prog 37 #[.slice (some ⟨g, 0, none⟩) l.length c, .int .i64 next] w fun e w' => e = .returned (.bool true) ∧ Below w.heap.size w w' := by
  have hl1 : 1 ≤ (l.length : Int) := by have := hr.1; omega
  have hl8 : (l.length : Int) ≤ 8 := by have := hr.2.1; omega
  have hl8' : l.length ≤ 8 := hr.2.1
  have HR : Hid (RightP colB fitB l next) := hr
  have HS : Hid (SlC w g 0 l) := h
  have HN : Hid (NcB w) := hw
  clear hr h hw
  go_enter Tryz.func37, Tryz.ntmps37
  go_wp2
  go_loopw [17] (fun i wr => ∃ k : Nat, k ≤ l.length ∧ i = .int .i64 k ∧ Aside (Below w.heap.size w wr))
    (fun i _ => l.length - (intOf i).toNat)
  case atStart => exact ⟨0, Nat.zero_le _, rfl, Below.refl _ _⟩
  case round =>
    obtain ⟨k, hk, rfl, BW⟩ := hrel
    by_cases hlt : k < l.length
    · have hltz : (k : Int) < (l.length : Int) := by omega
      have hkc : k ≤ c := by omega
      have ex : ∃ x, l[k]! = x := ⟨_, rfl⟩
      obtain ⟨⟨c1, c2, c3, c4, c5, c6, c7⟩, hx⟩ := ex
      obtain ⟨q0, q1, q2, q3, q4, q5, q6⟩ := (HS.out.below BW.out).cells hlt hx
      simp only [Nat.zero_add] at q0 q1 q2 q3 q4 q5 q6
      obtain ⟨hmay, hid⟩ := HR.out.2.2.1 _ (mem_of_lt hlt)
      rw [hx] at hmay hid
      have HD : Hid (decide (next ≤ c1) = false) := by simp only at hid; exact decide_eq_false (by omega)
      have HM : Hid (∀ W, Below w.heap.size w W → Calls Tryz.prog 46 #[.agg #[.int .i64 c1, .string c2, .int .i64 c3, .bool c4, .int .i64 c5, .int .i64 c6, .string c7]] W fun e w' => e = .returned (.bool true) ∧ Below W.heap.size W w') := fun W hb => by
        have := mayBe_any c1 c2 c3 c4 c5 c6 c7 W (col_small hmay.2.2.1) (fit_small hmay.2.2.2) (HN.out.below hb)
        rwa [(mayB_iff _).2 hmay] at this
      have HA : Hid (∀ W, Below w.heap.size w W → Calls Tryz.prog 67 #[.slice (some ⟨g, 0, none⟩) k c, .agg #[.int .i64 c1, .string c2, .int .i64 c3, .bool c4, .int .i64 c5, .int .i64 c6, .string c7]] W fun e w' => e = .returned (.bool false) ∧ Below W.heap.size W w') := fun W hb => by
        have := alike_any g 0 c (l.take k) (c1, c2, c3, c4, c5, c6, c7) W ((HS.out.below hb).take k) (by simp; omega)
        rw [← hx, none_alike HR.out hlt, hx] at this
        rwa [show (l.take k).length = k by simp; omega] at this
      clear hmay hid
      go_wp2_with fail
      have BQ : Hid (Below w.heap.size w (wr.alloc (.cells #[.int .i64 c1, .string c2, .int .i64 c3, .bool c4, .int .i64 c5, .int .i64 c6, .string c7] 47))) := BW.out.alloc BW.out.size _
      obtain ⟨e0, e1, e2, e3, e4, e5, e6⟩ := new7 wr (.int .i64 c1) (.string c2) (.int .i64 c3) (.bool c4) (.int .i64 c5) (.int .i64 c6) (.string c7)
      clear q0 q1 q2 q3 q4 q5 q6
      generalize wr.alloc (.cells #[.int .i64 c1, .string c2, .int .i64 c3, .bool c4, .int .i64 c5, .int .i64 c6, .string c7] 47) = wq at *
      generalize wr.heap.size = nb at *
      replace e0 := cell_regrown e0; replace e1 := cell_regrown e1; replace e2 := cell_regrown e2; replace e3 := cell_regrown e3; replace e4 := cell_regrown e4; replace e5 := cell_regrown e5; replace e6 := cell_regrown e6
      have H1 : Hid (∀ d os, Calls Tryz.prog 46 #[.agg #[.int .i64 c1, .string c2, .int .i64 c3, .bool c4, .int .i64 c5, .int .i64 c6, .string c7]] (grow (redrawn wq d) os) fun e w'' => e = .returned (.bool true) ∧ ∃ p : Regrown, w'' = grow (redrawn wq p.d) p.os) := fun d os => Calls.regrown_of (HM.out _ (Below.ups BQ.out (below_regrown wq d os)))
      have H2 : Hid (∀ d os, Calls Tryz.prog 67 #[.slice (some ⟨g, 0, none⟩) k c, .agg #[.int .i64 c1, .string c2, .int .i64 c3, .bool c4, .int .i64 c5, .int .i64 c6, .string c7]] (grow (redrawn wq d) os) fun e w'' => e = .returned (.bool false) ∧ ∃ p : Regrown, w'' = grow (redrawn wq p.d) p.os) := fun d os => Calls.regrown_of (HA.out _ (Below.ups BQ.out (below_regrown wq d os)))
      have hd := HD.out
      refine wp_region_quiet_below (by kernel_rfl) (by kernel_rfl) ?_
      repeat (go_big_quiet_step (first
        | (go_at_call_of 46 (#[.agg #[.int .i64 c1, .string c2, .int .i64 c3, .bool c4, .int .i64 c5, .int .i64 c6, .string c7]] : Array Value); exact H1.out _ _)
        | (go_at_call_of 67 (#[.slice (some ⟨g, 0, none⟩) k c, .agg #[.int .i64 c1, .string c2, .int .i64 c3, .bool c4, .int .i64 c5, .int .i64 c6, .string c7]] : Array Value); exact H2.out _ _)))
      refine wpQuiet_nil ?_
      intro _ hw'
      obtain ⟨⟨dq, osq⟩, hw''⟩ := hw'
      subst hw''
      go_wp2
      go_roundw
      case rel => exact ⟨k + 1, by omega, by go_num, Below.ups BQ.out (below_regrown wq dq osq)⟩
      case measure => simp [intOf]; omega
    · have hkl : k = l.length := by omega
      subst hkl
      go_wp2
      go_ret
      exact ⟨rfl, BW.out⟩
end Go.Proofs.YtodemklghajdeaaGreatDoor.C
