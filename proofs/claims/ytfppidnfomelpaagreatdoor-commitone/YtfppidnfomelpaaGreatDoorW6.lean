/- What schema.Right does, said of every call at columns that may be a table's. -/
import Derived.Test.YtfppidnfomelpaaGreatDoorW5
namespace Go.Proofs.YtfppidnfomelpaaGreatDoor
open Go.RowKit Go.Proofs Go.Lib Go.Joins
open Go.Sort (grow)

theorem name_small {s : ByteArray} (h : nameB s = true) : s.size ≤ 16 := by simp [nameB] at h; exact h.2.1
theorem col_small {s : ByteArray} (h : colB s = true) : s.size ≤ maxLen := by
  have : nameB s = true := by simp [colB] at h; exact h.2
  have := name_small this
  unfold maxLen; omega
theorem rightV_small {k n : Int} {t : ByteArray} (h : rightV k n t = true) : t.size ≤ 40 := by
  unfold rightV at h
  have e0 : t.toList.isEmpty = true → t.size ≤ 40 := fun e => by
    have : t.toList = [] := by simpa using e
    have := toList_nil.1 this
    omega
  split at h
  · exact e0 (by simp at h; simp [h.2])
  split at h
  · exact e0 h
  split at h
  · simp [rtB] at h; exact h.2.1
  · cases h
theorem fit_small {k dk dn : Int} {t : ByteArray} (h : fitB k dk dn t = true) : t.size ≤ maxLen := by
  have : rightV dk dn t = true := by simp [fitB] at h; exact h.1
  have := rightV_small this
  unfold maxLen; omega

theorem none_alike {cb : ByteArray → Bool} {fb : Int → Int → Int → ByteArray → Bool} {l : List Col} {next : Int} (h : RightP cb fb l next) {k : Nat} (hk : k < l.length) : (l.take k).any (alikeB l[k]!) = false := by
  rw [List.any_eq_false]
  intro c hc
  obtain ⟨j, hj, rfl⟩ := List.getElem_of_mem hc
  have hj' : j < k ∧ j < l.length := by simpa [Nat.lt_min] using hj
  rw [List.getElem_take, ← getElem!_pos l j hj'.2]
  have := apart_at h.2.2.2 hj'.2 hk (by omega)
  simp only [alikeB, Bool.or_eq_true, beq_iff_eq, not_or]
  exact ⟨this.1, fun e => this.2 (toList_inj e)⟩

theorem SlC.cells {w : World} {g o : Nat} {l : List Col} (h : SlC w g o l) {k : Nat} (hk : k < l.length) {c1 : Int} {c2 : ByteArray} {c3 : Int} {c4 : Bool} {c5 c6 : Int} {c7 : ByteArray} (e : l[k]! = (c1, c2, c3, c4, c5, c6, c7)) :
    w.cell? ⟨g, o + k * 7, none⟩ = some (.int .i64 c1) ∧ w.cell? ⟨g, o + k * 7 + 1, none⟩ = some (.string c2) ∧ w.cell? ⟨g, o + k * 7 + 2, none⟩ = some (.int .i64 c3) ∧ w.cell? ⟨g, o + k * 7 + 3, none⟩ = some (.bool c4) ∧ w.cell? ⟨g, o + k * 7 + 4, none⟩ = some (.int .i64 c5) ∧ w.cell? ⟨g, o + k * 7 + 5, none⟩ = some (.int .i64 c6) ∧ w.cell? ⟨g, o + k * 7 + 6, none⟩ = some (.string c7) :=
  ⟨h.2 k hk 0 _ (by rw [e]; rfl), h.2 k hk 1 _ (by rw [e]; rfl), h.2 k hk 2 _ (by rw [e]; rfl), h.2 k hk 3 _ (by rw [e]; rfl), h.2 k hk 4 _ (by rw [e]; rfl), h.2 k hk 5 _ (by rw [e]; rfl), h.2 k hk 6 _ (by rw [e]; rfl)⟩

theorem new7 (w : World) (v0 v1 v2 v3 v4 v5 v6 : Value) :
    (w.alloc (.cells #[v0, v1, v2, v3, v4, v5, v6] 67)).cell? ⟨w.heap.size, 0, none⟩ = some v0 ∧ (w.alloc (.cells #[v0, v1, v2, v3, v4, v5, v6] 67)).cell? ⟨w.heap.size, 1, none⟩ = some v1 ∧ (w.alloc (.cells #[v0, v1, v2, v3, v4, v5, v6] 67)).cell? ⟨w.heap.size, 2, none⟩ = some v2 ∧ (w.alloc (.cells #[v0, v1, v2, v3, v4, v5, v6] 67)).cell? ⟨w.heap.size, 3, none⟩ = some v3 ∧ (w.alloc (.cells #[v0, v1, v2, v3, v4, v5, v6] 67)).cell? ⟨w.heap.size, 4, none⟩ = some v4 ∧ (w.alloc (.cells #[v0, v1, v2, v3, v4, v5, v6] 67)).cell? ⟨w.heap.size, 5, none⟩ = some v5 ∧ (w.alloc (.cells #[v0, v1, v2, v3, v4, v5, v6] 67)).cell? ⟨w.heap.size, 6, none⟩ = some v6 := by
  refine ⟨?_, ?_, ?_, ?_, ?_, ?_, ?_⟩ <;> (rw [World.cell?_alloc_at _ _ _ _ rfl]; rfl)

def okAt (l : List Col) (next : Int) (k : Nat) : Bool := mayB l[k]! && (!(decide (next ≤ l[k]!.1)) && !((l.take k).any (alikeB l[k]!)))
def rightB (l : List Col) (next : Int) : Bool := decide (1 ≤ l.length) && (decide (l.length ≤ 8) && (List.range l.length).all (okAt l next))
theorem rightB_iff (l : List Col) (next : Int) : rightB l next = true ↔ RightP colB fitB l next := by
  unfold rightB RightP
  simp only [Bool.and_eq_true, decide_eq_true_eq, List.all_eq_true, List.mem_range, okAt, Bool.not_eq_true', decide_eq_false_iff_not, List.any_eq_false]
  constructor
  · rintro ⟨h1, h2, h3⟩
    refine ⟨h1, h2, ?_, ?_⟩
    · intro c hc
      obtain ⟨k, hk, rfl⟩ := List.getElem_of_mem hc
      have := h3 k hk
      rw [getElem!_pos l k hk] at this
      exact ⟨(mayB_iff _).1 this.1, by have := this.2.1; omega⟩
    · rw [List.pairwise_iff_getElem]
      intro i j hi hj hij
      have := (h3 j hj).2.2 l[i] (List.mem_take_iff_getElem.2 ⟨i, by omega, rfl⟩)
      rw [getElem!_pos l j hj] at this
      simp only [alikeB, Bool.or_eq_true, beq_iff_eq, not_or] at this
      exact ⟨this.1, fun e => this.2 (by rw [e])⟩
  · rintro ⟨h1, h2, h3, h4⟩
    refine ⟨h1, h2, fun k hk => ⟨(mayB_iff _).2 (h3 _ (mem_of_lt hk)).1, by have := (h3 _ (mem_of_lt hk)).2; omega, ?_⟩⟩
    exact List.any_eq_false.1 (none_alike (cb := colB) (fb := fitB) (next := next) ⟨h1, h2, h3, h4⟩ hk)
theorem rightB_no {l : List Col} {next : Int} {k : Nat} (hk : k < l.length) (h : okAt l next k = false) : false = rightB l next := by
  cases hr : rightB l next with
  | false => rfl
  | true =>
    simp only [rightB, Bool.and_eq_true, List.all_eq_true, List.mem_range] at hr
    rw [hr.2.2 k hk] at h; cases h
theorem rightB_yes {l : List Col} {next : Int} (h1 : 1 ≤ l.length) (h8 : l.length ≤ 8) (h : ∀ k, k < l.length → okAt l next k = true) : true = rightB l next := by
  simp only [rightB, decide_eq_true h1, decide_eq_true h8, Bool.true_and]
  exact (List.all_eq_true.2 (fun k hk => h k (List.mem_range.1 hk))).symm
theorem rightB_out {l : List Col} {next : Int} (h : ¬ (1 ≤ l.length ∧ l.length ≤ 8)) : false = rightB l next := by
  cases hr : rightB l next with
  | false => rfl
  | true =>
    simp only [rightB, Bool.and_eq_true, decide_eq_true_eq] at hr
    exact (h ⟨hr.1, hr.2.1⟩).elim
theorem okAt_eq {l : List Col} {next : Int} {k : Nat} {c1 : Int} {c2 : ByteArray} {c3 : Int} {c4 : Bool} {c5 c6 : Int} {c7 : ByteArray} (e : l[k]! = (c1, c2, c3, c4, c5, c6, c7)) : okAt l next k = (mayB (c1, c2, c3, c4, c5, c6, c7) && (!(decide (next ≤ c1)) && !((l.take k).any (alikeB (c1, c2, c3, c4, c5, c6, c7))))) := by
  unfold okAt; rw [e]

set_option maxHeartbeats 1000000 in
theorem right_out (v : Option Addr) (n c : Nat) (next : Int) (w : World) (h : ¬ (1 ≤ n ∧ n ≤ 8)) :
    Calls Tryz.prog 54 #[.slice v n c, .int .i64 next] w fun e w' => e = .returned (.bool false) ∧ Below w.heap.size w w' := by
  by_cases h1 : 1 ≤ n
  · have h8 : 8 < (n : Int) := by omega
    have h1' : 1 ≤ (n : Int) := by omega
    go_enter Tryz.func54, Tryz.ntmps54
    go_wp2
    all_goals (go_ret; exact ⟨rfl, Below.refl _ _⟩)
  · have h0 : n = 0 := by omega
    subst h0
    go_enter Tryz.func54, Tryz.ntmps54
    go_wp2
    all_goals (go_ret; exact ⟨rfl, Below.refl _ _⟩)

set_option maxHeartbeats 8000000 in
set_option maxRecDepth 100000 in
theorem right_in (g o c : Nat) (l : List Col) (next : Int) (w : World) (h : SlC w g o l) (h1 : 1 ≤ l.length) (h8 : l.length ≤ 8) (hcap : l.length ≤ c) (hw : NcB w) (hsz : ∀ x ∈ l, x.2.1.size ≤ maxLen ∧ x.2.2.2.2.2.2.size ≤ maxLen) :
    Calls Tryz.prog 54 #[.slice (some ⟨g, o, none⟩) l.length c, .int .i64 next] w fun e w' => e = .returned (.bool (rightB l next)) ∧ Below w.heap.size w w' := by
  have hl1 : 1 ≤ (l.length : Int) := by omega
  have hl8 : (l.length : Int) ≤ 8 := by omega
  have HR : Hid (rightB l next = rightB l next) := rfl
  have HZ : Hid (∀ x ∈ l, x.2.1.size ≤ maxLen ∧ x.2.2.2.2.2.2.size ≤ maxLen) := hsz
  have HS : Hid (SlC w g o l) := h
  have HN : Hid (NcB w) := hw
  clear hsz h hw
  have H1 := mkH h1
  have H8 := mkH h8
  go_enter Tryz.func54, Tryz.ntmps54
  go_wp2
  go_loopw [17] (fun i wr => ∃ k : Nat, k ≤ l.length ∧ i = .int .i64 k ∧ Aside (Below w.heap.size w wr) ∧ Aside (∀ j, j < k → okAt l next j = true))
    (fun i _ => l.length - (intOf i).toNat)
  case atStart => exact ⟨0, Nat.zero_le _, rfl, Below.refl _ _, (show Aside _ from fun j hj => absurd hj (Nat.not_lt_zero _))⟩
  case round =>
    obtain ⟨k, hk, rfl, BW, OK⟩ := hrel
    by_cases hlt : k < l.length
    · have hltz : (k : Int) < (l.length : Int) := by omega
      have hkc : k ≤ c := by omega
      have ex : ∃ x, l[k]! = x := ⟨_, rfl⟩
      obtain ⟨⟨c1, c2, c3, c4, c5, c6, c7⟩, hx⟩ := ex
      obtain ⟨q0, q1, q2, q3, q4, q5, q6⟩ := (HS.out.below BW.out).cells hlt hx
      have hz := HZ.out _ (mem_of_lt hlt)
      rw [hx] at hz
      have HM : Hid (∀ W, Below w.heap.size w W → Calls Tryz.prog 87 #[.agg #[.int .i64 c1, .string c2, .int .i64 c3, .bool c4, .int .i64 c5, .int .i64 c6, .string c7]] W fun e w' => e = .returned (.bool (mayB (c1, c2, c3, c4, c5, c6, c7))) ∧ Below W.heap.size W w') := fun W hb =>
        mayBe_any c1 c2 c3 c4 c5 c6 c7 W hz.1 hz.2 (HN.out.below hb)
      have HA : Hid (∀ W, Below w.heap.size w W → Calls Tryz.prog 88 #[.slice (some ⟨g, o, none⟩) k c, .agg #[.int .i64 c1, .string c2, .int .i64 c3, .bool c4, .int .i64 c5, .int .i64 c6, .string c7]] W fun e w' => e = .returned (.bool ((l.take k).any (alikeB (c1, c2, c3, c4, c5, c6, c7)))) ∧ Below W.heap.size W w') := fun W hb => by
        have := alike_any g o c (l.take k) (c1, c2, c3, c4, c5, c6, c7) W ((HS.out.below hb).take k) (by simp; omega)
        rwa [show (l.take k).length = k by simp; omega] at this
      have HO := mkH (okAt_eq (next := next) hx)
      clear hz hx
      generalize mayB (c1, c2, c3, c4, c5, c6, c7) = b1 at HM HO
      generalize (l.take k).any (alikeB (c1, c2, c3, c4, c5, c6, c7)) = b3 at HA HO
      go_wp2_with fail
      have BQ : Hid (Below w.heap.size w (wr.alloc (.cells #[.int .i64 c1, .string c2, .int .i64 c3, .bool c4, .int .i64 c5, .int .i64 c6, .string c7] 67))) := BW.out.alloc BW.out.size _
      obtain ⟨e0, e1, e2, e3, e4, e5, e6⟩ := new7 wr (.int .i64 c1) (.string c2) (.int .i64 c3) (.bool c4) (.int .i64 c5) (.int .i64 c6) (.string c7)
      clear q0 q1 q2 q3 q4 q5 q6
      generalize wr.alloc (.cells #[.int .i64 c1, .string c2, .int .i64 c3, .bool c4, .int .i64 c5, .int .i64 c6, .string c7] 67) = wq at *
      generalize wr.heap.size = nb at *
      replace e0 := cell_regrown e0; replace e1 := cell_regrown e1; replace e2 := cell_regrown e2; replace e3 := cell_regrown e3; replace e4 := cell_regrown e4; replace e5 := cell_regrown e5; replace e6 := cell_regrown e6
      have H1 : Hid (∀ d os, Calls Tryz.prog 87 #[.agg #[.int .i64 c1, .string c2, .int .i64 c3, .bool c4, .int .i64 c5, .int .i64 c6, .string c7]] (grow (redrawn wq d) os) fun e w'' => e = .returned (.bool b1) ∧ ∃ p : Regrown, w'' = grow (redrawn wq p.d) p.os) := fun d os => Calls.regrown_of (HM.out _ (Below.ups BQ.out (below_regrown wq d os)))
      have H2 : Hid (∀ d os, Calls Tryz.prog 88 #[.slice (some ⟨g, o, none⟩) k c, .agg #[.int .i64 c1, .string c2, .int .i64 c3, .bool c4, .int .i64 c5, .int .i64 c6, .string c7]] (grow (redrawn wq d) os) fun e w'' => e = .returned (.bool b3) ∧ ∃ p : Regrown, w'' = grow (redrawn wq p.d) p.os) := fun d os => Calls.regrown_of (HA.out _ (Below.ups BQ.out (below_regrown wq d os)))
      cases b1 <;> cases hd : decide (next ≤ c1) <;> cases b3
      all_goals
        refine wp_region_quiet_below (by kernel_rfl) (by kernel_rfl) ?_
        repeat (go_big_quiet_step (first
          | (go_at_call_of 87 (#[.agg #[.int .i64 c1, .string c2, .int .i64 c3, .bool c4, .int .i64 c5, .int .i64 c6, .string c7]] : Array Value); exact H1.out _ _)
          | (go_at_call_of 88 (#[.slice (some ⟨g, o, none⟩) k c, .agg #[.int .i64 c1, .string c2, .int .i64 c3, .bool c4, .int .i64 c5, .int .i64 c6, .string c7]] : Array Value); exact H2.out _ _)))
        refine wpQuiet_nil ?_
        intro _ hw'
        obtain ⟨⟨dq, osq⟩, hw''⟩ := hw'
        subst hw''
        go_wp2
      all_goals first
        | (go_ret; exact ⟨ret_bool (rightB_no hlt (by rw [HO.out, hd]; rfl)), Below.ups BQ.out (below_regrown wq dq osq)⟩)
        | skip
      go_roundw
      case rel =>
        refine ⟨k + 1, by omega, by go_num, Below.ups BQ.out (below_regrown wq dq osq), (show Aside _ from fun j hj => ?_)⟩
        by_cases e : j = k
        · subst e; rw [HO.out, hd]; rfl
        · exact OK.out j (by omega)
      case measure => simp [intOf]; omega
    · have hkl : k = l.length := by omega
      subst hkl
      go_wp2
      go_ret
      exact ⟨ret_bool (rightB_yes H1.out H8.out OK.out), BW.out⟩
end Go.Proofs.YtfppidnfomelpaaGreatDoor
