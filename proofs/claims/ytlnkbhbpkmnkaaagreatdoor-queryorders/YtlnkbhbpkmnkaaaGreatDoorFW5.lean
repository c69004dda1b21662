/- What (File).Read does, said of every call at a group that is there, by columns that the file has. -/
import Derived.Test.YtlnkbhbpkmnkaaaGreatDoorCW3
import Derived.Laws.StructEq
import Derived.Laws.OwnMore
import Derived.OwnWalk
import Derived.Lib.SmallJoins
import Derived.Lib.QuietBelow
import Derived.Test.YtlnkbhbpkmnkaaaGreatDoorCW1
import Derived.Deep.RegionLaw
namespace Go.Proofs.YtlnkbhbpkmnkaaaGreatDoor.C
open Go.RowKit Go.Proofs Go.Lib Go.Joins

/-- Columns l lie from cell o of block g on. -/
def SlC (W : World) (g o : Nat) (l : List Col) : Prop := g < W.heap.size ∧ ∀ j, j < l.length → ∀ i v, (encC l[j]!)[i]? = some v → W.cell? ⟨g, o + j * 7 + i, none⟩ = some v
theorem SlC.below {w W : World} {g o : Nat} {l : List Col} (h : SlC w g o l) (hb : Below w.heap.size w W) : SlC W g o l :=
  ⟨Nat.lt_of_lt_of_le h.1 hb.size, fun j hj i v hi => (hb.cell (p := ⟨g, o + j * 7 + i, none⟩) h.1).trans (h.2 j hj i v hi)⟩
theorem SlC.take {w : World} {g o : Nat} {l : List Col} (h : SlC w g o l) (n : Nat) : SlC w g o (l.take n) :=
  ⟨h.1, fun j hj i v hi => by
    have hj' : j < n ∧ j < l.length := by simpa [Nat.lt_min] using hj
    rw [Lib.getElem!_take _ _ _ hj'.1] at hi
    exact h.2 j hj'.2 i v hi⟩
theorem SlC.drop {w : World} {g o : Nat} {l : List Col} (h : SlC w g o l) (n : Nat) : SlC w g (o + n * 7) (l.drop n) :=
  ⟨h.1, fun j hj i v hi => by
    have hj' : n + j < l.length := by simp at hj; omega
    have e : (l.drop n)[j]! = l[n + j]! := by simp [List.getElem!_eq_getElem?_getD]
    rw [e] at hi
    have := h.2 (n + j) hj' i v hi
    rwa [show o + (n + j) * 7 + i = o + n * 7 + j * 7 + i by omega] at this⟩
theorem SlC.flat {w : World} {g o : Nat} {l : List Col} (h : SlC w g o l) : ∀ j u, (cellsC l)[j]? = some u → w.cell? ⟨g, o + j, none⟩ = some u := by
  intro j u hj
  have hl : j < l.length * 7 := by
    rcases Nat.lt_or_ge j (l.length * 7) with h' | h'
    · exact h'
    · rw [List.getElem?_eq_none (by rw [cellsC_len]; exact h')] at hj; cases hj
  have e : j = j / 7 * 7 + j % 7 := by omega
  rw [e, cellsC_at l (j / 7) (j % 7) (by omega) (by omega)] at hj
  have := h.2 (j / 7) (by omega) (j % 7) u hj
  rwa [show o + j / 7 * 7 + j % 7 = o + j by omega] at this
theorem SlC.of_own {w : World} {base g n cap : Nat} {l : List Col} (h : w.ownsRow base 31 7 (.slice (some ⟨g, 0, none⟩) n cap) n (cellsC l)) (hn : n = l.length) : SlC w g 0 l := by
  refine ⟨(h.lt g rfl).2, fun j hj i v hi => ?_⟩
  have hi7 : i < 7 := by
    rcases Nat.lt_or_ge i 7 with h' | h'
    · exact h'
    · rw [List.getElem?_eq_none (by rw [encC_len]; exact h')] at hi; cases hi
  have := h.cellAt (j * 7 + i) (by subst hn; omega)
  rw [cellsC_at l j i hj hi7, hi] at this
  rw [show 0 + j * 7 + i = j * 7 + i by omega]
  exact this

theorem findF_any (nm : ByteArray) (B : Nat) (w : World) (hB : B < w.heap.size) (hcell : w.cell? ⟨B, 0, none⟩ = some (.string nm)) :
    PredBelow Tryz.prog 111 #[.pointer (some ⟨B, 0, none⟩)] (fun x : Col => .agg (encC x).toArray) (fun c => c.2.1.toList == nm.toList) w := fun W x hb => by
  have hc : W.cell? ⟨B, 0, none⟩ = some (.string nm) := (hb.cell (p := ⟨B, 0, none⟩) hB).trans hcell
  have hBW : B < W.heap.size := Nat.lt_of_lt_of_le hB hb.size
  have hne : B ≠ W.heap.size := by omega
  obtain ⟨c1, c2, c3, c4, c5, c6, c7⟩ := x
  show Calls Tryz.prog 111 #[.agg #[.int .i64 c1, .string c2, .int .i64 c3, .bool c4, .int .i64 c5, .int .i64 c6, .string c7], .pointer (some ⟨B, 0, none⟩)] W _
  go_enter Tryz.func111, Tryz.ntmps111
  go_wp2
  all_goals (go_ret; exact ⟨rfl, hb.alloc hb.size _⟩)

set_option maxHeartbeats 1000000 in
set_option maxRecDepth 100000 in
theorem find_any (g o c : Nat) (l : List Col) (nm : ByteArray) (w : World) (h : SlC w g o l) (hl : l.length ≤ 8) :
    Calls Tryz.prog 74 #[.slice (some ⟨g, o, none⟩) l.length c, .string nm] w fun e w' => e = .returned (.int .i64 (findC l nm)) ∧ Below w.heap.size w w' := by
  have eg : ∀ args w, (callFunc 111 args).run Tryz.prog w = .ok (.enter 111 args) w := enters_of Tryz.func111 (by kernel_rfl) rfl
  have h1 : SlC (w.alloc (.cells #[.string nm] 9)) g o l := h.below ((Below.refl _ _).alloc (Nat.le_refl _) _)
  have hcon := AnyQ.slices_IndexFunc Tryz.layIdx 7 Tryz.isAgg31 Tryz.sizeOf31 encC encC_len (fun c => c.2.1.toList == nm.toList) 111 #[.pointer (some ⟨w.heap.size, 0, none⟩)] eg g o l.length c l (w.alloc (.cells #[.string nm] 9))
    (findF_any nm w.heap.size _ (by simp) (by simp)) (Nat.le_refl _) (by omega) h1.1 h1.2
  rw [List.take_length] at hcon
  change Calls Tryz.prog 52 _ _ (fun e w' => e = .returned (.int .i64 (findC l nm)) ∧ _) at hcon
  clear h h1
  generalize findC l nm = r at hcon ⊢
  go_enter Tryz.func74, Tryz.ntmps74
  go_wp2_with (go_at_call 52; refine hcon.mono ?_; rintro e w' ⟨rfl, hb'⟩)
  go_ret
  exact ⟨rfl, b1c hb'⟩

def zeroC : Value := .agg #[.int .i64 0, .string ⟨#[]⟩, .int .i64 0, .bool false, .int .i64 0, .int .i64 0, .string ⟨#[]⟩]
theorem info54 : (Tryz.prog.info? 31).map (fun i => (i.zero, i.size, i.bytes)) = some (some zeroC, 7, 72) := by kernel_rfl

theorem clone_any (g o c : Nat) (l : List Col) (w : World) (h : SlC w g o l) (hl : l.length ≤ 8) :
    Calls Tryz.prog 49 #[.slice (some ⟨g, o, none⟩) l.length c] w fun e w' => ∃ g' c', e = .returned (.slice (some ⟨g', 0, none⟩) l.length c') ∧ w'.ownsRow w.heap.size 31 7 (.slice (some ⟨g', 0, none⟩) l.length c') l.length (cellsC l) ∧ Below w.heap.size w w' := by
  obtain ⟨i0, hi0, hz0, hz1, hz2⟩ := info_parts info54
  refine (AnyE.slices_Clone Tryz.layClo i0 zeroC 7 72 hi0 hz0 hz1 hz2 rfl (by decide) Tryz.sizeOf31 g o l.length c (cellsC l) w (cellsC_len l) (by unfold maxLen; omega) (by omega) h.flat (cellsC_one l)).mono ?_
  rintro e w' ⟨v', rfl, hown, hne, hb⟩
  rcases ownsRow_forms hown with ⟨e1, _⟩ | ⟨g', c', e1⟩
  · exact (hne e1).elim
  · subst e1
    exact ⟨g', c', rfl, hown, hb⟩

end Go.Proofs.YtlnkbhbpkmnkaaaGreatDoor.C
namespace Go.Proofs.YtlnkbhbpkmnkaaaGreatDoor.C
open Go.RowKit Go.Proofs Go.Lib Go.Joins
open Go.Sort (grow)

def alikeB (x c : Col) : Bool := c.1 == x.1 || c.2.1.toList == x.2.1.toList

theorem alikeF_any (x : Col) (B : Nat) (w : World) (hB : B < w.heap.size) (h0 : w.cell? ⟨B, 0, none⟩ = some (.int .i64 x.1)) (h1 : w.cell? ⟨B, 1, none⟩ = some (.string x.2.1)) :
    PredBelow Tryz.prog 118 #[.pointer (some ⟨B, 0, none⟩)] (fun x : Col => .agg (encC x).toArray) (alikeB x) w := fun W c hb => by
  have h0' : W.cell? ⟨B, 0, none⟩ = some (.int .i64 x.1) := (hb.cell (p := ⟨B, 0, none⟩) hB).trans h0
  have h1' : W.cell? ⟨B, 1, none⟩ = some (.string x.2.1) := (hb.cell (p := ⟨B, 1, none⟩) hB).trans h1
  have hBW : B < W.heap.size := Nat.lt_of_lt_of_le hB hb.size
  have hne : B ≠ W.heap.size := by omega
  clear h0 h1
  obtain ⟨c1, c2, c3, c4, c5, c6, c7⟩ := c
  have HR : Hid (alikeB x (c1, c2, c3, c4, c5, c6, c7) = (c1 == x.1 || c2.toList == x.2.1.toList)) := rfl
  generalize alikeB x (c1, c2, c3, c4, c5, c6, c7) = r at *
  generalize x.1 = x1 at *
  generalize x.2.1 = x2 at *
  show Calls Tryz.prog 118 #[.agg #[.int .i64 c1, .string c2, .int .i64 c3, .bool c4, .int .i64 c5, .int .i64 c6, .string c7], .pointer (some ⟨B, 0, none⟩)] W _
  by_cases hq : c1 = x1
  · subst hq
    go_enter Tryz.func118, Tryz.ntmps118
    go_wp2
    all_goals (go_ret; exact ⟨ret_bool (by rw [HR.out]; simp), hb.alloc hb.size _⟩)
  · have hq' : (c1 == x1) = false := by simpa using hq
    go_enter Tryz.func118, Tryz.ntmps118
    go_wp2
    all_goals (go_ret; exact ⟨ret_bool (by rw [HR.out]; simp [hq']), hb.alloc hb.size _⟩)

set_option maxHeartbeats 1000000 in
theorem alike_any (g o c : Nat) (l : List Col) (x : Col) (w : World) (h : SlC w g o l) (hl : l.length ≤ 8) :
    Calls Tryz.prog 85 #[.slice (some ⟨g, o, none⟩) l.length c, .agg (encC x).toArray] w fun e w' => e = .returned (.bool (l.any (alikeB x))) ∧ Below w.heap.size w w' := by
  have eg : ∀ args w, (callFunc 118 args).run Tryz.prog w = .ok (.enter 118 args) w := enters_of Tryz.func118 (by kernel_rfl) rfl
  have h1 : SlC (w.alloc (.cells (encC x).toArray 31)) g o l := h.below ((Below.refl _ _).alloc (Nat.le_refl _) _)
  have hcon := AnyQ.slices_ContainsFunc Tryz.layCon 7 Tryz.isAgg31 Tryz.sizeOf31 encC encC_len (alikeB x) 118 #[.pointer (some ⟨w.heap.size, 0, none⟩)] eg g o l.length c l (w.alloc (.cells (encC x).toArray 31))
    (alikeF_any x w.heap.size _ (by simp) (by rw [World.cell?_alloc_at _ _ _ _ rfl]; rfl) (by rw [World.cell?_alloc_at _ _ _ _ rfl]; rfl)) (Nat.le_refl _) (by omega) h1.1 h1.2
  rw [List.take_length] at hcon
  change Calls Tryz.prog 21 _ _ (fun e w' => e = .returned (.bool (l.any (alikeB x))) ∧ _) at hcon
  clear h h1
  generalize l.any (alikeB x) = r at hcon ⊢
  obtain ⟨c1, c2, c3, c4, c5, c6, c7⟩ := x
  simp only [encC, List.toArray] at hcon ⊢
  go_enter Tryz.func85, Tryz.ntmps85
  go_wp2_with (go_at_call 21; refine hcon.mono ?_; rintro e w' ⟨rfl, hb'⟩)
  go_ret
  exact ⟨rfl, b1c hb'⟩
end Go.Proofs.YtlnkbhbpkmnkaaaGreatDoor.C
namespace Go.Proofs.YtlnkbhbpkmnkaaaGreatDoor.C
open Go.RowKit Go.Proofs Go.Lib Go.Joins
open Go.Sort (grow)

theorem name_small {s : ByteArray} (h : nameB s = true) : s.size ≤ 16 := by simp [nameB] at h; exact h.2.1
theorem col_small {s : ByteArray} (h : colB s = true) : s.size ≤ maxLen := by
  have : nameB s = true := by simp [colB] at h; exact h.2
  have := name_small this
  unfold maxLen; omega
theorem rightV_small {k n : Int} {t : ByteArray} (h : rightV k n t = true) : t.size ≤ 40 := by
  unfold rightV at h
  have e0 : t.toList.isEmpty = true → t.size ≤ 40 := fun e => by
    have : t.toList = [] := by simpa using e
    have := toList_nil.1 this
    omega
  split at h
  · exact e0 (by simp at h; simp [h.2])
  split at h
  · exact e0 h
  split at h
  · simp [rtB] at h; exact h.2.1
  · cases h
theorem fit_small {k dk dn : Int} {t : ByteArray} (h : fitB k dk dn t = true) : t.size ≤ maxLen := by
  have : rightV dk dn t = true := by simp [fitB] at h; exact h.1
  have := rightV_small this
  unfold maxLen; omega

theorem none_alike {cb : ByteArray → Bool} {fb : Int → Int → Int → ByteArray → Bool} {l : List Col} {next : Int} (h : RightP cb fb l next) {k : Nat} (hk : k < l.length) : (l.take k).any (alikeB l[k]!) = false := by
  rw [List.any_eq_false]
  intro c hc
  obtain ⟨j, hj, rfl⟩ := List.getElem_of_mem hc
  have hj' : j < k ∧ j < l.length := by simpa [Nat.lt_min] using hj
  rw [List.getElem_take, ← getElem!_pos l j hj'.2]
  have := apart_at h.2.2.2 hj'.2 hk (by omega)
  simp only [alikeB, Bool.or_eq_true, beq_iff_eq, not_or]
  exact ⟨this.1, fun e => this.2 (toList_inj e)⟩

theorem SlC.cells {w : World} {g o : Nat} {l : List Col} (h : SlC w g o l) {k : Nat} (hk : k < l.length) {c1 : Int} {c2 : ByteArray} {c3 : Int} {c4 : Bool} {c5 c6 : Int} {c7 : ByteArray} (e : l[k]! = (c1, c2, c3, c4, c5, c6, c7)) :
    w.cell? ⟨g, o + k * 7, none⟩ = some (.int .i64 c1) ∧ w.cell? ⟨g, o + k * 7 + 1, none⟩ = some (.string c2) ∧ w.cell? ⟨g, o + k * 7 + 2, none⟩ = some (.int .i64 c3) ∧ w.cell? ⟨g, o + k * 7 + 3, none⟩ = some (.bool c4) ∧ w.cell? ⟨g, o + k * 7 + 4, none⟩ = some (.int .i64 c5) ∧ w.cell? ⟨g, o + k * 7 + 5, none⟩ = some (.int .i64 c6) ∧ w.cell? ⟨g, o + k * 7 + 6, none⟩ = some (.string c7) :=
  ⟨h.2 k hk 0 _ (by rw [e]; rfl), h.2 k hk 1 _ (by rw [e]; rfl), h.2 k hk 2 _ (by rw [e]; rfl), h.2 k hk 3 _ (by rw [e]; rfl), h.2 k hk 4 _ (by rw [e]; rfl), h.2 k hk 5 _ (by rw [e]; rfl), h.2 k hk 6 _ (by rw [e]; rfl)⟩

theorem new7 (w : World) (v0 v1 v2 v3 v4 v5 v6 : Value) :
    (w.alloc (.cells #[v0, v1, v2, v3, v4, v5, v6] 31)).cell? ⟨w.heap.size, 0, none⟩ = some v0 ∧ (w.alloc (.cells #[v0, v1, v2, v3, v4, v5, v6] 31)).cell? ⟨w.heap.size, 1, none⟩ = some v1 ∧ (w.alloc (.cells #[v0, v1, v2, v3, v4, v5, v6] 31)).cell? ⟨w.heap.size, 2, none⟩ = some v2 ∧ (w.alloc (.cells #[v0, v1, v2, v3, v4, v5, v6] 31)).cell? ⟨w.heap.size, 3, none⟩ = some v3 ∧ (w.alloc (.cells #[v0, v1, v2, v3, v4, v5, v6] 31)).cell? ⟨w.heap.size, 4, none⟩ = some v4 ∧ (w.alloc (.cells #[v0, v1, v2, v3, v4, v5, v6] 31)).cell? ⟨w.heap.size, 5, none⟩ = some v5 ∧ (w.alloc (.cells #[v0, v1, v2, v3, v4, v5, v6] 31)).cell? ⟨w.heap.size, 6, none⟩ = some v6 := by
  refine ⟨?_, ?_, ?_, ?_, ?_, ?_, ?_⟩ <;> (rw [World.cell?_alloc_at _ _ _ _ rfl]; rfl)

set_option maxHeartbeats 4000000 in
set_option maxRecDepth 100000 in
theorem right_any (g c : Nat) (l : List Col) (next : Int) (w : World) (h : SlC w g 0 l) (hr : RightP colB fitB l next) (hcap : l.length ≤ c) (hw : NcB w) :
    Calls Tryz.prog 46 #[.slice (some ⟨g, 0, none⟩) l.length c, .int .i64 next] w fun e w' => e = .returned (.bool true) ∧ Below w.heap.size w w' := by
  have hl1 : 1 ≤ (l.length : Int) := by have := hr.1; omega
  have hl8 : (l.length : Int) ≤ 8 := by have := hr.2.1; omega
  have hl8' : l.length ≤ 8 := hr.2.1
  have HR : Hid (RightP colB fitB l next) := hr
  have HS : Hid (SlC w g 0 l) := h
  have HN : Hid (NcB w) := hw
  clear hr h hw
  go_enter Tryz.func46, Tryz.ntmps46
  go_wp2
  go_loopw [17] (fun i wr => ∃ k : Nat, k ≤ l.length ∧ i = .int .i64 k ∧ Aside (Below w.heap.size w wr))
    (fun i _ => l.length - (intOf i).toNat)
  case atStart => exact ⟨0, Nat.zero_le _, rfl, Below.refl _ _⟩
  case round =>
    obtain ⟨k, hk, rfl, BW⟩ := hrel
    by_cases hlt : k < l.length
    · have hltz : (k : Int) < (l.length : Int) := by omega
      have hkc : k ≤ c := by omega
      have ex : ∃ x, l[k]! = x := ⟨_, rfl⟩
      obtain ⟨⟨c1, c2, c3, c4, c5, c6, c7⟩, hx⟩ := ex
      obtain ⟨q0, q1, q2, q3, q4, q5, q6⟩ := (HS.out.below BW.out).cells hlt hx
      simp only [Nat.zero_add] at q0 q1 q2 q3 q4 q5 q6
      obtain ⟨hmay, hid⟩ := HR.out.2.2.1 _ (mem_of_lt hlt)
      rw [hx] at hmay hid
      have HD : Hid (decide (next ≤ c1) = false) := by simp only at hid; exact decide_eq_false (by omega)
      have HM : Hid (∀ W, Below w.heap.size w W → Calls Tryz.prog 84 #[.agg #[.int .i64 c1, .string c2, .int .i64 c3, .bool c4, .int .i64 c5, .int .i64 c6, .string c7]] W fun e w' => e = .returned (.bool true) ∧ Below W.heap.size W w') := fun W hb => by
        have := mayBe_any c1 c2 c3 c4 c5 c6 c7 W (col_small hmay.2.2.1) (fit_small hmay.2.2.2) (HN.out.below hb)
        rwa [(mayB_iff _).2 hmay] at this
      have HA : Hid (∀ W, Below w.heap.size w W → Calls Tryz.prog 85 #[.slice (some ⟨g, 0, none⟩) k c, .agg #[.int .i64 c1, .string c2, .int .i64 c3, .bool c4, .int .i64 c5, .int .i64 c6, .string c7]] W fun e w' => e = .returned (.bool false) ∧ Below W.heap.size W w') := fun W hb => by
        have := alike_any g 0 c (l.take k) (c1, c2, c3, c4, c5, c6, c7) W ((HS.out.below hb).take k) (by simp; omega)
        rw [← hx, none_alike HR.out hlt, hx] at this
        rwa [show (l.take k).length = k by simp; omega] at this
      clear hmay hid
      go_wp2_with fail
      have BQ : Hid (Below w.heap.size w (wr.alloc (.cells #[.int .i64 c1, .string c2, .int .i64 c3, .bool c4, .int .i64 c5, .int .i64 c6, .string c7] 31))) := BW.out.alloc BW.out.size _
      obtain ⟨e0, e1, e2, e3, e4, e5, e6⟩ := new7 wr (.int .i64 c1) (.string c2) (.int .i64 c3) (.bool c4) (.int .i64 c5) (.int .i64 c6) (.string c7)
      clear q0 q1 q2 q3 q4 q5 q6
      generalize wr.alloc (.cells #[.int .i64 c1, .string c2, .int .i64 c3, .bool c4, .int .i64 c5, .int .i64 c6, .string c7] 31) = wq at *
      generalize wr.heap.size = nb at *
      replace e0 := cell_regrown e0; replace e1 := cell_regrown e1; replace e2 := cell_regrown e2; replace e3 := cell_regrown e3; replace e4 := cell_regrown e4; replace e5 := cell_regrown e5; replace e6 := cell_regrown e6
      have H1 : Hid (∀ d os, Calls Tryz.prog 84 #[.agg #[.int .i64 c1, .string c2, .int .i64 c3, .bool c4, .int .i64 c5, .int .i64 c6, .string c7]] (grow (redrawn wq d) os) fun e w'' => e = .returned (.bool true) ∧ ∃ p : Regrown, w'' = grow (redrawn wq p.d) p.os) := fun d os => Calls.regrown_of (HM.out _ (Below.ups BQ.out (below_regrown wq d os)))
      have H2 : Hid (∀ d os, Calls Tryz.prog 85 #[.slice (some ⟨g, 0, none⟩) k c, .agg #[.int .i64 c1, .string c2, .int .i64 c3, .bool c4, .int .i64 c5, .int .i64 c6, .string c7]] (grow (redrawn wq d) os) fun e w'' => e = .returned (.bool false) ∧ ∃ p : Regrown, w'' = grow (redrawn wq p.d) p.os) := fun d os => Calls.regrown_of (HA.out _ (Below.ups BQ.out (below_regrown wq d os)))
      have hd := HD.out
      refine wp_region_quiet_below (by kernel_rfl) (by kernel_rfl) ?_
      repeat (go_big_quiet_step (first
        | (go_at_call_of 84 (#[.agg #[.int .i64 c1, .string c2, .int .i64 c3, .bool c4, .int .i64 c5, .int .i64 c6, .string c7]] : Array Value); exact H1.out _ _)
        | (go_at_call_of 85 (#[.slice (some ⟨g, 0, none⟩) k c, .agg #[.int .i64 c1, .string c2, .int .i64 c3, .bool c4, .int .i64 c5, .int .i64 c6, .string c7]] : Array Value); exact H2.out _ _)))
      refine wpQuiet_nil ?_
      intro _ hw'
      obtain ⟨⟨dq, osq⟩, hw''⟩ := hw'
      subst hw''
      go_wp2
      go_roundw
      case rel => exact ⟨k + 1, by omega, by go_num, Below.ups BQ.out (below_regrown wq dq osq)⟩
      case measure => simp [intOf]; omega
    · have hkl : k = l.length := by omega
      subst hkl
      go_wp2
      go_ret
      exact ⟨rfl, BW.out⟩
end Go.Proofs.YtlnkbhbpkmnkaaaGreatDoor.C
namespace Go.Proofs.YtlnkbhbpkmnkaaaGreatDoor.F
open Go

abbrev V := Int × Int × ByteArray
abbrev Col := C.Col
/-- A group: how many rows, what is known of each column, each column's bytes. -/
abbrev Grp := Nat × List S.St × List (List UInt8)
abbrev Fil := List Col × List Grp
def zV : V := (0, 0, ⟨#[]⟩)
def zC : Col := (0, ⟨#[]⟩, 0, false, 0, 0, ⟨#[]⟩)
def dfl (c : Col) : V := (c.2.2.2.2.1, c.2.2.2.2.2.1, c.2.2.2.2.2.2)
def kd (c : Col) : Int := c.2.2.1
def ids (l : List Col) : List Int := l.map (·.1)
def colOf (rows : List (List V)) (i : Nat) : List V := rows.map fun r => r[i]?.getD zV
def groupOf (l : List Col) (part : List (List V)) : Grp :=
  (part.length, (List.range l.length).map (fun i => S.stOf (colOf part i)), (List.range l.length).map fun i => E.encB (kd (l[i]?.getD zC)) (colOf part i))
def part6 (rows : List (List V)) (k : Nat) : List (List V) := (rows.drop (6 * k)).take 6
def nGr (n : Nat) : Nat := (n + 5) / 6
def parts (rows : List (List V)) : List (List (List V)) := (List.range (nGr rows.length)).map (part6 rows)
def groupsOf (l : List Col) (rows : List (List V)) : List Grp := (parts rows).map (groupOf l)
/-- Which columns may be a file's. -/
def okAt (l : List Col) (next : Int) (k : Nat) : Bool := C.mayB (l[k]?.getD zC) && (decide ((l[k]?.getD zC).1 < next) && !(l.take k).any (C.alikeB (l[k]?.getD zC)))
def rightB (l : List Col) (next : Int) : Bool := decide (1 ≤ l.length ∧ l.length ≤ 8) && (List.range l.length).all (okAt l next)
def next40 : Int := 1099511627777
/-- A row's error: none, one that may not be, one that must be something. -/
def fitV (c : Col) (v : V) : Bool := C.fitB (kd c) v.1 v.2.1 v.2.2
def rowGo : List Col → List V → Int
  | c :: l, v :: row => if fitV c v = false then 1 else if (c.2.2.2.1 && v.1 == 0) = true then 7 else rowGo l row
  | _, _ => 0
def rowE (l : List Col) (row : List V) : Int := if row.length = l.length then rowGo l row else 1
def makeOk (l : List Col) (rows : List (List V)) : Bool := rightB l next40 && (decide (1 ≤ rows.length ∧ rows.length ≤ 60) && rows.all fun r => rowE l r == 0)
def makeR (l : List Col) (rows : List (List V)) : Option Fil := if makeOk l rows then some (l, groupsOf l rows) else none
/-- Where the column of a number stands; how many there are, if there is none. -/
def pos (cols : List Col) (id : Int) : Nat := (ids cols).idxOf id
def valsOf (cols : List Col) (g : Grp) (c : Col) : List V :=
  if pos cols c.1 < cols.length then (E.decR (kd (cols[pos cols c.1]?.getD zC)) (g.2.2[pos cols c.1]?.getD [])).getD [] else List.replicate g.1 (dfl c)
def wholeG (cols : List Col) (g : Grp) : Bool := decide (g.2.1.length = cols.length ∧ g.2.2.length = cols.length ∧ 1 ≤ g.1 ∧ g.1 ≤ 6)
def rowsBy (cols : List Col) (g : Grp) (now : List Col) : List (List V) := (List.range g.1).map fun j => now.map fun c => (valsOf cols g c)[j]?.getD zV
def readG (cols : List Col) (g : Grp) (now : List Col) : Option (List (List V)) :=
  if wholeG cols g && now.all (fun c => (valsOf cols g c).length == g.1) then some (rowsBy cols g now) else none
def readF (f : Fil) (k : Int) (now : List Col) : Option (List (List V)) := if k < 0 then none else match f.2[k.toNat]? with
  | none => none
  | some g => readG f.1 g now
def allGo (cols now : List Col) : List (List V) → List Grp → Option (List (List V))
  | acc, [] => some acc
  | acc, g :: gs => match readG cols g now with
    | none => none
    | some r => allGo cols now (acc ++ r) gs
def cname (i : Nat) : ByteArray := ⟨#[99, (48 + i).toUInt8]⟩
def plainC (l : List Col) : List Col := (List.range l.length).map fun i => ((l[i]?.getD zC).1, cname i, kd (l[i]?.getD zC), false, 0, 0, ⟨#[]⟩)
open Classical in
noncomputable def madeB (f : Fil) : Bool := rightB (plainC f.1) next40 && match allGo f.1 (plainC f.1) [] f.2 with
  | none => false
  | some rows => match makeR (plainC f.1) rows with
    | none => false
    | some f' => decide (f.2 = f'.2)
/-- How a file is written. -/
def colBytes (c : Col) : List UInt8 := Lib.uvarint c.1.toNat ++ Lib.uvarint (kd c).toNat
def cellBytes (s : List UInt8) : List UInt8 := Lib.uvarint s.length ++ s
def groupBytes (g : Grp) : List UInt8 := Lib.uvarint g.1 ++ g.2.2.flatMap cellBytes
def writeB (f : Fil) : List UInt8 := Lib.uvarint f.1.length ++ (f.1.flatMap colBytes ++ (Lib.uvarint f.2.length ++ f.2.flatMap groupBytes))
noncomputable def writeR (f : Fil) : Option (List UInt8) := if madeB f then some (writeB f) else none
/-- How it is read. -/
def bareC (id kind : Int) : Col := (id, ⟨#[]⟩, kind, false, 0, 0, ⟨#[]⟩)
def rdCols : Nat → E.St → List Col × E.St
  | 0, s => ([], s)
  | n + 1, s => (bareC (E.upToR 1099511627776 s).1 (E.upToR 2 (E.upToR 1099511627776 s).2).1 :: (rdCols n (E.upToR 2 (E.upToR 1099511627776 s).2).2).1, (rdCols n (E.upToR 2 (E.upToR 1099511627776 s).2).2).2)
def cellR (s : E.St) : List UInt8 × E.St := E.bytesR (E.upToR 9223372036854775807 s).1 (E.upToR 9223372036854775807 s).2
def rdCells : List Col → E.St → List (List UInt8) × E.St
  | [], s => ([], s)
  | _ :: l, s => ((cellR s).1 :: (rdCells l (cellR s).2).1, (rdCells l (cellR s).2).2)
def stat1 (c : Col) (b : List UInt8) : S.St := S.stOf ((E.decR (kd c) b).getD [])
def statsOf (l : List Col) (bs : List (List UInt8)) : List S.St := List.zipWith stat1 l bs
def rdGroup (l : List Col) (s : E.St) : Grp × E.St :=
  (((E.upToR 6 s).1, statsOf l (rdCells l (E.upToR 6 s).2).1, (rdCells l (E.upToR 6 s).2).1), (rdCells l (E.upToR 6 s).2).2)
def rdGroups (l : List Col) : Nat → E.St → List Grp × E.St
  | 0, s => ([], s)
  | n + 1, s => ((rdGroup l s).1 :: (rdGroups l n (rdGroup l s).2).1, (rdGroups l n (rdGroup l s).2).2)
def rdHead (s : List UInt8) : List Col × E.St := rdCols (E.upToR 8 (s, false)).1 (E.upToR 8 (s, false)).2
def rdTail (l : List Col) (s : E.St) : List Grp × E.St := rdGroups l (E.upToR 60 s).1 (E.upToR 60 s).2
def rdFile (s : List UInt8) : Fil × E.St := (((rdHead s).1, (rdTail (rdHead s).1 (rdHead s).2).1), (rdTail (rdHead s).1 (rdHead s).2).2)
noncomputable def parseR (s : List UInt8) : Option Fil := if (rdFile s).2.2 then none else if writeR (rdFile s).1 = some s then some (rdFile s).1 else none

/-- The same numbers and kinds. -/
def SameIK (a b : List Col) : Prop := ids a = ids b ∧ a.map kd = b.map kd
def stripC (l : List Col) : List Col := l.map fun c => bareC c.1 (kd c)

theorem SameIK.len {a b : List Col} (h : SameIK a b) : a.length = b.length := by have := congrArg List.length h.1; simpa [ids] using this
theorem SameIK.kdq {a b : List Col} (h : SameIK a b) (i : Nat) : kd (a[i]?.getD zC) = kd (b[i]?.getD zC) := by
  have e := congrArg (fun l => l[i]?) h.2
  simp only [List.getElem?_map] at e
  cases ha : a[i]? <;> cases hb : b[i]? <;> simp_all
theorem SameIK.idq {a b : List Col} (h : SameIK a b) (i : Nat) : (a[i]?.getD zC).1 = (b[i]?.getD zC).1 := by
  have e := congrArg (fun l => l[i]?) h.1
  simp only [ids, List.getElem?_map] at e
  cases ha : a[i]? <;> cases hb : b[i]? <;> simp_all
theorem SameIK.posq {a b : List Col} (h : SameIK a b) (id : Int) : pos a id = pos b id := by unfold pos; rw [h.1]
theorem sameIK_refl (a : List Col) : SameIK a a := ⟨rfl, rfl⟩
theorem sameIK_strip (l : List Col) : SameIK (stripC l) l := by
  constructor <;> simp [ids, stripC, bareC, kd, Function.comp_def]
theorem sameIK_plain (l : List Col) : SameIK (plainC l) l := by
  constructor
  · apply List.ext_getElem?
    intro i
    simp only [ids, plainC, List.map_map, List.getElem?_map]
    by_cases h : i < l.length
    · simp [h]
    · simp [h]
  · apply List.ext_getElem?
    intro i
    simp only [plainC, List.map_map, List.getElem?_map]
    by_cases h : i < l.length
    · simp [h, kd]
    · simp [h]
theorem plain_of_same {a b : List Col} (h : SameIK a b) : plainC a = plainC b := by
  unfold plainC
  rw [h.len]
  apply List.map_congr_left
  intro i _
  rw [h.idq, h.kdq]
theorem groupOf_same {a b : List Col} (h : SameIK a b) (p : List (List V)) : groupOf a p = groupOf b p := by
  unfold groupOf
  rw [h.len]
  simp only [h.kdq]
theorem plainC_len (l : List Col) : (plainC l).length = l.length := by simp [plainC]
theorem plainC_at {l : List Col} {i : Nat} {c : Col} (h : l[i]? = some c) : (plainC l)[i]? = some (c.1, cname i, kd c, false, 0, 0, ⟨#[]⟩) := by
  have hi : i < l.length := by
    rcases Nat.lt_or_ge i l.length with h' | h'
    · exact h'
    · rw [List.getElem?_eq_none h'] at h; cases h
  have e : l[i]?.getD zC = c := by rw [h]; rfl
  unfold plainC
  rw [List.getElem?_map, List.getElem?_range hi, Option.map_some, e]

theorem parts_to (rows : List (List V)) : ∀ m, ((List.range m).map (part6 rows)).flatten = rows.take (6 * m)
  | 0 => by simp
  | m + 1 => by
    rw [List.range_succ, List.map_append, List.flatten_append, parts_to rows m, show 6 * (m + 1) = 6 * m + 6 by omega, List.take_add]
    simp [part6]
theorem parts_all (rows : List (List V)) : (parts rows).flatten = rows := by
  unfold parts
  rw [parts_to, List.take_of_length_le (by unfold nGr; omega)]
theorem part6_len {rows : List (List V)} {k : Nat} (h : k < nGr rows.length) : 1 ≤ (part6 rows k).length ∧ (part6 rows k).length ≤ 6 := by
  unfold nGr at h
  simp only [part6, List.length_take, List.length_drop]
  omega
theorem parts_mem {rows p : List (List V)} (h : p ∈ parts rows) : 1 ≤ p.length ∧ p.length ≤ 6 ∧ ∀ r ∈ p, r ∈ rows := by
  simp only [parts, List.mem_map, List.mem_range] at h
  obtain ⟨k, hk, rfl⟩ := h
  have := part6_len hk
  exact ⟨this.1, this.2, fun r hr => List.mem_of_mem_drop (List.mem_of_mem_take hr)⟩
theorem parts_len (rows : List (List V)) : (parts rows).length = nGr rows.length := by simp [parts]

theorem right_same (k n : Int) (t : ByteArray) : E.rightV k n t = C.rightV k n t := rfl
theorem bad_fit (kind : Int) (x : V) : E.badV kind x = !C.fitB kind x.1 x.2.1 x.2.2 := by
  unfold E.badV C.fitB
  rw [right_same]
  cases C.rightV x.1 x.2.1 x.2.2 <;> cases (x.1 == 0) <;> cases (x.1 == kind) <;> rfl
/-- Rows of columns, each value such as may stand there, with numbers of 64 bits. -/
def Ok64 (v : V) : Prop := -9223372036854775808 ≤ v.2.1 ∧ v.2.1 ≤ 9223372036854775807
def RowsOk (l : List Col) (rows : List (List V)) : Prop := ∀ r ∈ rows, r.length = l.length ∧ ∀ i, i < l.length → fitV (l[i]?.getD zC) (r[i]?.getD zV) = true ∧ Ok64 (r[i]?.getD zV)
theorem colOf_len (rows : List (List V)) (i : Nat) : (colOf rows i).length = rows.length := by simp [colOf]
theorem colOf_ok {l : List Col} {rows : List (List V)} (h : RowsOk l rows) {i : Nat} (hi : i < l.length) (hk : kd (l[i]?.getD zC) = 1 ∨ kd (l[i]?.getD zC) = 2) : E.fitsB (kd (l[i]?.getD zC)) (colOf rows i) = true ∧ E.Okl (colOf rows i) := by
  have key : ∀ x ∈ colOf rows i, fitV (l[i]?.getD zC) x = true ∧ Ok64 x := by
    intro x hx
    simp only [colOf, List.mem_map] at hx
    obtain ⟨r, hr, rfl⟩ := hx
    exact (h r hr).2 i hi
  constructor
  · unfold E.fitsB
    rw [Bool.and_eq_true]
    constructor
    · rcases hk with hk | hk <;> simp [hk]
    · simp only [Bool.not_eq_true', List.any_eq_false]
      intro x hx
      have := (key x hx).1
      rw [bad_fit]
      unfold fitV at this
      simp [this]
  · intro x hx
    obtain ⟨h1, h2⟩ := key x hx
    exact ⟨h2.1, h2.2, C.fit_small h1⟩
end Go.Proofs.YtlnkbhbpkmnkaaaGreatDoor.F
namespace Go.Proofs.YtlnkbhbpkmnkaaaGreatDoor.F
open Go

theorem lt_of_some {α : Type} {l : List α} {i : Nat} {x : α} (h : l[i]? = some x) : i < l.length := by
  rcases Nat.lt_or_ge i l.length with h' | h'
  · exact h'
  · rw [List.getElem?_eq_none h'] at h; cases h
theorem getD_of {α : Type} {l : List α} {i : Nat} {x d : α} (h : l[i]? = some x) : l[i]?.getD d = x := by rw [h]; rfl
theorem some_of {α : Type} {l : List α} {i : Nat} (d : α) (h : i < l.length) : l[i]? = some (l[i]?.getD d) := by rw [List.getElem?_eq_getElem h]; rfl

/-- Columns of the kinds that there are. -/
def Kinds (l : List Col) : Prop := ∀ i, i < l.length → kd (l[i]?.getD zC) = 1 ∨ kd (l[i]?.getD zC) = 2
/-- No number twice. -/
def Once (l : List Col) : Prop := ∀ i j, i < j → j < l.length → (l[i]?.getD zC).1 ≠ (l[j]?.getD zC).1
theorem vals_group {l cols : List Col} {part : List (List V)} (hs : SameIK cols l) (hr : RowsOk l part) (hk : Kinds l) (hp : part.length ≤ 60) (c : Col) :
    valsOf cols (groupOf l part) c = if pos l c.1 < l.length then colOf part (pos l c.1) else List.replicate part.length (dfl c) := by
  unfold valsOf
  rw [hs.posq, hs.len]
  by_cases h : pos l c.1 < l.length
  · rw [if_pos h, if_pos h, hs.kdq]
    have hb : (groupOf l part).2.2[pos l c.1]?.getD [] = E.encB (kd (l[pos l c.1]?.getD zC)) (colOf part (pos l c.1)) := by simp [groupOf, h]
    obtain ⟨h1, h2⟩ := colOf_ok hr h (hk _ h)
    rw [hb, E.decR_enc h1 h2 (by rw [colOf_len]; exact hp)]
    rfl
  · rw [if_neg h, if_neg h]; rfl
def pick (l : List Col) (r : List V) (c : Col) : V := if pos l c.1 < l.length then r[pos l c.1]?.getD zV else dfl c
theorem read_group {l cols : List Col} {part : List (List V)} (hs : SameIK cols l) (hr : RowsOk l part) (hk : Kinds l) (h1 : 1 ≤ part.length) (h6 : part.length ≤ 6) (now : List Col) :
    readG cols (groupOf l part) now = some (part.map fun r => now.map (pick l r)) := by
  have hv := vals_group hs hr hk (by omega)
  have hw : wholeG cols (groupOf l part) = true := by
    have e1 : (groupOf l part).2.1.length = l.length := by simp [groupOf]
    have e2 : (groupOf l part).2.2.length = l.length := by simp [groupOf]
    have e3 : (groupOf l part).1 = part.length := rfl
    unfold wholeG
    rw [e1, e2, e3, hs.len]
    simp [h1, h6]
  have ha : now.all (fun c => (valsOf cols (groupOf l part) c).length == (groupOf l part).1) = true := by
    rw [List.all_eq_true]
    intro c _
    rw [hv c]
    have e3 : (groupOf l part).1 = part.length := rfl
    rw [e3]
    split
    · simp [colOf_len]
    · simp
  unfold readG
  rw [hw, ha]
  simp only [Bool.and_self, if_true]
  congr 1
  unfold rowsBy
  apply List.ext_getElem?
  intro j
  simp only [List.getElem?_map]
  by_cases hj : j < part.length
  · rw [List.getElem?_range (by exact hj), List.getElem?_eq_getElem hj]
    simp only [Option.map_some]
    congr 1
    apply List.map_congr_left
    intro c _
    rw [hv c]
    unfold pick
    split
    · simp [colOf, hj]
    · simp [hj]
  · rw [List.getElem?_eq_none (by simp [groupOf]; omega), List.getElem?_eq_none (by omega)]
    rfl
theorem all_parts {l cols : List Col} (hs : SameIK cols l) (hk : Kinds l) (now : List Col) : ∀ (ps : List (List (List V))) (acc : List (List V)), (∀ p ∈ ps, RowsOk l p ∧ 1 ≤ p.length ∧ p.length ≤ 6) →
    allGo cols now acc (ps.map (groupOf l)) = some (acc ++ ps.flatten.map fun r => now.map (pick l r))
  | [], acc, _ => by simp [allGo]
  | p :: ps, acc, h => by
    obtain ⟨h1, h2, h3⟩ := h p (by simp)
    rw [List.map_cons, allGo, read_group hs h1 hk h2 h3]
    simp only
    rw [all_parts hs hk now ps _ (fun q hq => h q (by simp [hq]))]
    simp
theorem all_groups {l cols : List Col} (hs : SameIK cols l) (hk : Kinds l) (now : List Col) {rows : List (List V)} (hr : RowsOk l rows) :
    allGo cols now [] (groupsOf l rows) = some (rows.map fun r => now.map (pick l r)) := by
  unfold groupsOf
  rw [all_parts hs hk now (parts rows) [] (fun p hp => ⟨fun r hr' => hr r ((parts_mem hp).2.2 r hr'), (parts_mem hp).1, (parts_mem hp).2.1⟩), parts_all]
  simp

theorem pos_own {l : List Col} (ho : Once l) {i : Nat} (hi : i < l.length) : pos l (l[i]?.getD zC).1 = i := by
  have key : ∀ (m : List Int) (i : Nat) (x : Int), m[i]? = some x → (∀ j, j < i → m[j]? ≠ some x) → m.idxOf x = i := by
    intro m
    induction m with
    | nil => intro i x h; simp at h
    | cons a m ih =>
      intro i x h hn
      cases i with
      | zero => simp at h; subst h; simp
      | succ i =>
        have ha : a ≠ x := fun e => hn 0 (by omega) (by simp [e])
        have e2 := ih i x (by simpa using h) (fun j hj => by have := hn (j + 1) (by omega); simpa using this)
        rw [List.idxOf_cons, e2, beq_eq_false_iff_ne.2 ha]
        rfl
  unfold pos
  refine key (ids l) i _ (by simp [ids, hi]) (fun j hj e => ?_)
  have h1 := ho j i hj hi
  have hj' : j < l.length := by omega
  apply h1
  simp only [ids, List.getElem?_map, List.getElem?_eq_getElem hj', Option.map_some, Option.some.injEq] at e
  rw [List.getElem?_eq_getElem hj']
  exact e
theorem pick_row {l now : List Col} (ho : Once l) (hs : SameIK now l) {r : List V} (hr : r.length = l.length) : now.map (pick l r) = r := by
  apply List.ext_getElem?
  intro i
  rw [List.getElem?_map]
  by_cases hi : i < l.length
  · have hn : i < now.length := by rw [hs.len]; exact hi
    have e := some_of zC hn
    rw [e]
    simp only [Option.map_some]
    have hp : pos l (now[i]?.getD zC).1 = i := by rw [hs.idq]; exact pos_own ho hi
    unfold pick
    rw [hp, if_pos hi, ← some_of zV (by omega)]
  · rw [List.getElem?_eq_none (by rw [hs.len]; omega), List.getElem?_eq_none (by omega)]; rfl

/-- What columns that may be a table's are. -/
structure RightF (l : List Col) (next : Int) : Prop where
  one : 1 ≤ l.length
  eight : l.length ≤ 8
  may : ∀ i, i < l.length → C.mayB (l[i]?.getD zC) = true ∧ (l[i]?.getD zC).1 < next
  apart : ∀ i j, i < j → j < l.length → C.alikeB (l[j]?.getD zC) (l[i]?.getD zC) = false
theorem right_iff {l : List Col} {next : Int} : rightB l next = true ↔ RightF l next := by
  unfold rightB
  rw [Bool.and_eq_true, decide_eq_true_iff, List.all_eq_true]
  constructor
  · rintro ⟨⟨h1, h8⟩, ha⟩
    have hk : ∀ k, k < l.length → okAt l next k = true := fun k hk => ha k (List.mem_range.2 hk)
    refine ⟨h1, h8, fun i hi => ?_, fun i j hij hj => ?_⟩
    · have := hk i hi
      simp only [okAt, Bool.and_eq_true, decide_eq_true_eq] at this
      exact ⟨this.1, this.2.1⟩
    · have := hk j hj
      simp only [okAt, Bool.and_eq_true, Bool.not_eq_true', List.any_eq_false] at this
      have hi : i < l.length := by omega
      have hm : l[i] ∈ l.take j := by
        rw [List.mem_take_iff_getElem]
        exact ⟨i, by omega, rfl⟩
      have := this.2.2 _ hm
      rw [List.getElem?_eq_getElem hi]
      simpa using this
  · rintro ⟨h1, h8, hm, hap⟩
    refine ⟨⟨h1, h8⟩, fun k hk => ?_⟩
    rw [List.mem_range] at hk
    simp only [okAt, Bool.and_eq_true, decide_eq_true_eq, Bool.not_eq_true', List.any_eq_false]
    refine ⟨(hm k hk).1, (hm k hk).2, fun c hc => ?_⟩
    rw [List.mem_take_iff_getElem] at hc
    obtain ⟨i, hi, rfl⟩ := hc
    have := hap i k (by omega) hk
    rw [List.getElem?_eq_getElem (show i < l.length by omega)] at this
    simpa using this
theorem may_parts {c : Col} (h : C.mayB c = true) : (kd c = 1 ∨ kd c = 2) ∧ 1 ≤ c.1 ∧ C.colB c.2.1 = true ∧ C.fitB (kd c) (dfl c).1 (dfl c).2.1 (dfl c).2.2 = true := by
  simp only [C.mayB, Bool.and_eq_true, Bool.or_eq_true, beq_iff_eq, decide_eq_true_eq] at h
  exact h
theorem RightF.kinds {l : List Col} {next : Int} (h : RightF l next) : Kinds l := fun i hi => (may_parts (h.may i hi).1).1
theorem RightF.once {l : List Col} {next : Int} (h : RightF l next) : Once l := fun i j hij hj e => by
  have := h.apart i j hij hj
  simp [C.alikeB, e] at this
theorem rowGo_zero : ∀ {l : List Col} {r : List V}, rowGo l r = 0 → r.length = l.length → ∀ i, i < l.length → fitV (l[i]?.getD zC) (r[i]?.getD zV) = true
  | [], _, _, _, i, hi => by simp at hi
  | _ :: _, [], _, hl, _, _ => by simp at hl
  | c :: l, v :: r, h, hl, i, hi => by
    rw [rowGo] at h
    by_cases hf : fitV c v = false
    · rw [if_pos hf] at h; cases h
    · rw [if_neg hf] at h
      split at h
      · cases h
      · cases i with
        | zero => simpa using hf
        | succ i => simpa using rowGo_zero h (by simpa using hl) i (by simpa using hi)
theorem rowGo_of : ∀ {l : List Col} {r : List V}, (∀ i, i < l.length → fitV (l[i]?.getD zC) (r[i]?.getD zV) = true ∧ (l[i]?.getD zC).2.2.2.1 = false) → rowGo l r = 0
  | [], _, _ => by simp [rowGo]
  | _ :: _, [], _ => by simp [rowGo]
  | c :: l, v :: r, h => by
    have h0 := h 0 (by simp)
    simp only [List.getElem?_cons_zero, Option.getD_some] at h0
    rw [rowGo, if_neg (by simp [h0.1]), if_neg (by simp [h0.2])]
    exact rowGo_of (fun i hi => by have := h (i + 1) (by simpa using hi); simpa using this)
def All64 (rows : List (List V)) : Prop := ∀ r ∈ rows, ∀ v ∈ r, Ok64 v
theorem ok64_z : Ok64 zV := ⟨by decide, by decide⟩
theorem rowsOk_of {l : List Col} {rows : List (List V)} (h : ∀ r ∈ rows, rowE l r = 0) (h64 : All64 rows) : RowsOk l rows := by
  intro r hr
  have e := h r hr
  unfold rowE at e
  by_cases hl : r.length = l.length
  · rw [if_pos hl] at e
    refine ⟨hl, fun i hi => ⟨rowGo_zero e hl i hi, ?_⟩⟩
    cases hv : r[i]? with
    | none => exact ok64_z
    | some v => exact h64 r hr v (List.mem_of_getElem? hv)
  · rw [if_neg hl] at e; cases e
theorem makeOk_iff {l : List Col} {rows : List (List V)} : makeOk l rows = true ↔ RightF l next40 ∧ 1 ≤ rows.length ∧ rows.length ≤ 60 ∧ ∀ r ∈ rows, rowE l r = 0 := by
  unfold makeOk
  rw [Bool.and_eq_true, Bool.and_eq_true, right_iff, decide_eq_true_iff, List.all_eq_true]
  simp only [beq_iff_eq]
  constructor
  · rintro ⟨a, ⟨b, c⟩, d⟩; exact ⟨a, b, c, d⟩
  · rintro ⟨a, b, c, d⟩; exact ⟨a, ⟨b, c⟩, d⟩

theorem cname_ok : ∀ i, i < 8 → C.colB (cname i) = true := by
  have h0 : C.colB (cname 0) = true := by kernel_rfl
  have h1 : C.colB (cname 1) = true := by kernel_rfl
  have h2 : C.colB (cname 2) = true := by kernel_rfl
  have h3 : C.colB (cname 3) = true := by kernel_rfl
  have h4 : C.colB (cname 4) = true := by kernel_rfl
  have h5 : C.colB (cname 5) = true := by kernel_rfl
  have h6 : C.colB (cname 6) = true := by kernel_rfl
  have h7 : C.colB (cname 7) = true := by kernel_rfl
  intro i hi
  have : i = 0 ∨ i = 1 ∨ i = 2 ∨ i = 3 ∨ i = 4 ∨ i = 5 ∨ i = 6 ∨ i = 7 := by omega
  rcases this with rfl | rfl | rfl | rfl | rfl | rfl | rfl | rfl
  · exact h0
  · exact h1
  · exact h2
  · exact h3
  · exact h4
  · exact h5
  · exact h6
  · exact h7
theorem cname_apart {i j : Nat} (hj : j < 8) (hij : i < j) : ((cname i).toList == (cname j).toList) = false := by
  have : i < 8 := by omega
  rw [beq_eq_false_iff_ne]
  intro e
  rw [ByteArray.toList_eq, ByteArray.toList_eq] at e
  have e1 : (48 + i).toUInt8 = (48 + j).toUInt8 := by simpa [cname] using e
  have e2 := congrArg UInt8.toNat e1
  rw [Lib.toUInt8_toNat (by omega), Lib.toUInt8_toNat (by omega)] at e2
  omega
theorem fit_zero (k : Int) : C.fitB k 0 0 ⟨#[]⟩ = true := by simp [C.fitB, C.rightV, ByteArray.toList_eq]
theorem right_plain {l : List Col} (h : RightF l next40) : RightF (plainC l) next40 := by
  have hs := sameIK_plain l
  refine ⟨by rw [plainC_len]; exact h.one, by rw [plainC_len]; exact h.eight, fun i hi => ?_, fun i j hij hj => ?_⟩
  · rw [plainC_len] at hi
    rw [plainC_at (some_of zC hi)]
    simp only [Option.getD_some]
    obtain ⟨h1, h2⟩ := h.may i hi
    obtain ⟨a, b, c, d⟩ := may_parts h1
    refine ⟨?_, h2⟩
    have h8 := h.eight
    simp only [C.mayB, Bool.and_eq_true, Bool.or_eq_true, beq_iff_eq, decide_eq_true_eq]
    exact ⟨a, b, cname_ok i (by omega), fit_zero _⟩
  · rw [plainC_len] at hj
    rw [plainC_at (some_of zC hj), plainC_at (some_of zC (show i < l.length by omega))]
    simp only [Option.getD_some]
    have h1 := h.once i j hij hj
    have h2 := cname_apart (i := i) (j := j) (by have := h.eight; omega) hij
    simp only [C.alikeB, Bool.or_eq_false_iff]
    exact ⟨by simpa using h1, h2⟩
theorem fitV_same {a b : Col} (h : kd a = kd b) (v : V) : fitV a v = fitV b v := by unfold fitV; rw [h]
theorem row_plain {l : List Col} {r : List V} (h : rowE l r = 0) : rowE (plainC l) r = 0 := by
  unfold rowE at h ⊢
  rw [plainC_len]
  by_cases hl : r.length = l.length
  · rw [if_pos hl] at h ⊢
    apply rowGo_of
    intro i hi
    rw [plainC_len] at hi
    have := rowGo_zero h hl i hi
    rw [plainC_at (some_of zC hi)]
    exact ⟨this, rfl⟩
  · rw [if_neg hl] at h; cases h
theorem groupsOf_same {a b : List Col} (h : SameIK a b) (rows : List (List V)) : groupsOf a rows = groupsOf b rows := by
  unfold groupsOf
  apply List.map_congr_left
  intro p _
  exact groupOf_same h p
/-- What Make makes is as Make makes it, whatever its columns are called. -/
theorem made_ok {l cols : List Col} {rows : List (List V)} (h : makeOk l rows = true) (hs : SameIK cols l) (h64 : All64 rows) : madeB (cols, groupsOf l rows) = true := by
  obtain ⟨hR, h1, h60, hrow⟩ := makeOk_iff.1 h
  have hok := rowsOk_of hrow h64
  have hp : plainC cols = plainC l := plain_of_same hs
  have ha : allGo cols (plainC cols) [] (groupsOf l rows) = some rows := by
    rw [hp, all_groups hs hR.kinds (plainC l) hok]
    congr 1
    refine Eq.trans (List.map_congr_left (fun r hr => pick_row hR.once (sameIK_plain l) (hok r hr).1)) (List.map_id' rows)
  have hm : makeR (plainC cols) rows = some (plainC l, groupsOf l rows) := by
    have : makeOk (plainC l) rows = true := makeOk_iff.2 ⟨right_plain hR, h1, h60, fun r hr => row_plain (hrow r hr)⟩
    rw [hp]
    unfold makeR
    rw [if_pos this, groupsOf_same (sameIK_plain l)]
  have hr : rightB (plainC cols) next40 = true := by rw [hp]; exact right_iff.2 (right_plain hR)
  unfold madeB
  simp only
  rw [hr, ha]
  simp only
  rw [hm]
  simp
/-- What was put in is read, by the same columns. -/
theorem all_back {l cols : List Col} {rows : List (List V)} (h : makeOk l rows = true) (hs : SameIK cols l) (h64 : All64 rows) : allGo cols l [] (groupsOf l rows) = some rows := by
  obtain ⟨hR, h1, h60, hrow⟩ := makeOk_iff.1 h
  have hok := rowsOk_of hrow h64
  rw [all_groups hs hR.kinds l hok]
  congr 1
  exact Eq.trans (List.map_congr_left (fun r hr => pick_row hR.once (sameIK_refl l) (hok r hr).1)) (List.map_id' rows)
end Go.Proofs.YtlnkbhbpkmnkaaaGreatDoor.F
namespace Go.Proofs.YtlnkbhbpkmnkaaaGreatDoor.F
open Go

theorem rdCols_enc : ∀ (l : List Col) (rest : List UInt8), (∀ c ∈ l, 0 ≤ c.1 ∧ c.1 ≤ 1099511627776 ∧ 0 ≤ kd c ∧ kd c ≤ 2) → rdCols l.length (l.flatMap colBytes ++ rest, false) = (stripC l, (rest, false))
  | [], rest, _ => by simp [rdCols, stripC]
  | c :: l, rest, h => by
    obtain ⟨h0, h1, h2, h3⟩ := h c (by simp)
    have e1 : E.upToR 1099511627776 ((c :: l).flatMap colBytes ++ rest, false) = (c.1.toNat, (Lib.uvarint (kd c).toNat ++ (l.flatMap colBytes ++ rest), false)) := by
      rw [List.flatMap_cons, colBytes, List.append_assoc, List.append_assoc]
      exact E.upToR_enc (by omega) (by omega) _
    have e2 : E.upToR 2 (Lib.uvarint (kd c).toNat ++ (l.flatMap colBytes ++ rest), false) = ((kd c).toNat, (l.flatMap colBytes ++ rest, false)) := E.upToR_enc (by omega) (by omega) _
    have e3 := rdCols_enc l rest (fun d hd => h d (by simp [hd]))
    rw [List.length_cons, rdCols, e1]
    simp only
    rw [e2]
    simp only
    rw [e3, Int.toNat_of_nonneg h0, Int.toNat_of_nonneg h2]
    rfl
theorem cellR_enc (b rest : List UInt8) (hb : b.length ≤ 9223372036854775807) : cellR (cellBytes b ++ rest, false) = (b, (rest, false)) := by
  unfold cellR cellBytes
  rw [List.append_assoc, E.upToR_enc (by omega) (by omega)]
  exact E.bytesR_enc rfl _ _
theorem rdCells_enc : ∀ (l : List Col) (bs : List (List UInt8)) (rest : List UInt8), bs.length = l.length → (∀ b ∈ bs, b.length ≤ 9223372036854775807) → rdCells l (bs.flatMap cellBytes ++ rest, false) = (bs, (rest, false))
  | [], [], rest, _, _ => by simp [rdCells]
  | [], _ :: _, _, h, _ => by simp at h
  | _ :: _, [], _, h, _ => by simp at h
  | c :: l, b :: bs, rest, h, hb => by
    have e1 : cellR ((b :: bs).flatMap cellBytes ++ rest, false) = (b, (bs.flatMap cellBytes ++ rest, false)) := by
      rw [List.flatMap_cons, List.append_assoc]; exact cellR_enc b _ (hb b (by simp))
    rw [rdCells, e1]
    simp only
    rw [rdCells_enc l bs rest (by simpa using h) (fun x hx => hb x (by simp [hx]))]
def refill (l : List Col) (g : Grp) : Grp := (g.1, statsOf l g.2.2, g.2.2)
def BndG (n : Nat) (g : Grp) : Prop := g.1 ≤ 6 ∧ g.2.2.length = n ∧ ∀ b ∈ g.2.2, b.length ≤ 9223372036854775807
theorem rdGroup_enc {l : List Col} {g : Grp} (h : BndG l.length g) (rest : List UInt8) : rdGroup l (groupBytes g ++ rest, false) = (refill l g, (rest, false)) := by
  have e1 : E.upToR 6 (groupBytes g ++ rest, false) = (g.1, (g.2.2.flatMap cellBytes ++ rest, false)) := by
    unfold groupBytes
    rw [List.append_assoc]
    exact E.upToR_enc (by have := h.1; omega) (by have := h.1; omega) _
  unfold rdGroup
  rw [e1]
  simp only
  rw [rdCells_enc l g.2.2 rest h.2.1 h.2.2]
  rfl
theorem rdGroups_enc {l : List Col} : ∀ (gs : List Grp) (rest : List UInt8), (∀ g ∈ gs, BndG l.length g) → rdGroups l gs.length (gs.flatMap groupBytes ++ rest, false) = (gs.map (refill l), (rest, false))
  | [], rest, _ => by simp [rdGroups]
  | g :: gs, rest, h => by
    have e1 : rdGroup l ((g :: gs).flatMap groupBytes ++ rest, false) = (refill l g, (gs.flatMap groupBytes ++ rest, false)) := by
      rw [List.flatMap_cons, List.append_assoc]; exact rdGroup_enc (h g (by simp)) _
    rw [List.length_cons, rdGroups, e1]
    simp only
    rw [rdGroups_enc gs rest (fun x hx => h x (by simp [hx]))]
    rfl
structure Bnd (f : Fil) : Prop where
  cols : f.1.length ≤ 8
  col : ∀ c ∈ f.1, 0 ≤ c.1 ∧ c.1 ≤ 1099511627776 ∧ 0 ≤ kd c ∧ kd c ≤ 2
  groups : f.2.length ≤ 60
  group : ∀ g ∈ f.2, BndG f.1.length g
theorem stripC_len (l : List Col) : (stripC l).length = l.length := by simp [stripC]
theorem rdFile_enc {f : Fil} (h : Bnd f) (rest : List UInt8) : rdFile (writeB f ++ rest) = ((stripC f.1, f.2.map (refill (stripC f.1))), (rest, false)) := by
  have e1 : E.upToR 8 (writeB f ++ rest, false) = (f.1.length, (f.1.flatMap colBytes ++ (Lib.uvarint f.2.length ++ (f.2.flatMap groupBytes ++ rest)), false)) := by
    unfold writeB
    rw [List.append_assoc, List.append_assoc, List.append_assoc]
    exact E.upToR_enc (by have := h.cols; omega) (by have := h.cols; omega) _
  have e2 : rdHead (writeB f ++ rest) = (stripC f.1, (Lib.uvarint f.2.length ++ (f.2.flatMap groupBytes ++ rest), false)) := by
    unfold rdHead
    rw [e1]
    exact rdCols_enc f.1 _ h.col
  have e3 : E.upToR 60 (Lib.uvarint f.2.length ++ (f.2.flatMap groupBytes ++ rest), false) = (f.2.length, (f.2.flatMap groupBytes ++ rest, false)) := E.upToR_enc (by have := h.groups; omega) (by have := h.groups; omega) _
  have e4 : rdTail (stripC f.1) (Lib.uvarint f.2.length ++ (f.2.flatMap groupBytes ++ rest), false) = (f.2.map (refill (stripC f.1)), (rest, false)) := by
    unfold rdTail
    rw [e3]
    exact rdGroups_enc f.2 rest (fun g hg => by rw [stripC_len]; exact h.group g hg)
  unfold rdFile
  rw [e2]
  simp only
  rw [e4]
theorem len_flat {α : Type} (f : α → List UInt8) : ∀ {l : List α} {x : α}, x ∈ l → (f x).length ≤ (l.flatMap f).length
  | [], _, h => by simp at h
  | y :: l, x, h => by
    rw [List.flatMap_cons, List.length_append]
    rcases List.mem_cons.1 h with rfl | h
    · omega
    · have := len_flat f h; omega
theorem flat_len {α : Type} (f : α → List UInt8) (m : Nat) : ∀ {l : List α}, (∀ x ∈ l, (f x).length ≤ m) → (l.flatMap f).length ≤ l.length * m
  | [], _ => by simp
  | y :: l, h => by
    have h1 := h y (by simp)
    have h2 := flat_len f m (l := l) (fun x hx => h x (by simp [hx]))
    rw [List.flatMap_cons, List.length_append, List.length_cons, Nat.add_mul]; omega
theorem byte_len {f : Fil} {g : Grp} {b : List UInt8} (hg : g ∈ f.2) (hb : b ∈ g.2.2) : b.length ≤ (writeB f).length := by
  have h1 := len_flat cellBytes hb
  have h2 := len_flat groupBytes hg
  simp only [cellBytes, groupBytes, writeB, List.length_append] at h1 h2 ⊢
  omega
theorem right_col {l : List Col} (h : RightF l next40) {c : Col} (hc : c ∈ l) : 0 ≤ c.1 ∧ c.1 ≤ 1099511627776 ∧ 0 ≤ kd c ∧ kd c ≤ 2 := by
  obtain ⟨i, hi, rfl⟩ := List.getElem_of_mem hc
  obtain ⟨h1, h2⟩ := h.may i hi
  rw [List.getElem?_eq_getElem hi] at h1 h2
  simp only [Option.getD_some] at h1 h2
  obtain ⟨a, b, _, _⟩ := may_parts h1
  unfold next40 at h2
  refine ⟨by omega, by omega, ?_, ?_⟩ <;> rcases a with a | a <;> omega
theorem group_bnd {l : List Col} {p : List (List V)} (h6 : p.length ≤ 6) (hb : ∀ b ∈ (groupOf l p).2.2, b.length ≤ 9223372036854775807) : BndG l.length (groupOf l p) :=
  ⟨h6, by simp [groupOf], hb⟩
theorem nGr_le {n : Nat} (h : n ≤ 60) : nGr n ≤ 10 := by unfold nGr; omega
theorem same_ids_mem {a b : List Col} (h : SameIK a b) {c : Col} (hc : c ∈ a) : ∃ d ∈ b, d.1 = c.1 ∧ kd d = kd c := by
  obtain ⟨i, hi, rfl⟩ := List.getElem_of_mem hc
  have hi' : i < b.length := by rw [← h.len]; exact hi
  refine ⟨b[i], List.getElem_mem _, ?_, ?_⟩
  · have := h.idq i; rw [List.getElem?_eq_getElem hi, List.getElem?_eq_getElem hi'] at this; exact this.symm
  · have := h.kdq i; rw [List.getElem?_eq_getElem hi, List.getElem?_eq_getElem hi'] at this; exact this.symm
theorem made_bnd {f : Fil} (h : madeB f = true) (hl : (writeB f).length ≤ 9223372036854775807) : Bnd f := by
  unfold madeB at h
  rw [Bool.and_eq_true] at h
  obtain ⟨hr, hm⟩ := h
  have hR := right_iff.1 hr
  have hs := sameIK_plain f.1
  refine ⟨by have := hR.eight; rw [plainC_len] at this; exact this, fun c hc => ?_, ?_, ?_⟩
  · obtain ⟨d, hd, e1, e2⟩ := same_ids_mem ⟨hs.1.symm, hs.2.symm⟩ hc
    have := right_col hR hd
    rw [e1, e2] at this; exact this
  all_goals
    cases ha : allGo f.1 (plainC f.1) [] f.2 with
    | none => rw [ha] at hm; simp at hm
    | some rows =>
      rw [ha] at hm
      simp only at hm
      unfold makeR at hm
      by_cases hk : makeOk (plainC f.1) rows = true
      · rw [if_pos hk] at hm
        simp only [decide_eq_true_eq] at hm
        obtain ⟨_, _, h60, _⟩ := makeOk_iff.1 hk
        first
          | (rw [hm, groupsOf, List.length_map, parts_len]; have := nGr_le h60; omega)
          | (intro g hg
             have hg' := hg
             rw [hm, groupsOf, List.mem_map] at hg'
             obtain ⟨p, hp, rfl⟩ := hg'
             have := group_bnd (l := plainC f.1) (parts_mem hp).2.1 (fun b hb => Nat.le_trans (byte_len hg hb) hl)
             rw [plainC_len] at this
             exact this)
      · rw [if_neg hk] at hm; simp at hm
theorem refill_group {l cols : List Col} {p : List (List V)} (hs : SameIK cols l) (hr : RowsOk l p) (hk : Kinds l) (h6 : p.length ≤ 60) : refill cols (groupOf l p) = groupOf l p := by
  unfold refill
  have e : statsOf cols (groupOf l p).2.2 = (groupOf l p).2.1 := by
    apply List.ext_getElem?
    intro i
    by_cases hi : i < l.length
    · have hc : i < cols.length := by rw [hs.len]; exact hi
      obtain ⟨h1, h2⟩ := colOf_ok hr hi (hk i hi)
      have e1 : (groupOf l p).2.2[i]? = some (E.encB (kd (l[i]?.getD zC)) (colOf p i)) := by simp [groupOf, hi]
      have e2 : (groupOf l p).2.1[i]? = some (S.stOf (colOf p i)) := by simp [groupOf, hi]
      rw [e2]
      unfold statsOf
      rw [List.getElem?_zipWith, some_of zC hc, e1]
      simp only
      unfold stat1
      rw [hs.kdq, E.decR_enc h1 h2 (by rw [colOf_len]; exact h6)]
      rfl
    · rw [List.getElem?_eq_none (by simp [statsOf, groupOf, hs.len]; omega), List.getElem?_eq_none (by simp [groupOf]; omega)]
  rw [e]
theorem write_strip (l : List Col) (gs : List Grp) : writeB (stripC l, gs) = writeB (l, gs) := by
  unfold writeB
  have e : (stripC l).flatMap colBytes = l.flatMap colBytes := by
    unfold stripC
    rw [List.flatMap_map]
    rfl
  simp only [e, stripC_len]
theorem enc_len {kind : Int} {l : List V} (h : E.fitsB kind l = true) (ho : E.Okl l) (hl : l.length ≤ 60) : (E.encB kind l).length ≤ 4019 := by
  have hf := E.fits_few h ho hl
  have h1 := E.fewB_len (kind := kind) (E.known_few hf)
  have h2 := E.marksB_len l
  have h3 := Lib.uvarint_length64 (x := l.length) (by omega)
  simp only [E.encB, List.length_append]
  omega
theorem write_len {l : List Col} {rows : List (List V)} (h : makeOk l rows = true) (h64 : All64 rows) : (writeB (l, groupsOf l rows)).length ≤ 400000 := by
  obtain ⟨hR, h1, h60, hrow⟩ := makeOk_iff.1 h
  have hok := rowsOk_of hrow h64
  have hn := nGr_le h60
  have h8 := hR.eight
  have a1 : (l.flatMap colBytes).length ≤ l.length * 20 := flat_len _ _ (fun c hc => by
    have hc' := right_col hR hc
    have x1 := Lib.uvarint_length64 (x := c.1.toNat) (by omega)
    have x2 := Lib.uvarint_length64 (x := (kd c).toNat) (by omega)
    simp only [colBytes, List.length_append]; omega)
  have a2 : ((groupsOf l rows).flatMap groupBytes).length ≤ (groupsOf l rows).length * 32242 := flat_len _ _ (fun g hg => by
    simp only [groupsOf, List.mem_map] at hg
    obtain ⟨p, hp, rfl⟩ := hg
    obtain ⟨p1, p6, pm⟩ := parts_mem hp
    have x1 := Lib.uvarint_length64 (x := p.length) (by omega)
    have x2 : ((groupOf l p).2.2.flatMap cellBytes).length ≤ (groupOf l p).2.2.length * 4029 := flat_len _ _ (fun b hb => by
      simp only [groupOf, List.mem_map, List.mem_range] at hb
      obtain ⟨i, hi, rfl⟩ := hb
      obtain ⟨y1, y2⟩ := colOf_ok (l := l) (rows := p) (fun r hr => hok r (pm r hr)) hi (hR.kinds i hi)
      have y3 := enc_len y1 y2 (by rw [colOf_len]; omega)
      have y4 := Lib.uvarint_length64 (x := (E.encB (kd (l[i]?.getD zC)) (colOf p i)).length) (by omega)
      simp only [cellBytes, List.length_append]; omega)
    have x3 : (groupOf l p).2.2.length = l.length := by simp [groupOf]
    rw [x3] at x2
    have x4 : (groupOf l p).1 = p.length := rfl
    simp only [groupBytes, List.length_append, x4]
    have : l.length * 4029 ≤ 8 * 4029 := Nat.mul_le_mul_right _ h8
    omega)
  have a3 : (groupsOf l rows).length = nGr rows.length := by rw [groupsOf, List.length_map, parts_len]
  have a4 := Lib.uvarint_length64 (x := l.length) (by omega)
  have a5 := Lib.uvarint_length64 (x := (groupsOf l rows).length) (by omega)
  rw [a3] at a2 a5
  simp only [writeB, List.length_append, a3]
  have b1 : l.length * 20 ≤ 8 * 20 := Nat.mul_le_mul_right _ h8
  have b2 : nGr rows.length * 32242 ≤ 10 * 32242 := Nat.mul_le_mul_right _ hn
  omega
/-- What a file is written as is that file. -/
theorem parse_write {l : List Col} {rows : List (List V)} (h : makeOk l rows = true) (h64 : All64 rows) : parseR (writeB (l, groupsOf l rows)) = some (stripC l, groupsOf l rows) := by
  obtain ⟨hR, h1, h60, hrow⟩ := makeOk_iff.1 h
  have hok := rowsOk_of hrow h64
  have hm := made_ok h (sameIK_refl l) h64
  have hb := made_bnd hm (by have := write_len h h64; omega)
  have e := rdFile_enc hb []
  rw [List.append_nil] at e
  have e2 : (groupsOf l rows).map (refill (stripC l)) = groupsOf l rows := by
    refine Eq.trans (List.map_congr_left (fun g hg => ?_)) (List.map_id' _)
    simp only [groupsOf, List.mem_map] at hg
    obtain ⟨p, hp, rfl⟩ := hg
    obtain ⟨p1, p6, pm⟩ := parts_mem hp
    exact refill_group (sameIK_strip l) (fun r hr => hok r (pm r hr)) hR.kinds (by omega)
  simp only [e2] at e
  unfold parseR
  rw [e]
  simp only [Bool.false_eq_true, if_false]
  have e3 : writeR (stripC l, groupsOf l rows) = some (writeB (l, groupsOf l rows)) := by
    unfold writeR
    rw [if_pos (made_ok h (sameIK_strip l) h64), write_strip]
  rw [if_pos e3]
/-- No beginning of it is a file. -/
theorem parse_cut {l : List Col} {rows : List (List V)} (h : makeOk l rows = true) (h64 : All64 rows) {k : Nat} (hk : k < (writeB (l, groupsOf l rows)).length) : parseR ((writeB (l, groupsOf l rows)).take k) = none := by
  have hm := made_ok h (sameIK_refl l) h64
  have hw := write_len h h64
  have hb := made_bnd hm (by omega)
  cases hp : parseR ((writeB (l, groupsOf l rows)).take k) with
  | none => rfl
  | some g =>
    exfalso
    unfold parseR at hp
    split at hp
    · cases hp
    · split at hp
      · rename_i hwr
        injection hp with hp
        rw [hp] at hwr
        unfold writeR at hwr
        by_cases hmg : madeB g = true
        · rw [if_pos hmg] at hwr
          injection hwr with hwr
          have hbg := made_bnd hmg (by rw [hwr]; simp; omega)
          have e1 := rdFile_enc hbg ((writeB (l, groupsOf l rows)).drop k)
          rw [hwr, List.take_append_drop] at e1
          have e2 := rdFile_enc hb []
          rw [List.append_nil, e1] at e2
          injection e2 with _ e2
          injection e2 with e2 _
          have := congrArg List.length e2
          simp at this
          omega
        · rw [if_neg hmg] at hwr; cases hwr
      · cases hp
theorem rows_sum (l : List Col) (rows : List (List V)) : ((groupsOf l rows).map (·.1)).sum = rows.length := by
  have e : (groupsOf l rows).map (·.1) = (parts rows).map List.length := by
    unfold groupsOf
    rw [List.map_map]
    rfl
  rw [e, ← List.length_flatten, parts_all]
theorem write_parse {s : List UInt8} {f : Fil} (h : parseR s = some f) : writeR f = some s := by
  unfold parseR at h
  split at h
  · cases h
  · split at h
    · rename_i h2
      injection h with h
      rw [← h]; exact h2
    · cases h
end Go.Proofs.YtlnkbhbpkmnkaaaGreatDoor.F
namespace Go.Proofs.YtlnkbhbpkmnkaaaGreatDoor.F
open Go.RowKit Go.Proofs Go.Shelf Go.Joins

theorem mkH {p : Prop} (h : p) : Hid p := h
theorem ups {a b c : World} (h : Below a.heap.size a b) (k : Below b.heap.size b c) : Below a.heap.size a c := h.trans (k.mono h.size)
/-- Elements of k cells lie in a slice. -/
def SlE {α : Type} (k : Nat) (enc : α → List Value) (w : World) (v : Value) (l : List α) : Prop :=
  ∃ a c, v = .slice a l.length c ∧ l.length ≤ c ∧ (l ≠ [] → ∃ b off, a = some ⟨b, off, none⟩ ∧ b < w.heap.size ∧ ∀ (j : Nat) x, l[j]? = some x → ∀ (i : Nat) u, (enc x)[i]? = some u → w.cell? ⟨b, off + j * k + i, none⟩ = some u)
theorem SlE.up {α : Type} {k : Nat} {enc : α → List Value} {w W : World} {v : Value} {l : List α} (h : SlE k enc w v l) (hb : Below w.heap.size w W) : SlE k enc W v l := by
  obtain ⟨a, c, e, hc, hl⟩ := h
  refine ⟨a, c, e, hc, fun hne => ?_⟩
  obtain ⟨b, off, ea, hlt, hcell⟩ := hl hne
  exact ⟨b, off, ea, Nat.lt_of_lt_of_le hlt hb.size, fun j x hj i u hu => (hb.cell (p := ⟨b, off + j * k + i, none⟩) hlt).trans (hcell j x hj i u hu)⟩
theorem SlE.slice {α : Type} {k : Nat} {enc : α → List Value} {w : World} {v : Value} {l : List α} (h : SlE k enc w v l) : ∃ a c, v = .slice a l.length c ∧ l.length ≤ c := by
  obtain ⟨a, c, e, hc, _⟩ := h; exact ⟨a, c, e, hc⟩
theorem SlE.cons {α : Type} {k : Nat} {enc : α → List Value} {w : World} {v : Value} {l : List α} (h : SlE k enc w v l) (hl : 0 < l.length) : ∃ b off c, v = .slice (some ⟨b, off, none⟩) l.length c ∧ l.length ≤ c ∧ b < w.heap.size ∧ ∀ (j : Nat) x, l[j]? = some x → ∀ (i : Nat) u, (enc x)[i]? = some u → w.cell? ⟨b, off + j * k + i, none⟩ = some u := by
  obtain ⟨a, c, e, hc, h2⟩ := h
  obtain ⟨b, off, rfl, h3, h4⟩ := h2 (by intro e; rw [e] at hl; simp at hl)
  exact ⟨b, off, c, e, hc, h3, h4⟩
theorem flat_at {α : Type} {k : Nat} {enc : α → List Value} (hk : ∀ x, (enc x).length = k) : ∀ {l : List α} {j : Nat} {x : α} {i : Nat} {u : Value}, l[j]? = some x → (enc x)[i]? = some u → (l.flatMap enc)[j * k + i]? = some u
  | [], _, _, _, _, h, _ => by simp at h
  | y :: l, 0, x, i, u, h, hu => by
    simp at h; subst h
    rw [List.flatMap_cons, Nat.zero_mul, Nat.zero_add, List.getElem?_append_left (lt_of_some hu)]; exact hu
  | y :: l, j + 1, x, i, u, h, hu => by
    have ih := flat_at hk (l := l) (j := j) (x := x) (i := i) (u := u) (by simpa using h) hu
    rw [List.flatMap_cons, List.getElem?_append_right (by rw [hk]; rw [Nat.add_mul]; omega), hk, show (j + 1) * k + i - k = j * k + i by rw [Nat.add_mul]; omega]
    exact ih
theorem SlE.of_own {α : Type} {k : Nat} {enc : α → List Value} (hk : ∀ x, (enc x).length = k) {w : World} {B n : Nat} {T : TypeId} {v : Value} {l : List α} (h : w.ownsRow B T k v n (l.flatMap enc)) (hn : n = l.length) : SlE k enc w v l := by
  subst hn
  rcases h.2 with ⟨rfl, h0⟩ | ⟨g, cap, cur, rfl, hb, hh, hcap, _, _⟩
  · exact ⟨none, 0, by rw [h0], by omega, fun hne => absurd (List.eq_nil_of_length_eq_zero h0) hne⟩
  · refine ⟨_, cap, rfl, hcap, fun _ => ⟨g, 0, rfl, E.blk_lt hh, fun j x hj i u hu => ?_⟩⟩
    have hc := h.cells (g := g) rfl
    simp only [E.addr_add] at hc
    rw [Nat.zero_add]
    exact hc _ _ (flat_at hk hj hu)
def encS (s : S.St) : List Value := (S.cellsS s).toList
def encT (b : List UInt8) : List Value := [.string (E.str b)]
def encG (x : Int × Value × Value) : List Value := [.int .i64 x.1, x.2.1, x.2.2]
def encR (v : Value) : List Value := [v]
theorem encS_len (s : S.St) : (encS s).length = 8 := rfl
/-- A group lies: how many rows, and its two slices. -/
def GrpAt (w : World) (x : Int × Value × Value) (g : Grp) : Prop := x.1 = g.1 ∧ SlE 8 encS w x.2.1 g.2.1 ∧ SlE 1 encT w x.2.2 g.2.2
theorem GrpAt.up {w W : World} {x : Int × Value × Value} {g : Grp} (h : GrpAt w x g) (hb : Below w.heap.size w W) : GrpAt W x g := ⟨h.1, h.2.1.up hb, h.2.2.up hb⟩
def SlG (w : World) (v : Value) (gs : List Grp) : Prop := ∃ xs : List (Int × Value × Value), SlE 3 encG w v xs ∧ xs.length = gs.length ∧ ∀ (j : Nat) x g, xs[j]? = some x → gs[j]? = some g → GrpAt w x g
theorem SlG.up {w W : World} {v : Value} {gs : List Grp} (h : SlG w v gs) (hb : Below w.heap.size w W) : SlG W v gs := by
  obtain ⟨xs, h1, h2, h3⟩ := h
  exact ⟨xs, h1.up hb, h2, fun j x g hx hg => (h3 j x g hx hg).up hb⟩
theorem SlG.slice {w : World} {v : Value} {gs : List Grp} (h : SlG w v gs) : ∃ a c, v = .slice a gs.length c ∧ gs.length ≤ c := by
  obtain ⟨xs, h1, h2, _⟩ := h
  obtain ⟨a, c, e, hc⟩ := h1.slice
  exact ⟨a, c, by rw [← h2]; exact e, by rw [← h2]; exact hc⟩
theorem SlG.at {w : World} {v : Value} {gs : List Grp} (h : SlG w v gs) {k : Nat} {g : Grp} (hk : gs[k]? = some g) : ∃ b off c n sv bv, v = .slice (some ⟨b, off, none⟩) gs.length c ∧ b < w.heap.size ∧ n = (g.1 : Int) ∧ w.cell? ⟨b, off + k * 3, none⟩ = some (.int .i64 n) ∧ w.cell? ⟨b, off + k * 3 + 1, none⟩ = some sv ∧ w.cell? ⟨b, off + k * 3 + 2, none⟩ = some bv ∧ SlE 8 encS w sv g.2.1 ∧ SlE 1 encT w bv g.2.2 := by
  obtain ⟨xs, h1, h2, h3⟩ := h
  have hlt := lt_of_some hk
  obtain ⟨b, off, c, e, hc, hb, hcell⟩ := h1.cons (by omega)
  obtain ⟨⟨n, sv, bv⟩, hx⟩ : ∃ x, xs[k]? = some x := ⟨_, List.getElem?_eq_getElem (by omega)⟩
  obtain ⟨hn, hs, hbv⟩ := h3 k _ g hx hk
  exact ⟨b, off, c, n, sv, bv, by rw [e, h2], hb, hn, hcell k _ hx 0 _ rfl, hcell k _ hx 1 _ rfl, hcell k _ hx 2 _ rfl, hs, hbv⟩
/-- A file lies: its two slices. -/
def FilAt (w : World) (cv gv : Value) (f : Fil) : Prop := SlE 7 C.encC w cv f.1 ∧ SlG w gv f.2
theorem FilAt.up {w W : World} {cv gv : Value} {f : Fil} (h : FilAt w cv gv f) (hb : Below w.heap.size w W) : FilAt W cv gv f := ⟨h.1.up hb, h.2.up hb⟩
/-- Rows lie in a slice of slices. -/
def SlR (w : World) (v : Value) (rows : List (List V)) : Prop := ∃ vs : List Value, SlE 1 encR w v vs ∧ vs.length = rows.length ∧ ∀ (j : Nat) x r, vs[j]? = some x → rows[j]? = some r → E.Sl w x r
theorem SlR.up {w W : World} {v : Value} {rows : List (List V)} (h : SlR w v rows) (hb : Below w.heap.size w W) : SlR W v rows := by
  obtain ⟨vs, h1, h2, h3⟩ := h
  exact ⟨vs, h1.up hb, h2, fun j x r hx hr => (h3 j x r hx hr).up hb⟩
theorem SlR.slice {w : World} {v : Value} {rows : List (List V)} (h : SlR w v rows) : ∃ a c, v = .slice a rows.length c ∧ rows.length ≤ c := by
  obtain ⟨vs, h1, h2, _⟩ := h
  obtain ⟨a, c, e, hc⟩ := h1.slice
  exact ⟨a, c, by rw [← h2]; exact e, by rw [← h2]; exact hc⟩
theorem SlR.at {w : World} {v : Value} {rows : List (List V)} (h : SlR w v rows) {k : Nat} {r : List V} (hk : rows[k]? = some r) : ∃ b off c rv, v = .slice (some ⟨b, off, none⟩) rows.length c ∧ b < w.heap.size ∧ w.cell? ⟨b, off + k, none⟩ = some rv ∧ E.Sl w rv r := by
  obtain ⟨vs, h1, h2, h3⟩ := h
  have hlt := lt_of_some hk
  obtain ⟨b, off, c, e, hc, hb, hcell⟩ := h1.cons (by omega)
  obtain ⟨x, hx⟩ : ∃ x, vs[k]? = some x := ⟨_, List.getElem?_eq_getElem (by omega)⟩
  refine ⟨b, off, c, x, by rw [e, h2], hb, ?_, h3 k x r hx hk⟩
  have := hcell k x hx 0 x rfl
  rwa [Nat.mul_one, Nat.add_zero] at this
/-- Columns, the old word. -/
theorem slC_of {w : World} {v : Value} {l : List Col} (h : SlE 7 C.encC w v l) (hl : 0 < l.length) : ∃ g o c, v = .slice (some ⟨g, o, none⟩) l.length c ∧ l.length ≤ c ∧ C.SlC w g o l := by
  obtain ⟨b, off, c, e, hc, hb, hcell⟩ := h.cons hl
  refine ⟨b, off, c, e, hc, hb, fun j hj i u hu => ?_⟩
  rw [getElem!_pos l j hj] at hu
  exact hcell j _ (List.getElem?_eq_getElem hj) i u hu
theorem of_slC {w : World} {g o c : Nat} {l : List Col} (h : C.SlC w g o l) (hc : l.length ≤ c) : SlE 7 C.encC w (.slice (some ⟨g, o, none⟩) l.length c) l :=
  ⟨_, c, rfl, hc, fun _ => ⟨g, o, rfl, h.1, fun j x hj i u hu => h.2 j (lt_of_some hj) i u (by rw [getElem!_pos l j (lt_of_some hj)]; rw [List.getElem?_eq_getElem (lt_of_some hj)] at hj; injection hj with hj; rw [hj]; exact hu)⟩⟩
theorem cells7 {w : World} {b off : Nat} {l : List Col} (h : ∀ (j : Nat) x, l[j]? = some x → ∀ (i : Nat) u, (C.encC x)[i]? = some u → w.cell? ⟨b, off + j * 7 + i, none⟩ = some u) {k : Nat} {c1 : Int} {c2 : ByteArray} {c3 : Int} {c4 : Bool} {c5 c6 : Int} {c7 : ByteArray} (e : l[k]? = some (c1, c2, c3, c4, c5, c6, c7)) :
    w.cell? ⟨b, off + k * 7, none⟩ = some (.int .i64 c1) ∧ w.cell? ⟨b, off + k * 7 + 1, none⟩ = some (.string c2) ∧ w.cell? ⟨b, off + k * 7 + 2, none⟩ = some (.int .i64 c3) ∧ w.cell? ⟨b, off + k * 7 + 3, none⟩ = some (.bool c4) ∧ w.cell? ⟨b, off + k * 7 + 4, none⟩ = some (.int .i64 c5) ∧ w.cell? ⟨b, off + k * 7 + 5, none⟩ = some (.int .i64 c6) ∧ w.cell? ⟨b, off + k * 7 + 6, none⟩ = some (.string c7) :=
  ⟨h k _ e 0 _ rfl, h k _ e 1 _ rfl, h k _ e 2 _ rfl, h k _ e 3 _ rfl, h k _ e 4 _ rfl, h k _ e 5 _ rfl, h k _ e 6 _ rfl⟩
theorem b2c {w w1 : World} {X Y : Obj} (hb : Below ((w.alloc X).alloc Y).heap.size ((w.alloc X).alloc Y) w1) : Below w.heap.size w w1 := ups (S.below_a2 w X Y) hb
theorem b3 (w : World) (X Y Z : Obj) : Below w.heap.size w (((w.alloc X).alloc Y).alloc Z) := (S.below_a2 w X Y).alloc (by simp; omega) _
theorem b3c {w w1 : World} {X Y Z : Obj} (hb : Below (((w.alloc X).alloc Y).alloc Z).heap.size (((w.alloc X).alloc Y).alloc Z) w1) : Below w.heap.size w w1 := ups (b3 w X Y Z) hb
end Go.Proofs.YtlnkbhbpkmnkaaaGreatDoor.F
namespace Go.Proofs.YtlnkbhbpkmnkaaaGreatDoor.F
open Go.RowKit Go.Proofs Go.Shelf Go.Joins

def posI (cols : List Col) (id : Int) : Int := if pos cols id < cols.length then (pos cols id : Int) else -1
theorem idx_pos (id : Int) : ∀ (l : List Col) (i : Nat), Lib.idxByFrom (fun (_ : Col) (y : Col) => y.1 == id) default l i = if (ids l).idxOf id < l.length then ((i + (ids l).idxOf id : Nat) : Int) else -1
  | [], i => by simp [Lib.idxByFrom, ids]
  | c :: l, i => by
    have ih := idx_pos id l (i + 1)
    have e : ids (c :: l) = c.1 :: ids l := rfl
    rw [e, List.idxOf_cons, Lib.idxByFrom]
    by_cases h : c.1 = id
    · rw [beq_iff_eq.2 h]; simp
    · rw [beq_eq_false_iff_ne.2 h, ih]
      simp only [Bool.false_eq_true, if_false, cond_false, List.length_cons, Nat.add_lt_add_iff_right]
      split
      · congr 1; omega
      · rfl
theorem idx_posI (cols : List Col) (id : Int) : Lib.idxBy (fun (_ : Col) (y : Col) => y.1 == id) cols default = posI cols id := by
  unfold Lib.idxBy posI pos
  rw [idx_pos]
  simp
def sumTo (gs : List Grp) (k : Nat) : Nat := ((gs.take k).map (·.1)).sum
theorem sumTo_next {gs : List Grp} {k : Nat} {g : Grp} (h : gs[k]? = some g) : sumTo gs (k + 1) = sumTo gs k + g.1 := by
  unfold sumTo; rw [E.take_next h]; simp
theorem sumTo_le {gs : List Grp} (hg : ∀ g ∈ gs, g.1 ≤ 6) : ∀ k, sumTo gs k ≤ 6 * k
  | 0 => by simp [sumTo]
  | k + 1 => by
    have ih := sumTo_le hg k
    cases h : gs[k]? with
    | none =>
      have hl : gs.length ≤ k := by
        rcases Nat.lt_or_ge k gs.length with h' | h'
        · rw [List.getElem?_eq_getElem h'] at h; cases h
        · exact h'
      have : sumTo gs (k + 1) = sumTo gs k := by unfold sumTo; rw [List.take_of_length_le (by omega), List.take_of_length_le hl]
      omega
    | some g => rw [sumTo_next h]; have := hg g (List.mem_of_getElem? h); omega
end Go.Proofs.YtlnkbhbpkmnkaaaGreatDoor.F
namespace Go.Proofs.YtlnkbhbpkmnkaaaGreatDoor.F
open Go.RowKit Go.Proofs Go.Shelf Go.Joins

/-- Two new blocks. -/
theorem two_new (w : World) (X Y : Obj) : ((w.alloc X).alloc Y).heap.size = w.heap.size + 2 ∧ ((w.alloc X).alloc Y).heap[w.heap.size]? = some X ∧ ((w.alloc X).alloc Y).heap[w.heap.size + 1]? = some Y ∧ Below w.heap.size w ((w.alloc X).alloc Y) := by
  refine ⟨by simp, ?_, ?_, S.below_a2 w X Y⟩
  · exact (Below.heap_alloc _ _ _ (by simp)).trans (heap_alloc_new _ _)
  · have := heap_alloc_new (w.alloc X) Y
    rwa [World.size_alloc] at this
theorem row3 {W : World} {b : Nat} {x y z : Value} {T : TypeId} (h : W.heap[b]? = some (.cells #[x, y, z] T)) : W.cell? ⟨b, 0, none⟩ = some x ∧ W.cell? ⟨b, 1, none⟩ = some y ∧ W.cell? ⟨b, 2, none⟩ = some z ∧ W.frozen? ⟨b, 0, none⟩ = false ∧ W.frozen? ⟨b, 1, none⟩ = false ∧ W.frozen? ⟨b, 2, none⟩ = false := by
  refine ⟨by simp [World.cell?, h], by simp [World.cell?, h], by simp [World.cell?, h], frozen_of_row W b 0 _ T h, frozen_of_row W b 1 _ T h, frozen_of_row W b 2 _ T h⟩
theorem row2 {W : World} {b : Nat} {x y : Value} {T : TypeId} (h : W.heap[b]? = some (.cells #[x, y] T)) : W.cell? ⟨b, 0, none⟩ = some x ∧ W.cell? ⟨b, 1, none⟩ = some y := by
  refine ⟨by simp [World.cell?, h], by simp [World.cell?, h]⟩
end Go.Proofs.YtlnkbhbpkmnkaaaGreatDoor.F
namespace Go.Proofs.YtlnkbhbpkmnkaaaGreatDoor.F
open Go.RowKit Go.Proofs Go.Shelf Go.Joins

theorem three_new (w : World) (X Y Z : Obj) : (((w.alloc X).alloc Y).alloc Z).heap.size = w.heap.size + 3 ∧ (((w.alloc X).alloc Y).alloc Z).heap[w.heap.size]? = some X ∧ (((w.alloc X).alloc Y).alloc Z).heap[w.heap.size + 1]? = some Y ∧ (((w.alloc X).alloc Y).alloc Z).heap[w.heap.size + 2]? = some Z ∧ Below w.heap.size w (((w.alloc X).alloc Y).alloc Z) := by
  obtain ⟨h1, h2, h3, h4⟩ := two_new w X Y
  refine ⟨by simp, ?_, ?_, ?_, b3 w X Y Z⟩
  · exact (Below.heap_alloc _ _ _ (by omega)).trans h2
  · exact (Below.heap_alloc _ _ _ (by omega)).trans h3
  · have := heap_alloc_new ((w.alloc X).alloc Y) Z
    rwa [h1] at this
theorem posI_of {cols : List Col} {id : Int} (h : pos cols id < cols.length) : posI cols id = (pos cols id : Int) := by unfold posI; rw [if_pos h]
theorem cell_up {w W : World} (hb : Below w.heap.size w W) {b o : Nat} {v : Value} (h : w.cell? ⟨b, o, none⟩ = some v) : W.cell? ⟨b, o, none⟩ = some v := (hb.cell (p := ⟨b, o, none⟩) (World.block_lt_of_cell? w ⟨b, o, none⟩ h)).trans h

end Go.Proofs.YtlnkbhbpkmnkaaaGreatDoor.F
namespace Go.Proofs.YtlnkbhbpkmnkaaaGreatDoor.F
open Go.RowKit Go.Proofs Go.Shelf Go.Joins

/-- Rows L lie by the slices vs, which lie in block R; no two have one block. -/
structure RI (B R : Nat) (W : World) (vs : List Value) (L : List (List V)) : Prop where
  len : vs.length = L.length
  row : W.ownsRow B 35 1 (.slice (some ⟨R, 0, none⟩) L.length L.length) L.length vs
  each : ∀ (i : Nat) v l, vs[i]? = some v → L[i]? = some l → W.ownsRow B 29 3 v l.length (E.flatV l)
  dis : ∀ (i j : Nat) v u, i ≠ j → vs[i]? = some v → vs[j]? = some u → ∀ q, v.ownBlock = some q → u.ownBlock ≠ some q
theorem RI.kept {B R : Nat} {W W' : World} {vs : List Value} {L : List (List V)} (h : RI B R W vs L) (hb : Below W.heap.size W W') : RI B R W' vs L :=
  ⟨h.len, E.ownsRow_up h.row hb, fun i v l hv hl => E.ownsRow_up (h.each i v l hv hl) hb, h.dis⟩
theorem RI.slots {B R : Nat} {W : World} {vs : List Value} {L : List (List V)} (h : RI B R W vs L) {i : Nat} {v : Value} {l : List V} (hv : vs[i]? = some v) (hl : L[i]? = some l) : W.cell? ⟨R, i, none⟩ = some v ∧ W.frozen? ⟨R, i, none⟩ = false ∧ R < W.heap.size ∧ B ≤ R ∧ ∃ a c, v = .slice a l.length c := by
  have hi := lt_of_some hl
  refine ⟨(h.row.cellAt i (by omega)).trans hv, h.row.frozenAt i, (h.row.lt R rfl).2, (h.row.lt R rfl).1, ?_⟩
  obtain ⟨a, c, e, _⟩ := E.ownsRow_slice (h.each i v l hv hl)
  exact ⟨a, c, e⟩
theorem RI.ne {B R : Nat} {W : World} {vs : List Value} {L : List (List V)} (h : RI B R W vs L) {i : Nat} {v : Value} {l : List V} (hv : vs[i]? = some v) (hl : L[i]? = some l) : some R ≠ v.ownBlock := by
  intro e
  rcases (h.each i v l hv hl).2 with ⟨rfl, _⟩ | ⟨g, cap, cur, rfl, _, hh, _⟩
  · cases e
  · injection e with e
    subst e
    rcases h.row.2 with ⟨h', _⟩ | ⟨g', cap', cur', h', _, hh', _⟩
    · cases h'
    · injection h' with h1 _ _
      injection h1 with h1
      injection h1 with h1 _ _
      subst h1
      rw [hh] at hh'
      injection hh' with hh'
      injection hh' with _ hh' _
      exact absurd hh' (by decide)
theorem RI.step {B R : Nat} {W W' : World} {vs : List Value} {L : List (List V)} (h : RI B R W vs L) {i : Nat} {v : Value} {l : List V} {x : V} (hv : vs[i]? = some v) (hl : L[i]? = some l) {g cap : Nat}
    (ho : W'.ownsRow B 29 3 (.slice (some ⟨g, 0, none⟩) (l.length + 1) cap) (l.length + 1) (E.flatV l ++ E.flatV [x])) (hg : W.grownBy W' v.ownBlock) (hat : v.ownBlock = some g ∨ W.heap.size ≤ g) :
    RI B R (W'.setCell ⟨R, i, none⟩ (.slice (some ⟨g, 0, none⟩) (l.length + 1) cap)) (vs.set i (.slice (some ⟨g, 0, none⟩) (l.length + 1) cap)) (L.set i (l ++ [x])) := by
  have hi := lt_of_some hl
  have hrow' : W'.ownsRow B 35 1 (.slice (some ⟨R, 0, none⟩) L.length L.length) L.length vs := E.ownsRow_other h.row (h.each i v l hv hl) (by decide) hg
  obtain ⟨s1, s2⟩ := hrow'.stored i (.slice (some ⟨g, 0, none⟩) (l.length + 1) cap)
  have own : (Value.slice (some ⟨g, 0, none⟩) (l.length + 1) cap).ownBlock = some g := rfl
  refine ⟨by simp [h.len], by rw [List.length_set]; exact s1, fun j u m hu hm => ?_, fun j j' u u' hne hu hu' q hq => ?_⟩
  · by_cases e : j = i
    · subst e
      rw [List.getElem?_set_self (by rw [h.len]; exact hi)] at hu
      rw [List.getElem?_set_self hi] at hm
      injection hu with hu
      injection hm with hm
      subst hu hm
      rw [List.length_append, List.length_singleton, E.flatV_app]
      exact E.ownsRow_other ho hrow' (by decide) s2
    · rw [List.getElem?_set_ne (fun x => e x.symm)] at hu hm
      have h1 := h.each j u m hu hm
      have h2 : W'.ownsRow B 29 3 u m.length (E.flatV m) := by
        refine h1.kept hg ?_
        cases hub : u.ownBlock with
        | none => exact .inl rfl
        | some q => exact .inr (fun x => h.dis j i u v e hu hv q hub x.symm)
      exact E.ownsRow_other h2 hrow' (by decide) s2
  · by_cases e : j = i
    · subst e
      rw [List.getElem?_set_self (by rw [h.len]; exact hi)] at hu
      rw [List.getElem?_set_ne hne] at hu'
      injection hu with hu
      subst hu
      rw [own] at hq
      injection hq with hq
      subst hq
      rcases hat with ha | ha
      · exact h.dis j j' v u' hne hv hu' g ha
      · intro hx
        have hj' := lt_of_some hu'
        obtain ⟨m, hm⟩ : ∃ m, L[j']? = some m := ⟨_, List.getElem?_eq_getElem (by rw [← h.len]; exact hj')⟩
        have := ((h.each j' u' m hu' hm).lt g hx).2
        omega
    · rw [List.getElem?_set_ne (fun x => e x.symm)] at hu
      by_cases e' : j' = i
      · subst e'
        rw [List.getElem?_set_self (by rw [h.len]; exact hi)] at hu'
        injection hu' with hu'
        subst hu'
        rw [own]
        intro hx
        injection hx with hx
        subst hx
        rcases hat with ha | ha
        · exact h.dis j j' u v hne hu hv g hq ha
        · obtain ⟨m, hm⟩ : ∃ m, L[j]? = some m := ⟨_, List.getElem?_eq_getElem (by rw [← h.len]; exact lt_of_some hu)⟩
          have := ((h.each j u m hu hm).lt g hq).2
          omega
      · rw [List.getElem?_set_ne (fun x => e' x.symm)] at hu'
        exact h.dis j j' u u' hne hu hu' q hq
theorem flatR (vs : List Value) : vs.flatMap encR = vs := by
  induction vs with
  | nil => rfl
  | cons v vs ih => rw [List.flatMap_cons, ih]; rfl
theorem RI.rows {B R : Nat} {W : World} {vs : List Value} {L : List (List V)} (h : RI B R W vs L) : SlR W (.slice (some ⟨R, 0, none⟩) L.length L.length) L := by
  refine ⟨vs, ?_, h.len, fun j x r hx hr => E.Sl_of_owns (h.each j x r hx hr)⟩
  have hr := h.row
  rw [← flatR vs] at hr
  exact SlE.of_own (k := 1) (enc := encR) (fun _ => rfl) hr h.len.symm
/-- Rows in memory of somebody's own: the row of slices from base B on, each a row of values. -/
def SlO (B : Nat) (w : World) (v : Value) (rows : List (List V)) : Prop := ∃ vs : List Value, vs.length = rows.length ∧ w.ownsRow B 35 1 v rows.length vs ∧ ∀ (j : Nat) x r, vs[j]? = some x → rows[j]? = some r → w.ownsRow 0 29 3 x r.length (E.flatV r)
theorem SlO.up {B : Nat} {w W : World} {v : Value} {rows : List (List V)} (h : SlO B w v rows) (hb : Below w.heap.size w W) : SlO B W v rows := by
  obtain ⟨vs, h1, h2, h3⟩ := h
  exact ⟨vs, h1, E.ownsRow_up h2 hb, fun j x r hx hr => E.ownsRow_up (h3 j x r hx hr) hb⟩
theorem SlO.slr {B : Nat} {w : World} {v : Value} {rows : List (List V)} (h : SlO B w v rows) : SlR w v rows := by
  obtain ⟨vs, h1, h2, h3⟩ := h
  refine ⟨vs, ?_, h1, fun j x r hx hr => E.Sl_of_owns (h3 j x r hx hr)⟩
  rw [← flatR vs] at h2
  exact SlE.of_own (k := 1) (enc := encR) (fun _ => rfl) h2 h1.symm
theorem SlO.one {B : Nat} {w : World} {rows : List (List V)} {vs : List Value} (h1 : vs.length = rows.length) (h3 : ∀ (j : Nat) x r, vs[j]? = some x → rows[j]? = some r → w.ownsRow B 29 3 x r.length (E.flatV r)) : ∀ u ∈ vs, u.oneCell' = true := by
  intro u hu
  obtain ⟨j, hj, rfl⟩ := List.getElem_of_mem hu
  obtain ⟨a, c, e, _⟩ := E.ownsRow_slice (h3 j _ _ (List.getElem?_eq_getElem hj) (List.getElem?_eq_getElem (by omega)))
  rw [e]; rfl
theorem RI.owned {B R : Nat} {W : World} {vs : List Value} {L : List (List V)} (h : RI B R W vs L) : SlO 0 W (.slice (some ⟨R, 0, none⟩) L.length L.length) L :=
  ⟨vs, h.len, E.ownsRow_base h.row (Nat.zero_le _), fun j x r hx hr => E.ownsRow_base (h.each j x r hx hr) (Nat.zero_le _)⟩
/-- Rows behind rows. -/
theorem SlO.app {B : Nat} {w w' : World} {v v' : Value} {a b : List (List V)} {vs us : List Value} (h1 : vs.length = a.length) (h2 : us.length = b.length)
    (ho : w.ownsRow B 35 1 v a.length vs) (hva : ∀ (j : Nat) x r, vs[j]? = some x → a[j]? = some r → w.ownsRow 0 29 3 x r.length (E.flatV r)) (hub : ∀ (j : Nat) x r, us[j]? = some x → b[j]? = some r → w.ownsRow 0 29 3 x r.length (E.flatV r))
    (ho' : w'.ownsRow B 35 1 v' (a.length + b.length) (vs ++ us)) (hg : w.grownBy w' v.ownBlock) : SlO B w' v' (a ++ b) := by
  refine ⟨vs ++ us, by simp [h1, h2], by rw [List.length_append]; exact ho', fun j x r hx hr => ?_⟩
  by_cases hj : j < a.length
  · rw [List.getElem?_append_left (by omega)] at hx
    rw [List.getElem?_append_left hj] at hr
    exact E.ownsRow_other (hva j x r hx hr) ho (by decide) hg
  · rw [List.getElem?_append_right (by omega), h1] at hx
    rw [List.getElem?_append_right (by omega)] at hr
    exact E.ownsRow_other (hub _ x r hx hr) ho (by decide) hg
theorem SlO_nil (B : Nat) (w : World) : SlO B w (.slice none 0 0) [] := ⟨[], rfl, World.ownsRow_nil _ _ _ _, fun j x r hx => by simp at hx⟩
/-- The first i rows have one column more. -/
def mixR (vals : Col → List V) (now : List Col) (n j i : Nat) : List (List V) := (List.range n).map fun m => (now.take (if m < i then j + 1 else j)).map fun c => (vals c)[m]?.getD zV
theorem mixR_len (vals : Col → List V) (now : List Col) (n j i : Nat) : (mixR vals now n j i).length = n := by simp [mixR]
theorem mixR_zero (vals : Col → List V) (now : List Col) (n : Nat) : mixR vals now n 0 0 = List.replicate n [] := by
  rw [List.eq_replicate_iff]
  refine ⟨mixR_len _ _ _ _ _, fun b hb => ?_⟩
  simp only [mixR, List.mem_map] at hb
  obtain ⟨m, _, rfl⟩ := hb
  simp
theorem mixR_next (vals : Col → List V) (now : List Col) (n j : Nat) : mixR vals now n j n = mixR vals now n (j + 1) 0 := by
  unfold mixR
  apply List.map_congr_left
  intro m hm
  rw [List.mem_range] at hm
  simp [hm]
theorem mixR_at (vals : Col → List V) (now : List Col) {n j i : Nat} (hi : i < n) : (mixR vals now n j i)[i]? = some ((now.take j).map fun c => (vals c)[i]?.getD zV) := by
  simp [mixR, hi]
theorem mixR_set (vals : Col → List V) {now : List Col} {n j i : Nat} {c : Col} {x : V} (hi : i < n) (hc : now[j]? = some c) (hx : (vals c)[i]? = some x) :
    (mixR vals now n j i).set i (((now.take j).map fun c => (vals c)[i]?.getD zV) ++ [x]) = mixR vals now n j (i + 1) := by
  apply List.ext_getElem?
  intro m
  by_cases hm : m < n
  · by_cases e : m = i
    · subst e
      rw [List.getElem?_set_self (by rw [mixR_len]; exact hi)]
      simp only [mixR, List.getElem?_map, List.getElem?_range hm, Option.map_some, Nat.lt_succ_self, if_true]
      rw [E.take_next hc]
      simp [hx]
    · rw [List.getElem?_set_ne (fun y => e y.symm)]
      simp only [mixR, List.getElem?_map, List.getElem?_range hm, Option.map_some]
      congr 2
      by_cases h : m < i
      · rw [if_pos h, if_pos (by omega)]
      · rw [if_neg h, if_neg (by omega)]
  · rw [List.getElem?_eq_none (by rw [List.length_set, mixR_len]; omega), List.getElem?_eq_none (by rw [mixR_len]; omega)]
theorem mixR_all (cols : List Col) (g : Grp) (now : List Col) : mixR (valsOf cols g) now g.1 now.length 0 = rowsBy cols g now := by
  unfold mixR rowsBy
  simp
theorem RI_made {B R n : Nat} {W : World} (h : W.ownsRow B 35 1 (.slice (some ⟨R, 0, none⟩) n n) n (List.replicate n (.slice none 0 0))) : RI B R W (List.replicate n (.slice none 0 0)) (List.replicate n []) := by
  refine ⟨by simp, by rw [List.length_replicate]; exact h, fun i v l hv hl => ?_, fun i j v u _ hv _ q hq => ?_⟩
  · have e1 : v = .slice none 0 0 := List.eq_of_mem_replicate (List.mem_of_getElem? hv)
    have e2 : l = [] := List.eq_of_mem_replicate (List.mem_of_getElem? hl)
    subst e1 e2
    exact World.ownsRow_nil _ _ _ _
  · have e1 : v = .slice none 0 0 := List.eq_of_mem_replicate (List.mem_of_getElem? hv)
    subst e1
    cases hq
end Go.Proofs.YtlnkbhbpkmnkaaaGreatDoor.F
namespace Go.Proofs.YtlnkbhbpkmnkaaaGreatDoor.F
open Go.RowKit Go.Proofs Go.Shelf Go.Joins

def ReadPost (r : Option (List (List V))) (w : World) (e : Ending) (w' : World) : Prop := match r with
  | none => e = .returned (.tuple #[.slice none 0 0, .iface 89 (.int .i64 2)]) ∧ Below w.heap.size w w'
  | some rows => ∃ v', e = .returned (.tuple #[v', .nilIface]) ∧ SlO 0 w' v' rows ∧ Below w.heap.size w w'
theorem infoSl : (Tryz.prog.info? 35).map (fun i => (i.zero, i.size, i.bytes)) = some (some (.slice none 0 0), 1, 24) := by kernel_rfl
theorem madeSl (n : Nat) : (madeCells (#[.slice none 0 0] : Array Value) n).toList = List.replicate n (.slice none 0 0) := by
  apply List.ext_getElem?
  intro j
  by_cases h : j < n
  · have hj : j % 1 = 0 := by omega
    simp [madeCells, h, hj]
  · simp [madeCells, h]
theorem readG_no {cols now : List Col} {g : Grp} {c : Col} (hc : c ∈ now) (h : (valsOf cols g c).length ≠ g.1) : readG cols g now = none := by
  unfold readG
  have : now.all (fun c => (valsOf cols g c).length == g.1) = false := by
    rw [List.all_eq_false]
    exact ⟨c, hc, by simpa using h⟩
  rw [this]; simp
theorem readG_yes {cols now : List Col} {g : Grp} (hw : wholeG cols g = true) (h : ∀ c ∈ now, (valsOf cols g c).length = g.1) : readG cols g now = some (rowsBy cols g now) := by
  unfold readG
  have : now.all (fun c => (valsOf cols g c).length == g.1) = true := by
    rw [List.all_eq_true]
    exact fun c hc => by simpa using h c hc
  rw [this, hw]; simp
theorem valsOf_in {cols : List Col} {n : Nat} {st : List S.St} {bs : List (List UInt8)} {c : Col} (h : pos cols c.1 < cols.length) : valsOf cols (n, st, bs) c = (E.decR (kd (cols[pos cols c.1]?.getD zC)) (bs[pos cols c.1]?.getD [])).getD [] := by
  unfold valsOf; rw [if_pos h]
/-- What stays of a slice of values of one's own beside rows that are built. -/
def Apt (v : Value) (vs : List Value) : Prop := ∀ (i : Nat) u, vs[i]? = some u → ∀ q, u.ownBlock = some q → v.ownBlock ≠ some q
theorem Apt.step {v : Value} {vs : List Value} {i : Nat} {u : Value} {g n cap H : Nat} (h : Apt v vs) (hu : vs[i]? = some u) (hat : u.ownBlock = some g ∨ H ≤ g) (hv : ∀ q, v.ownBlock = some q → q < H) : Apt v (vs.set i (.slice (some ⟨g, 0, none⟩) n cap)) := by
  intro j x hx q hq
  by_cases e : j = i
  · subst e
    rw [List.getElem?_set_self (lt_of_some hu)] at hx
    injection hx with hx
    subst hx
    injection hq with hq
    subst hq
    rcases hat with ha | ha
    · exact h j u hu g ha
    · intro hvg
      have := hv g hvg
      omega
  · rw [List.getElem?_set_ne (fun y => e y.symm)] at hx
    exact h j x hx q hq

end Go.Proofs.YtlnkbhbpkmnkaaaGreatDoor.F
