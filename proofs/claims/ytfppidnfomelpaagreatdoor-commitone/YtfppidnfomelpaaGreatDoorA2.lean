/- What log.rising and log.anyOf do, said of every call (the calls themselves). -/
import Derived.Test.YtfppidnfomelpaaGreatDoorW6
import Derived.Test.YtfppidnfomelpaaGreatDoorLM
namespace Go.Proofs.YtfppidnfomelpaaGreatDoor
open Go.RowKit Go.Proofs Go.Lib Go.Joins

/-- Numbers l lie where v says, nil or not. -/
def LiI (W : World) (v : Value) (l : List Int) : Prop := ((∃ a c, v = .slice a 0 c) ∧ l = []) ∨ ∃ g o c, v = .slice (some ⟨g, o, none⟩) l.length c ∧ g < W.heap.size ∧ l.length ≤ c ∧ ∀ j, j < l.length → W.cell? ⟨g, o + j, none⟩ = some (.int .i64 l[j]!)
theorem LiI.below {w W : World} {v : Value} {l : List Int} (h : LiI w v l) (hb : Below w.heap.size w W) : LiI W v l := by
  rcases h with h | ⟨g, o, c, h1, h2, h3, h4⟩
  · exact .inl h
  · exact .inr ⟨g, o, c, h1, Nat.lt_of_lt_of_le h2 hb.size, h3, fun j hj => (hb.cell (p := ⟨g, o + j, none⟩) h2).trans (h4 j hj)⟩

set_option maxHeartbeats 1000000 in
theorem rising1_any (x last rows : Int) (B R : Nat) (W : World) (hB : W.cell? ⟨B, 0, none⟩ = some (.int .i64 last)) (hf : W.frozen? ⟨B, 0, none⟩ = false) (hR : W.cell? ⟨R, 0, none⟩ = some (.int .i64 rows)) :
    Calls Tryz.prog 86 #[.int .i64 x, .pointer (some ⟨B, 0, none⟩), .pointer (some ⟨R, 0, none⟩)] W fun e w' => e = .returned (.bool (decide (x ≤ last) || decide (rows ≤ x))) ∧ w' = W.setCell ⟨B, 0, none⟩ (.int .i64 x) := by
  by_cases h1 : x ≤ last <;> by_cases h2 : rows ≤ x
  all_goals
    go_enter Tryz.func86, Tryz.ntmps86
    go_wp2
    all_goals
      go_ret
      exact ⟨ret_bool (by simp [h1, h2]), rfl⟩

def lastAt (zs : List Int) : Nat → Int
  | 0 => -1
  | k + 1 => zs[k]!
def RisePost (b0 : Nat) (w : World) (rows : Int) (zs : List Int) (e : Ending) (w' : World) : Prop := ∃ r : Int, e = .returned (.int .i64 r) ∧ decide (0 ≤ r) = !(risesB rows (-1) zs) ∧ Below b0 w w'
theorem rises_drop {rows : Int} {zs : List Int} {k : Nat} (hk : k < zs.length) (last : Int) : risesB rows last (zs.drop k) = (!(decide (zs[k]! ≤ last) || decide (rows ≤ zs[k]!)) && risesB rows zs[k]! (zs.drop (k + 1))) := by
  rw [List.drop_eq_getElem_cons hk, getElem!_pos zs k hk]
  rfl

set_option maxHeartbeats 4000000 in
set_option maxRecDepth 100000 in
theorem risingIdx_any (b0 B R g o c : Nat) (zs : List Int) (rows : Int) (w : World) (hg : g < b0) (hgo : ∀ j, j < zs.length → w.cell? ⟨g, o + j, none⟩ = some (.int .i64 zs[j]!)) (hn : zs.length ≤ maxLen) (hB0 : b0 ≤ B) (hRB : B ≠ R)
    (hB : w.cell? ⟨B, 0, none⟩ = some (.int .i64 (-1))) (hf : w.frozen? ⟨B, 0, none⟩ = false) (hR : w.cell? ⟨R, 0, none⟩ = some (.int .i64 rows)) :
    Calls Tryz.prog 114 #[.slice (some ⟨g, o, none⟩) zs.length c, .func (.func 86) #[] #[.pointer (some ⟨B, 0, none⟩), .pointer (some ⟨R, 0, none⟩)]] w (RisePost b0 w rows zs) := by
  have eg : ∀ args w, (callFunc 86 args).run Tryz.prog w = .ok (.enter 86 args) w := enters_of Tryz.func86 (by kernel_rfl) rfl
  have HG := mkH hgo
  have HB := mkH hB
  have HF := mkH hf
  have HR := mkH hR
  clear hgo hB hf hR
  unfold maxLen at hn
  go_enter Tryz.func114, Tryz.ntmps114
  go_wp2
  go_loopg [5, 8] zs.length (fun gg _ s8 wr => ∃ kk : Nat, kk ≤ zs.length ∧ zs.length - kk ≤ gg ∧ s8 = .int .i64 kk ∧ Aside (Below b0 w wr) ∧ Aside (wr.cell? ⟨B, 0, none⟩ = some (.int .i64 (lastAt zs kk))) ∧ Aside (wr.frozen? ⟨B, 0, none⟩ = false) ∧ Aside (wr.cell? ⟨R, 0, none⟩ = some (.int .i64 rows)) ∧ Aside (risesB rows (-1) zs = risesB rows (lastAt zs kk) (zs.drop kk)))
  case atStart => exact ⟨0, Nat.zero_le _, by omega, rfl, Below.refl _ _, HB.out, HF.out, HR.out, (show Aside _ from (by rw [List.drop_zero]; rfl : risesB rows (-1) zs = risesB rows (lastAt zs 0) (zs.drop 0)))⟩
  case round =>
    obtain ⟨kk, hkk, hgg, rfl, BW, CB, CF, CR, RR⟩ := hrel
    by_cases hlt : kk < zs.length
    · have hltz : (kk : Int) < (zs.length : Int) := by omega
      have hcell : wr.cell? ⟨g, o + kk, none⟩ = some (.int .i64 zs[kk]!) := (BW.out.cell (p := ⟨g, o + kk, none⟩) hg).trans (HG.out kk hlt)
      have RD := mkH (rises_drop (rows := rows) hlt (lastAt zs kk))
      have LA : Hid (lastAt zs (kk + 1) = zs[kk]!) := rfl
      have hcall := rising1_any zs[kk]! (lastAt zs kk) rows B R wr CB.out CF.out CR.out
      generalize zs[kk]! = y at hcell hcall RD LA
      have HL := mkH hcall
      clear hcall
      cases hq : (decide (y ≤ lastAt zs kk) || decide (rows ≤ y)) with
      | true =>
        rw [hq] at HL RD
        go_wp2_with (go_at_fn 86; refine HL.out.mono ?_; rintro e w' ⟨rfl, rfl⟩)
        go_ret
        refine ⟨_, rfl, ?_, BW.out.setCell (p := ⟨B, 0, none⟩) hB0 _⟩
        rw [RR.out, RD.out]
        simp
      | false =>
        rw [hq] at HL RD
        go_wp2_with (go_at_fn 86; refine HL.out.mono ?_; rintro e w' ⟨rfl, rfl⟩)
        go_roundg (zs.length - (kk + 1))
        case measure => omega
        case rel =>
          refine ⟨kk + 1, by omega, by omega, by go_num, BW.out.setCell (p := ⟨B, 0, none⟩) hB0 _, ?_, ?_, ?_, ?_⟩
          · rw [LA.out]; exact World.cell?_setCell_same' _ _ _ (by rw [CB.out]; rfl)
          · show World.frozen? _ _ = false
            rw [World.frozen?_setCell]; exact CF.out
          · exact (World.cell?_setCell_other _ _ _ _ (fun e => hRB (by cases e; rfl))).trans CR.out
          · show _ = _
            rw [RR.out, RD.out, LA.out]; rfl
    · have hltz : ¬ (kk : Int) < (zs.length : Int) := by omega
      have : kk = zs.length := by omega
      subst this
      go_wp2
      go_ret
      refine ⟨_, rfl, ?_, BW.out⟩
      rw [RR.out]
      simp [risesB]
end Go.Proofs.YtfppidnfomelpaaGreatDoor

namespace Go.Proofs.YtfppidnfomelpaaGreatDoor
open Go.RowKit Go.Proofs Go.Lib Go.Joins

set_option maxHeartbeats 1000000 in
theorem risingHas_any (b0 B R g o c : Nat) (zs : List Int) (rows : Int) (w : World) (hg : g < b0) (hgo : ∀ j, j < zs.length → w.cell? ⟨g, o + j, none⟩ = some (.int .i64 zs[j]!)) (hn : zs.length ≤ maxLen) (hB0 : b0 ≤ B) (hRB : B ≠ R)
    (hB : w.cell? ⟨B, 0, none⟩ = some (.int .i64 (-1))) (hf : w.frozen? ⟨B, 0, none⟩ = false) (hR : w.cell? ⟨R, 0, none⟩ = some (.int .i64 rows)) :
    Calls Tryz.prog 85 #[.slice (some ⟨g, o, none⟩) zs.length c, .func (.func 86) #[] #[.pointer (some ⟨B, 0, none⟩), .pointer (some ⟨R, 0, none⟩)]] w fun e w' => e = .returned (.bool (!(risesB rows (-1) zs))) ∧ Below b0 w w' := by
  have H := mkH (risingIdx_any b0 B R g o c zs rows w hg hgo hn hB0 hRB hB hf hR)
  clear hgo hB hf hR
  go_enter Tryz.func85, Tryz.ntmps85
  go_wp2_with (go_at_call 114; refine H.out.mono ?_; rintro e w1 ⟨r, rfl, hr, hb1⟩)
  go_ret
  exact ⟨ret_bool (by rw [← hr]), hb1⟩

set_option maxHeartbeats 1000000 in
theorem rising_any (v : Value) (l : List Int) (rows : Int) (w : World) (h : LiI w v l) (hn : l.length ≤ maxLen) :
    Calls Tryz.prog 53 #[v, .int .i64 rows] w fun e w' => e = .returned (.bool (risingB l rows)) ∧ Below w.heap.size w w' := by
  rcases h with ⟨⟨_, _, rfl⟩, rfl⟩ | ⟨g, o, c, rfl, hg, hc, hcell⟩
  · go_enter Tryz.func53, Tryz.ntmps53
    go_wp2
    all_goals (go_ret; exact ⟨ret_bool (by simp [risingB]), (((Below.refl _ _).alloc (Nat.le_refl _) _).alloc (by simp) _)⟩)
  · by_cases h0 : 0 < l.length
    · have hz : 0 < (l.length : Int) := by omega
      have HR : Hid ((!(!(risesB rows (-1) l))) = risingB l rows) := by simp [Hid, risingB, h0]
      obtain ⟨W2, hW2⟩ : ∃ W2, W2 = (w.alloc (.cells #[.int .i64 rows] 3)).alloc (.cells #[.int .i64 (-1)] 3) := ⟨_, rfl⟩
      have B2 : Hid (Below w.heap.size w W2) := by rw [hW2]; exact ((Below.refl _ _).alloc (Nat.le_refl _) _).alloc (by simp) _
      have HC : Hid (Calls Tryz.prog 85 #[.slice (some ⟨g, o, none⟩) l.length c, .func (.func 86) #[] #[.pointer (some ⟨w.heap.size + 1, 0, none⟩), .pointer (some ⟨w.heap.size, 0, none⟩)]] W2 fun e w' => e = .returned (.bool (!(risesB rows (-1) l))) ∧ Below w.heap.size W2 w') := by
        refine risingHas_any w.heap.size (w.heap.size + 1) w.heap.size g o c l rows W2 hg (fun j hj => (B2.out.cell (p := ⟨g, o + j, none⟩) hg).trans (hcell j hj)) hn (by omega) (by omega) ?_ ?_ ?_
        · rw [hW2, World.cell?_alloc_at _ _ _ _ (by simp)]; rfl
        · rw [hW2]; exact World.frozen?_alloc_at _ _ _ _ (by simp)
        · rw [hW2]; exact cell?_alloc_some _ (by rw [World.cell?_alloc_at _ _ _ _ rfl]; rfl)
      have HW := mkH hW2
      clear hW2 hcell
      generalize risesB rows (-1) l = r at HC HR
      generalize risingB l rows = r2 at HR ⊢
      go_enter Tryz.func53, Tryz.ntmps53
      go_wp2_with (go_at_call 85; (try rw [← HW.out]); refine HC.out.mono ?_; rintro e w1 ⟨rfl, hb1⟩)
      go_ret
      exact ⟨ret_bool (by rw [← HR.out]; cases r <;> rfl), B2.out.trans hb1⟩
    · have h0' : l = [] := List.length_eq_zero_iff.1 (by omega)
      subst h0'
      simp only [List.length_nil]
      clear hcell
      go_enter Tryz.func53, Tryz.ntmps53
      go_wp2
      all_goals (go_ret; exact ⟨ret_bool (by simp [risingB]), (((Below.refl _ _).alloc (Nat.le_refl _) _).alloc (by simp) _)⟩)

theorem contains_any (v : Value) (l : List Int) (x : Int) (w : World) (h : LiI w v l) (hn : l.length ≤ maxLen) :
    Calls Tryz.prog 132 #[v, .int .i64 x] w fun e w' => e = .returned (.bool (l.any (fun y => x == y))) ∧ w' = w := by
  rcases h with ⟨⟨_, _, rfl⟩, rfl⟩ | ⟨g, o, c, rfl, hg, hc, hcell⟩
  · exact AnyE.slices_Contains_empty Tryz.layHasI _ _ _ _
  · have := AnyE.slices_Contains Tryz.layHasI (Value.int .i64) (fun x y => x == y) (EqlAt.int _ _ .i64) g o l.length c l x w (Nat.le_refl _) (by unfold maxLen at hn; omega) hcell
    rw [List.take_length] at this
    exact this

set_option maxHeartbeats 1000000 in
theorem anyOf1_any (v : Value) (l : List Int) (B : Nat) (w : World) (h : LiI w v l) (hn : l.length ≤ maxLen) (hlt : B < w.heap.size) (hB : w.cell? ⟨B, 0, none⟩ = some v) :
    PredAt Tryz.prog 131 #[.pointer (some ⟨B, 0, none⟩)] (Value.int .i64) (fun x => l.any (fun y => x == y)) w := fun W x hb => by
  unfold FnGives
  have hc := (hb.cell (p := ⟨B, 0, none⟩) hlt).trans hB
  have HC := mkH (contains_any v l x W (h.below hb) hn)
  have hsl : ∃ a n c, v = .slice a n c := by
    rcases h with ⟨⟨_, _, rfl⟩, _⟩ | ⟨g, o, c, rfl, _⟩
    · exact ⟨_, _, _, rfl⟩
    · exact ⟨_, _, _, rfl⟩
  obtain ⟨a, n, c, rfl⟩ := hsl
  clear h
  show Calls Tryz.prog 131 #[.int .i64 x, .pointer (some ⟨B, 0, none⟩)] W (fun e w' => e = .returned (.bool (l.any (fun y => x == y))) ∧ ∃ q, w' = W.drewN q)
  generalize l.any (fun y => x == y) = r at HC ⊢
  go_enter Tryz.func131, Tryz.ntmps131
  go_wp2_with (go_at_call 132; refine HC.out.mono ?_; rintro e w1 ⟨rfl, rfl⟩)
  go_ret
  exact ⟨rfl, 0, rfl⟩

set_option maxHeartbeats 1000000 in
theorem anyOf_any (v1 v2 : Value) (l m : List Int) (w : World) (h1 : LiI w v1 l) (h2 : LiI w v2 m) (hn : l.length ≤ maxLen) (hm : m.length ≤ maxLen) :
    Calls Tryz.prog 105 #[v1, v2] w fun e w' => e = .returned (.bool (anyB l m)) ∧ Below w.heap.size w w' := by
  have eg : ∀ args w, (callFunc 131 args).run Tryz.prog w = .ok (.enter 131 args) w := enters_of Tryz.func131 (by kernel_rfl) rfl
  have hb0 : Below w.heap.size w (w.alloc (.cells #[v2] 38)) := (Below.refl _ _).alloc (Nat.le_refl _) _
  have HC : Hid (Calls Tryz.prog 85 #[v1, .func (.func 131) #[] #[.pointer (some ⟨w.heap.size, 0, none⟩)]] (w.alloc (.cells #[v2] 38)) fun e w' => e = .returned (.bool (anyB l m)) ∧ Below w.heap.size w w') := by
    have hp := anyOf1_any v2 m w.heap.size (w.alloc (.cells #[v2] 38)) (h2.below hb0) hm (by simp) (by simp)
    rcases h1 with ⟨⟨a0, c0, rfl⟩, rfl⟩ | ⟨g, o, c, rfl, hg, hc, hcell⟩
    · exact (AnyE.slices_ContainsFunc_empty Tryz.layAnyI a0 c0 _ _).mono fun e w' ⟨he, hw⟩ => ⟨he, by rw [hw]; exact hb0⟩
    · have := AnyE.slices_ContainsFunc Tryz.layAnyI (Value.int .i64) (fun x => m.any (fun y => x == y)) 131 #[.pointer (some ⟨w.heap.size, 0, none⟩)] eg g o l.length c l (w.alloc (.cells #[v2] 38)) hp (Nat.le_refl _) (by unfold maxLen at hn; omega) (fun j hj => (hb0.cell (p := ⟨g, o + j, none⟩) hg).trans (hcell j hj))
      rw [List.take_length] at this
      exact this.mono fun e w' ⟨he, q, hw⟩ => ⟨he, by rw [hw]; exact below_drewN' hb0 q⟩
  have hsl : ∀ {v : Value} {l : List Int}, LiI w v l → ∃ a n c, v = .slice a n c := by
    rintro v l (⟨⟨_, _, rfl⟩, _⟩ | ⟨g, o, c, rfl, _⟩)
    · exact ⟨_, _, _, rfl⟩
    · exact ⟨_, _, _, rfl⟩
  obtain ⟨a2, n2, c2, rfl⟩ := hsl h2
  obtain ⟨a1, n1, c1, rfl⟩ := hsl h1
  clear h1 h2 hsl
  generalize anyB l m = r at HC ⊢
  go_enter Tryz.func105, Tryz.ntmps105
  go_wp2_with (go_at_call 85; refine HC.out.mono ?_; rintro e w1 ⟨rfl, hb1⟩)
  go_ret
  exact ⟨rfl, hb1⟩
end Go.Proofs.YtfppidnfomelpaaGreatDoor
