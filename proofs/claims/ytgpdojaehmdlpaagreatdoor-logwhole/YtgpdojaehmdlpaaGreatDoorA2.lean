/- What log.rising and log.anyOf do, said of every call (the calls themselves). -/
import Derived.Test.YtgpdojaehmdlpaaGreatDoorA1
namespace Go.Proofs.YtgpdojaehmdlpaaGreatDoor
open Go.RowKit Go.Proofs Go.Lib Go.Joins

set_option maxHeartbeats 1000000 in
theorem risingHas_any (b0 B R g o c : Nat) (zs : List Int) (rows : Int) (w : World) (hg : g < b0) (hgo : ∀ j, j < zs.length → w.cell? ⟨g, o + j, none⟩ = some (.int .i64 zs[j]!)) (hn : zs.length ≤ maxLen) (hB0 : b0 ≤ B) (hRB : B ≠ R)
    (hB : w.cell? ⟨B, 0, none⟩ = some (.int .i64 (-1))) (hf : w.frozen? ⟨B, 0, none⟩ = false) (hR : w.cell? ⟨R, 0, none⟩ = some (.int .i64 rows)) :
    Calls Tryz.prog 96 #[.slice (some ⟨g, o, none⟩) zs.length c, .func (.func 97) #[] #[.pointer (some ⟨B, 0, none⟩), .pointer (some ⟨R, 0, none⟩)]] w fun e w' => e = .returned (.bool (!(risesB rows (-1) zs))) ∧ Below b0 w w' := by
  have H := mkH (risingIdx_any b0 B R g o c zs rows w hg hgo hn hB0 hRB hB hf hR)
  clear hgo hB hf hR
  go_enter Tryz.func96, Tryz.ntmps96
  go_wp2_with (go_at_call 123; refine H.out.mono ?_; rintro e w1 ⟨r, rfl, hr, hb1⟩)
  go_ret
  exact ⟨ret_bool (by rw [← hr]), hb1⟩

set_option maxHeartbeats 1000000 in
theorem rising_any (v : Value) (l : List Int) (rows : Int) (w : World) (h : LiI w v l) (hn : l.length ≤ maxLen) :
    Calls Tryz.prog 60 #[v, .int .i64 rows] w fun e w' => e = .returned (.bool (risingB l rows)) ∧ Below w.heap.size w w' := by
  rcases h with ⟨⟨_, _, rfl⟩, rfl⟩ | ⟨g, o, c, rfl, hg, hc, hcell⟩
  · go_enter Tryz.func60, Tryz.ntmps60
    go_wp2
    all_goals (go_ret; exact ⟨ret_bool (by simp [risingB]), (((Below.refl _ _).alloc (Nat.le_refl _) _).alloc (by simp) _)⟩)
  · by_cases h0 : 0 < l.length
    · have hz : 0 < (l.length : Int) := by omega
      have HR : Hid ((!(!(risesB rows (-1) l))) = risingB l rows) := by simp [Hid, risingB, h0]
      obtain ⟨W2, hW2⟩ : ∃ W2, W2 = (w.alloc (.cells #[.int .i64 rows] 3)).alloc (.cells #[.int .i64 (-1)] 3) := ⟨_, rfl⟩
      have B2 : Hid (Below w.heap.size w W2) := by rw [hW2]; exact ((Below.refl _ _).alloc (Nat.le_refl _) _).alloc (by simp) _
      have HC : Hid (Calls Tryz.prog 96 #[.slice (some ⟨g, o, none⟩) l.length c, .func (.func 97) #[] #[.pointer (some ⟨w.heap.size + 1, 0, none⟩), .pointer (some ⟨w.heap.size, 0, none⟩)]] W2 fun e w' => e = .returned (.bool (!(risesB rows (-1) l))) ∧ Below w.heap.size W2 w') := by
        refine risingHas_any w.heap.size (w.heap.size + 1) w.heap.size g o c l rows W2 hg (fun j hj => (B2.out.cell (p := ⟨g, o + j, none⟩) hg).trans (hcell j hj)) hn (by omega) (by omega) ?_ ?_ ?_
        · rw [hW2, World.cell?_alloc_at _ _ _ _ (by simp)]; rfl
        · rw [hW2]; exact World.frozen?_alloc_at _ _ _ _ (by simp)
        · rw [hW2]; exact cell?_alloc_some _ (by rw [World.cell?_alloc_at _ _ _ _ rfl]; rfl)
      have HW := mkH hW2
      clear hW2 hcell
      generalize risesB rows (-1) l = r at HC HR
      generalize risingB l rows = r2 at HR ⊢
      go_enter Tryz.func60, Tryz.ntmps60
      go_wp2_with (go_at_call 96; (try rw [← HW.out]); refine HC.out.mono ?_; rintro e w1 ⟨rfl, hb1⟩)
      go_ret
      exact ⟨ret_bool (by rw [← HR.out]; cases r <;> rfl), B2.out.trans hb1⟩
    · have h0' : l = [] := List.length_eq_zero_iff.1 (by omega)
      subst h0'
      simp only [List.length_nil]
      clear hcell
      go_enter Tryz.func60, Tryz.ntmps60
      go_wp2
      all_goals (go_ret; exact ⟨ret_bool (by simp [risingB]), (((Below.refl _ _).alloc (Nat.le_refl _) _).alloc (by simp) _)⟩)

theorem contains_any (v : Value) (l : List Int) (x : Int) (w : World) (h : LiI w v l) (hn : l.length ≤ maxLen) :
    Calls Tryz.prog 128 #[v, .int .i64 x] w fun e w' => e = .returned (.bool (l.any (fun y => x == y))) ∧ w' = w := by
  rcases h with ⟨⟨_, _, rfl⟩, rfl⟩ | ⟨g, o, c, rfl, hg, hc, hcell⟩
  · exact AnyE.slices_Contains_empty Tryz.layHasI _ _ _ _
  · have := AnyE.slices_Contains Tryz.layHasI (Value.int .i64) (fun x y => x == y) (EqlAt.int _ _ .i64) g o l.length c l x w (Nat.le_refl _) (by unfold maxLen at hn; omega) hcell
    rw [List.take_length] at this
    exact this

set_option maxHeartbeats 1000000 in
theorem anyOf1_any (v : Value) (l : List Int) (B : Nat) (w : World) (h : LiI w v l) (hn : l.length ≤ maxLen) (hlt : B < w.heap.size) (hB : w.cell? ⟨B, 0, none⟩ = some v) :
    PredAt Tryz.prog 127 #[.pointer (some ⟨B, 0, none⟩)] (Value.int .i64) (fun x => l.any (fun y => x == y)) w := fun W x hb => by
  unfold FnGives
  have hc := (hb.cell (p := ⟨B, 0, none⟩) hlt).trans hB
  have HC := mkH (contains_any v l x W (h.below hb) hn)
  have hsl : ∃ a n c, v = .slice a n c := by
    rcases h with ⟨⟨_, _, rfl⟩, _⟩ | ⟨g, o, c, rfl, _⟩
    · exact ⟨_, _, _, rfl⟩
    · exact ⟨_, _, _, rfl⟩
  obtain ⟨a, n, c, rfl⟩ := hsl
  clear h
  show Calls Tryz.prog 127 #[.int .i64 x, .pointer (some ⟨B, 0, none⟩)] W (fun e w' => e = .returned (.bool (l.any (fun y => x == y))) ∧ ∃ q, w' = W.drewN q)
  generalize l.any (fun y => x == y) = r at HC ⊢
  go_enter Tryz.func127, Tryz.ntmps127
  go_wp2_with (go_at_call 128; refine HC.out.mono ?_; rintro e w1 ⟨rfl, rfl⟩)
  go_ret
  exact ⟨rfl, 0, rfl⟩

set_option maxHeartbeats 1000000 in
theorem anyOf_any (v1 v2 : Value) (l m : List Int) (w : World) (h1 : LiI w v1 l) (h2 : LiI w v2 m) (hn : l.length ≤ maxLen) (hm : m.length ≤ maxLen) :
    Calls Tryz.prog 102 #[v1, v2] w fun e w' => e = .returned (.bool (anyB l m)) ∧ Below w.heap.size w w' := by
  have eg : ∀ args w, (callFunc 127 args).run Tryz.prog w = .ok (.enter 127 args) w := enters_of Tryz.func127 (by kernel_rfl) rfl
  have hb0 : Below w.heap.size w (w.alloc (.cells #[v2] 51)) := (Below.refl _ _).alloc (Nat.le_refl _) _
  have HC : Hid (Calls Tryz.prog 96 #[v1, .func (.func 127) #[] #[.pointer (some ⟨w.heap.size, 0, none⟩)]] (w.alloc (.cells #[v2] 51)) fun e w' => e = .returned (.bool (anyB l m)) ∧ Below w.heap.size w w') := by
    have hp := anyOf1_any v2 m w.heap.size (w.alloc (.cells #[v2] 51)) (h2.below hb0) hm (by simp) (by simp)
    rcases h1 with ⟨⟨a0, c0, rfl⟩, rfl⟩ | ⟨g, o, c, rfl, hg, hc, hcell⟩
    · exact (AnyE.slices_ContainsFunc_empty Tryz.layAnyI a0 c0 _ _).mono fun e w' ⟨he, hw⟩ => ⟨he, by rw [hw]; exact hb0⟩
    · have := AnyE.slices_ContainsFunc Tryz.layAnyI (Value.int .i64) (fun x => m.any (fun y => x == y)) 127 #[.pointer (some ⟨w.heap.size, 0, none⟩)] eg g o l.length c l (w.alloc (.cells #[v2] 51)) hp (Nat.le_refl _) (by unfold maxLen at hn; omega) (fun j hj => (hb0.cell (p := ⟨g, o + j, none⟩) hg).trans (hcell j hj))
      rw [List.take_length] at this
      exact this.mono fun e w' ⟨he, q, hw⟩ => ⟨he, by rw [hw]; exact below_drewN' hb0 q⟩
  have hsl : ∀ {v : Value} {l : List Int}, LiI w v l → ∃ a n c, v = .slice a n c := by
    rintro v l (⟨⟨_, _, rfl⟩, _⟩ | ⟨g, o, c, rfl, _⟩)
    · exact ⟨_, _, _, rfl⟩
    · exact ⟨_, _, _, rfl⟩
  obtain ⟨a2, n2, c2, rfl⟩ := hsl h2
  obtain ⟨a1, n1, c1, rfl⟩ := hsl h1
  clear h1 h2 hsl
  generalize anyB l m = r at HC ⊢
  go_enter Tryz.func102, Tryz.ntmps102
  go_wp2_with (go_at_call 96; refine HC.out.mono ?_; rintro e w1 ⟨rfl, hb1⟩)
  go_ret
  exact ⟨rfl, hb1⟩
end Go.Proofs.YtgpdojaehmdlpaaGreatDoor
