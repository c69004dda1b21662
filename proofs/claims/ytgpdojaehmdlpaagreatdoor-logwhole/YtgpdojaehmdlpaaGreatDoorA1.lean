/- What log.rising and log.anyOf do, said of every call. -/
import Derived.Test.YtgpdojaehmdlpaaGreatDoorW6
import Derived.Test.YtgpdojaehmdlpaaGreatDoorLM
namespace Go.Proofs.YtgpdojaehmdlpaaGreatDoor
open Go.RowKit Go.Proofs Go.Lib Go.Joins

/-- Numbers l lie where v says, nil or not. -/
def LiI (W : World) (v : Value) (l : List Int) : Prop := ((∃ a c, v = .slice a 0 c) ∧ l = []) ∨ ∃ g o c, v = .slice (some ⟨g, o, none⟩) l.length c ∧ g < W.heap.size ∧ l.length ≤ c ∧ ∀ j, j < l.length → W.cell? ⟨g, o + j, none⟩ = some (.int .i64 l[j]!)
theorem LiI.below {w W : World} {v : Value} {l : List Int} (h : LiI w v l) (hb : Below w.heap.size w W) : LiI W v l := by
  rcases h with h | ⟨g, o, c, h1, h2, h3, h4⟩
  · exact .inl h
  · exact .inr ⟨g, o, c, h1, Nat.lt_of_lt_of_le h2 hb.size, h3, fun j hj => (hb.cell (p := ⟨g, o + j, none⟩) h2).trans (h4 j hj)⟩

set_option maxHeartbeats 1000000 in
theorem rising1_any (x last rows : Int) (B R : Nat) (W : World) (hB : W.cell? ⟨B, 0, none⟩ = some (.int .i64 last)) (hf : W.frozen? ⟨B, 0, none⟩ = false) (hR : W.cell? ⟨R, 0, none⟩ = some (.int .i64 rows)) :
    Calls Tryz.prog 97 #[.int .i64 x, .pointer (some ⟨B, 0, none⟩), .pointer (some ⟨R, 0, none⟩)] W fun e w' => e = .returned (.bool (decide (x ≤ last) || decide (rows ≤ x))) ∧ w' = W.setCell ⟨B, 0, none⟩ (.int .i64 x) := by
  by_cases h1 : x ≤ last <;> by_cases h2 : rows ≤ x
  all_goals
    go_enter Tryz.func97, Tryz.ntmps97
    go_wp2
    all_goals
      go_ret
      exact ⟨ret_bool (by simp [h1, h2]), rfl⟩

def lastAt (zs : List Int) : Nat → Int
  | 0 => -1
  | k + 1 => zs[k]!
def RisePost (b0 : Nat) (w : World) (rows : Int) (zs : List Int) (e : Ending) (w' : World) : Prop := ∃ r : Int, e = .returned (.int .i64 r) ∧ decide (0 ≤ r) = !(risesB rows (-1) zs) ∧ Below b0 w w'
theorem rises_drop {rows : Int} {zs : List Int} {k : Nat} (hk : k < zs.length) (last : Int) : risesB rows last (zs.drop k) = (!(decide (zs[k]! ≤ last) || decide (rows ≤ zs[k]!)) && risesB rows zs[k]! (zs.drop (k + 1))) := by
  rw [List.drop_eq_getElem_cons hk, getElem!_pos zs k hk]
  rfl

set_option maxHeartbeats 4000000 in
set_option maxRecDepth 100000 in
theorem risingIdx_any (b0 B R g o c : Nat) (zs : List Int) (rows : Int) (w : World) (hg : g < b0) (hgo : ∀ j, j < zs.length → w.cell? ⟨g, o + j, none⟩ = some (.int .i64 zs[j]!)) (hn : zs.length ≤ maxLen) (hB0 : b0 ≤ B) (hRB : B ≠ R)
    (hB : w.cell? ⟨B, 0, none⟩ = some (.int .i64 (-1))) (hf : w.frozen? ⟨B, 0, none⟩ = false) (hR : w.cell? ⟨R, 0, none⟩ = some (.int .i64 rows)) :
    Calls Tryz.prog 123 #[.slice (some ⟨g, o, none⟩) zs.length c, .func (.func 97) #[] #[.pointer (some ⟨B, 0, none⟩), .pointer (some ⟨R, 0, none⟩)]] w (RisePost b0 w rows zs) := by
  have eg : ∀ args w, (callFunc 97 args).run Tryz.prog w = .ok (.enter 97 args) w := enters_of Tryz.func97 (by kernel_rfl) rfl
  have HG := mkH hgo
  have HB := mkH hB
  have HF := mkH hf
  have HR := mkH hR
  clear hgo hB hf hR
  unfold maxLen at hn
  go_enter Tryz.func123, Tryz.ntmps123
  go_wp2
  go_loopg [5, 8] zs.length (fun gg _ s8 wr => ∃ kk : Nat, kk ≤ zs.length ∧ zs.length - kk ≤ gg ∧ s8 = .int .i64 kk ∧ Aside (Below b0 w wr) ∧ Aside (wr.cell? ⟨B, 0, none⟩ = some (.int .i64 (lastAt zs kk))) ∧ Aside (wr.frozen? ⟨B, 0, none⟩ = false) ∧ Aside (wr.cell? ⟨R, 0, none⟩ = some (.int .i64 rows)) ∧ Aside (risesB rows (-1) zs = risesB rows (lastAt zs kk) (zs.drop kk)))
  case atStart => exact ⟨0, Nat.zero_le _, by omega, rfl, Below.refl _ _, HB.out, HF.out, HR.out, (show Aside _ from (by rw [List.drop_zero]; rfl : risesB rows (-1) zs = risesB rows (lastAt zs 0) (zs.drop 0)))⟩
  case round =>
    obtain ⟨kk, hkk, hgg, rfl, BW, CB, CF, CR, RR⟩ := hrel
    by_cases hlt : kk < zs.length
    · have hltz : (kk : Int) < (zs.length : Int) := by omega
      have hcell : wr.cell? ⟨g, o + kk, none⟩ = some (.int .i64 zs[kk]!) := (BW.out.cell (p := ⟨g, o + kk, none⟩) hg).trans (HG.out kk hlt)
      have RD := mkH (rises_drop (rows := rows) hlt (lastAt zs kk))
      have LA : Hid (lastAt zs (kk + 1) = zs[kk]!) := rfl
      have hcall := rising1_any zs[kk]! (lastAt zs kk) rows B R wr CB.out CF.out CR.out
      generalize zs[kk]! = y at hcell hcall RD LA
      have HL := mkH hcall
      clear hcall
      cases hq : (decide (y ≤ lastAt zs kk) || decide (rows ≤ y)) with
      | true =>
        rw [hq] at HL RD
        go_wp2_with (go_at_fn 97; refine HL.out.mono ?_; rintro e w' ⟨rfl, rfl⟩)
        go_ret
        refine ⟨_, rfl, ?_, BW.out.setCell (p := ⟨B, 0, none⟩) hB0 _⟩
        rw [RR.out, RD.out]
        simp
      | false =>
        rw [hq] at HL RD
        go_wp2_with (go_at_fn 97; refine HL.out.mono ?_; rintro e w' ⟨rfl, rfl⟩)
        go_roundg (zs.length - (kk + 1))
        case measure => omega
        case rel =>
          refine ⟨kk + 1, by omega, by omega, by go_num, BW.out.setCell (p := ⟨B, 0, none⟩) hB0 _, ?_, ?_, ?_, ?_⟩
          · rw [LA.out]; exact World.cell?_setCell_same' _ _ _ (by rw [CB.out]; rfl)
          · show World.frozen? _ _ = false
            rw [World.frozen?_setCell]; exact CF.out
          · exact (World.cell?_setCell_other _ _ _ _ (fun e => hRB (by cases e; rfl))).trans CR.out
          · show _ = _
            rw [RR.out, RD.out, LA.out]; rfl
    · have hltz : ¬ (kk : Int) < (zs.length : Int) := by omega
      have : kk = zs.length := by omega
      subst this
      go_wp2
      go_ret
      refine ⟨_, rfl, ?_, BW.out⟩
      rw [RR.out]
      simp [risesB]
end Go.Proofs.YtgpdojaehmdlpaaGreatDoor
