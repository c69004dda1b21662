/- The condition of millpondkeep.asked; what millpondkeep.asked and millpondkeep.right do, said of every call. -/
import Derived.Test.YtfokdpddcgaafaaGreatDoorBD
namespace Go.Proofs.YtfokdpddcgaafaaGreatDoor
open Go.RowKit Go.Proofs Go.Lib Go.Proofs.YtfokdpddcgaafaaGreatDoor.Ask

def T0 : Tr := .bi false (.no (.bi true (.cmp 1 [97] (.num 1)) (.isn true [98]))) (.cmp 2 [99] (.text [120, 32, 121]))
def s0 : List UInt8 := [110, 111, 116, 40, 97, 61, 49, 32, 111, 114, 32, 98, 32, 105, 115, 32, 110, 111, 116, 32, 110, 117, 108, 108, 41, 97, 110, 100, 32, 99, 60, 62, 39, 120, 32, 121, 39]
def p0 : List UInt8 := [110, 111, 116, 32, 40, 97, 32, 61, 32, 49, 32, 111, 114, 32, 98, 32, 105, 115, 32, 110, 111, 116, 32, 110, 117, 108, 108, 41, 32, 97, 110, 100, 32, 99, 32, 60, 62, 32, 39, 120, 32, 121, 39]
def t0 : List Tok := [tW wNot, tM [40] 0, tW [97], tM [61] 1, ⟨2, [49], 0⟩, tW wOr, tW [98], tW wIs, tW wNot, tW wNull, tM [41] 0, tW wAnd, tW [99], tM [60, 62] 2, ⟨3, [120, 32, 121], 0⟩]
theorem dc1 : dcL 1 = [49] := by
  have h : dcL 1 = decDigits 1 := by simp [dcL, itoa]
  rw [h, decDigits_one (by omega)]
  rfl
theorem wt0 : wt dcL T0 = t0 := by
  simp [T0, t0, wt, vt, par, clo, dc1, mk, tO, tC]
theorem tx0 : tx dcL T0 = p0 := by
  simp [T0, p0, tx, vx, parX, clo, dc1, mk, wNot, wNull, wIs, wOr, wAnd]
theorem ts_step {k : Nat} {s : List UInt8} {t : Tok} {r : List UInt8} {l : List Tok} (h : first1 (dropB s) = some (t, r)) (hk : k ≠ 80) (h2 : TS (k + 1) r (some l)) : TS k s (some (t :: l)) := TS.go h hk h2
theorem ts0 : TS 0 s0 (some t0) :=
  ts_step (t := tW wNot) (r := [40, 97, 61, 49, 32, 111, 114, 32, 98, 32, 105, 115, 32, 110, 111, 116, 32, 110, 117, 108, 108, 41, 97, 110, 100, 32, 99, 60, 62, 39, 120, 32, 121, 39]) rfl (by decide) (ts_step (t := tM [40] 0) (r := [97, 61, 49, 32, 111, 114, 32, 98, 32, 105, 115, 32, 110, 111, 116, 32, 110, 117, 108, 108, 41, 97, 110, 100, 32, 99, 60, 62, 39, 120, 32, 121, 39]) rfl (by decide) (ts_step (t := tW [97]) (r := [61, 49, 32, 111, 114, 32, 98, 32, 105, 115, 32, 110, 111, 116, 32, 110, 117, 108, 108, 41, 97, 110, 100, 32, 99, 60, 62, 39, 120, 32, 121, 39]) rfl (by decide) (ts_step (t := tM [61] 1) (r := [49, 32, 111, 114, 32, 98, 32, 105, 115, 32, 110, 111, 116, 32, 110, 117, 108, 108, 41, 97, 110, 100, 32, 99, 60, 62, 39, 120, 32, 121, 39]) rfl (by decide) (ts_step (t := ⟨2, [49], 0⟩) (r := [32, 111, 114, 32, 98, 32, 105, 115, 32, 110, 111, 116, 32, 110, 117, 108, 108, 41, 97, 110, 100, 32, 99, 60, 62, 39, 120, 32, 121, 39]) rfl (by decide) (ts_step (t := tW wOr) (r := [32, 98, 32, 105, 115, 32, 110, 111, 116, 32, 110, 117, 108, 108, 41, 97, 110, 100, 32, 99, 60, 62, 39, 120, 32, 121, 39]) rfl (by decide) (ts_step (t := tW [98]) (r := [32, 105, 115, 32, 110, 111, 116, 32, 110, 117, 108, 108, 41, 97, 110, 100, 32, 99, 60, 62, 39, 120, 32, 121, 39]) rfl (by decide) (ts_step (t := tW wIs) (r := [32, 110, 111, 116, 32, 110, 117, 108, 108, 41, 97, 110, 100, 32, 99, 60, 62, 39, 120, 32, 121, 39]) rfl (by decide) (ts_step (t := tW wNot) (r := [32, 110, 117, 108, 108, 41, 97, 110, 100, 32, 99, 60, 62, 39, 120, 32, 121, 39]) rfl (by decide) (ts_step (t := tW wNull) (r := [41, 97, 110, 100, 32, 99, 60, 62, 39, 120, 32, 121, 39]) rfl (by decide) (ts_step (t := tM [41] 0) (r := [97, 110, 100, 32, 99, 60, 62, 39, 120, 32, 121, 39]) rfl (by decide) (ts_step (t := tW wAnd) (r := [32, 99, 60, 62, 39, 120, 32, 121, 39]) rfl (by decide) (ts_step (t := tW [99]) (r := [60, 62, 39, 120, 32, 121, 39]) rfl (by decide) (ts_step (t := tM [60, 62] 2) (r := [39, 120, 32, 121, 39]) rfl (by decide) (ts_step (t := ⟨3, [120, 32, 121], 0⟩) (r := []) rfl (by decide) (.fin rfl)))))))))))))))
theorem vt0 : VT nmL rtL I64 T0 := by
  have h1 : nmL [97] = true := by kernel_rfl
  have h2 : nmL [98] = true := by kernel_rfl
  have h3 : nmL [99] = true := by kernel_rfl
  have h4 : rtL [120, 32, 121] = true := by kernel_rfl
  exact ⟨⟨⟨⟨by decide, by decide⟩, h1, ⟨by decide, by decide⟩⟩, h2⟩, ⟨by decide, by decide⟩, h3, h4⟩
theorem reads0 : Reads nmL rtL s0 (some (some T0)) := by
  have h := (back (dc := dcL) (rt := rtL) nn_nm num_back T0 vt0).2.2 0 [] _ (by decide) rfl (.condL_end rfl)
  rw [List.append_nil, wt0] at h
  exact .cond ts0 (by simp [t0]) h
set_option maxHeartbeats 2000000 in
set_option maxRecDepth 100000 in
theorem asked_any (w : World) (hm : MkB w) (hg : GB w) (ht : TabB w) (hw : 10 ≤ w.heap.size) :
    Calls Tryz.prog 4 #[] w fun e w' => e = .returned (.bool true) ∧ Below w.heap.size w w' := by
  have HC := mkH (Cond_any (bA s0) w (by rw [bA_size]; simp [s0]) hm hg hw)
  rw [bA_toList] at HC
  have HP : Hid (∀ v W, Below w.heap.size w W → S.InC W (ctOf T0) v → Calls Tryz.prog 7 #[v] W fun e w' => e = .returned (.string (bA p0)) ∧ Below W.heap.size W w') := fun v W hb h => by
    have h80 : (wt dcL T0).length ≤ 80 := by rw [wt0]; simp [t0]
    have := Print_any T0 v W h vt0 h80 (by decide) (hm.below hb) (ht.below hb)
    rw [tx0] at this
    exact this
  clear hm hg ht hw
  go_enter Tryz.func4, Tryz.ntmps4
  go_wp2_with fail
  refine HC.out.mono ?_
  rintro e w1 ⟨o, hre, hb1, ho⟩
  cases reads_one reads0 hre
  obtain ⟨p, rfl, hin⟩ := ho
  have HI := mkH hin
  have HB1 := mkH hb1
  clear hre hb1 hin HC
  go_wp2_with fail
  refine (HP.out _ _ HB1.out HI.out).mono ?_
  rintro e w2 ⟨rfl, hb2⟩
  have e1 : ((bA p0).toList == (⟨#[110, 111, 116, 32, 40, 97, 32, 61, 32, 49, 32, 111, 114, 32, 98, 32, 105, 115, 32, 110, 111, 116, 32, 110, 117, 108, 108, 41, 32, 97, 110, 100, 32, 99, 32, 60, 62, 32, 39, 120, 32, 121, 39]⟩ : ByteArray).toList) = true := by kernel_rfl
  have e2 : bA p0 = (⟨#[110, 111, 116, 32, 40, 97, 32, 61, 32, 49, 32, 111, 114, 32, 98, 32, 105, 115, 32, 110, 111, 116, 32, 110, 117, 108, 108, 41, 32, 97, 110, 100, 32, 99, 32, 60, 62, 32, 39, 120, 32, 121, 39]⟩ : ByteArray) := rfl
  rw [e2]
  go_wp2
  go_ret
  exact ⟨rfl, Below.ups HB1.out hb2⟩
def BPost (w : World) (e : Ending) (w' : World) : Prop := (∃ b, e = .returned (.bool b)) ∧ Below w.heap.size w w'
set_option maxHeartbeats 4000000 in
set_option maxRecDepth 100000 in
theorem right2_any (g : Nat) (k1 n1 : Int) (t1 : ByteArray) (k2 n2 : Int) (t2 : ByteArray) (w : World) (hk : w.heap[g]? = some (.cells #[.int .i64 k1, .int .i64 n1, .string t1, .int .i64 k2, .int .i64 n2, .string t2] 23)) (h1 : t1.size ≤ maxLen) (h2 : t2.size ≤ maxLen) :
    Calls Tryz.prog 5 #[.slice (some ⟨g, 0, none⟩) 2 2] w (BPost w) := by
  have HR1 := mkH (fun W => rightV_any k1 n1 t1 W h1)
  have HR2 := mkH (fun W => rightV_any k2 n2 t2 W h2)
  have HK := mkH hk
  unfold maxLen at h1 h2
  clear hk
  generalize rightV k1 n1 t1 = b1 at *
  generalize rightV k2 n2 t2 = b2 at *
  go_enter Tryz.func5, Tryz.ntmps5
  go_wp2_with fail
  go_loopw [3] (fun vi wr => ∃ k : Nat, k ≤ 2 ∧ vi = .int .i64 (k : Int) ∧ Hid (Below w.heap.size w wr)) (fun vi _ => 2 - intNat vi)
  case atStart => exact ⟨0, by omega, rfl, mkH (Below.refl _ _)⟩
  case round =>
    obtain ⟨k, hk, rfl, HB⟩ := hrel
    have hkw := (HB.out.block g (blk_lt HK.out)).trans HK.out
    have c0 := cellsAt hkw 0
    have c1 := cellsAt hkw 1
    have c2 := cellsAt hkw 2
    have c3 := cellsAt hkw 3
    have c4 := cellsAt hkw 4
    have c5 := cellsAt hkw 5
    simp at c0 c1 c2 c3 c4 c5
    clear hkw
    have : k = 0 ∨ k = 1 ∨ k = 2 := by omega
    rcases this with rfl | rfl | rfl
    · cases b1
      all_goals
        go_wp2_with (first
          | (go_at_call 11; refine (HR1.out _).mono ?_; rintro e w1 ⟨rfl, hb1⟩))
        all_goals first
          | (go_ret; exact ⟨⟨_, rfl⟩, HB.out⟩)
          | (go_ret; exact ⟨⟨_, rfl⟩, Below.ups HB.out hb1⟩)
          | exact ⟨⟨1, by omega, rfl, mkH (Below.ups HB.out hb1)⟩, by simp [intNat]⟩
    · cases b2
      all_goals
        go_wp2_with (first
          | (go_at_call 11; refine (HR2.out _).mono ?_; rintro e w1 ⟨rfl, hb1⟩))
        all_goals first
          | (go_ret; exact ⟨⟨_, rfl⟩, HB.out⟩)
          | (go_ret; exact ⟨⟨_, rfl⟩, Below.ups HB.out hb1⟩)
          | exact ⟨⟨2, by omega, rfl, mkH (Below.ups HB.out hb1)⟩, by simp [intNat]⟩
    · go_wp2
      go_ret
      exact ⟨⟨_, rfl⟩, HB.out⟩
end Go.Proofs.YtfokdpddcgaafaaGreatDoor
