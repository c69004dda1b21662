/- What ask.markOf does, said of every code that a comparison has. -/
import Derived.Test.YtfokdpddcgaafaaGreatDoorAF
namespace Go.Proofs.YtfokdpddcgaafaaGreatDoor
open Go.RowKit Go.Proofs Go.Lib Go.Proofs.YtfokdpddcgaafaaGreatDoor.Ask

theorem mk_of {c i : Nat} (h1 : 1 ≤ c) (hi : i < 10) (h : mkC i = c) : mkT i = mk c := by
  match i, hi with
  | 0, _ => subst h; rfl
  | 1, _ => subst h; rfl
  | 2, _ => subst h; rfl
  | 3, _ => subst h; rfl
  | 4, _ => subst h; rfl
  | 5, _ => subst h; rfl
  | 6, _ => exact absurd h (by show ¬ (0 = c); omega)
  | 7, _ => exact absurd h (by show ¬ (0 = c); omega)
  | 8, _ => exact absurd h (by show ¬ (0 = c); omega)
  | 9, _ => exact absurd h (by show ¬ (0 = c); omega)
theorem mk_has {c : Nat} (h1 : 1 ≤ c) (h6 : c ≤ 6) (hn : ∀ j, j < 10 → mkC j ≠ c) : False := by
  have : c = 1 ∨ c = 2 ∨ c = 3 ∨ c = 4 ∨ c = 5 ∨ c = 6 := by omega
  rcases this with e | e | e | e | e | e <;> subst e
  · exact hn 3 (by omega) rfl
  · exact hn 0 (by omega) rfl
  · exact hn 4 (by omega) rfl
  · exact hn 1 (by omega) rfl
  · exact hn 5 (by omega) rfl
  · exact hn 2 (by omega) rfl
set_option maxHeartbeats 4000000 in
set_option maxRecDepth 100000 in
theorem markOf_any (c : Nat) (w : World) (h1 : 1 ≤ c) (h6 : c ≤ 6) (hm : MkB w) :
    Calls Tryz.prog 34 #[.int .i64 (c : Int)] w fun e w' => e = .returned (.string (bA (mk c))) ∧ Below w.heap.size w w' := by
  obtain ⟨tt, fr, hG⟩ := hm
  have HG := mkH hG
  clear hG
  have hi : (Tryz.prog.info? 87).map (·.size) = some mksA.size := by kernel_rfl
  have HI := mkH hi
  clear hi
  have n1 : ¬ ((c : Int) = 0) := by omega
  go_enter Tryz.func34, Tryz.ntmps34
  go_wp2_with (first | (refine wpList_load_row (P := Tryz.prog) rfl 87 (Operand.global 0) rfl 0 rfl _ _ _ _ HG.out Tryz.underlying87 rfl HI.out ?_))
  go_loopg [4, 6] 10 (fun gg _ s6 wr => ∃ kk : Nat, kk ≤ 10 ∧ 10 - kk ≤ gg ∧ s6 = .int .i64 kk ∧ Aside (Below w.heap.size w wr) ∧ Aside (∀ j, j < kk → mkC j ≠ c))
  case atStart => exact ⟨0, Nat.zero_le _, by omega, rfl, Below.refl _ _, (show Aside _ from fun j hj => absurd hj (Nat.not_lt_zero _))⟩
  case round =>
    obtain ⟨kk, hkk, hgg, rfl, BW, NO⟩ := hrel
    by_cases hlt : kk < 10
    · have hltz : (kk : Int) < 10 := by omega
      have hix := mix kk hlt
      have hbe : Hid (∀ o, Below w.heap.size w (wr.alloc o)) := fun o => BW.out.alloc BW.out.size o
      by_cases hp : mkC kk = c
      · have HE : Hid (bA (mkT kk) = bA (mk c)) := by show _ = _; rw [mk_of h1 hlt hp]
        rw [hp] at hix
        obtain ⟨mt, hmt⟩ : ∃ mt, bA (mkT kk) = mt := ⟨_, rfl⟩
        rw [hmt] at hix HE
        clear hmt
        go_wp2
        go_ret
        exact ⟨(HE.out ▸ rfl : Ending.returned (.string mt) = .returned (.string (bA (mk c)))), hbe.out _⟩
      · have hp1 : ¬ ((mkC kk : Int) = (c : Int)) := by omega
        have hp2 : ((mkC kk : Int) == (c : Int)) = false := by simpa using hp1
        have HP := mkH hp
        obtain ⟨mt, hmt⟩ : ∃ mt, bA (mkT kk) = mt := ⟨_, rfl⟩
        rw [hmt] at hix
        clear hmt
        go_wp2
        go_roundg (10 - (kk + 1))
        case measure => omega
        case rel => exact ⟨kk + 1, by omega, by omega, by go_num, hbe.out _, (show Aside _ from fun j hj => by
          rcases Nat.lt_or_ge j kk with h' | h'
          · exact NO.out j h'
          · have : j = kk := by omega
            rw [this]; exact HP.out)⟩
    · exact (mk_has h1 h6 fun j hj => NO.out j (by omega)).elim
end Go.Proofs.YtfokdpddcgaafaaGreatDoor
