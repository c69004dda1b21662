/- What the reader's known does, said of every call, and how many values it finds. -/
import Derived.Test.YtmbnomplckhmeaaWl
namespace Go.Proofs.Ytmbnomplckhmeaa
open Go.RowKit Go.Proofs Go.Shelf

theorem runsR_num {k : Int} {n : Nat} : ∀ (f : Nat) (D : List V) (s : St), (s.2 = false → s.1.length < f) → D.length ≤ n → (runsR k n f D s).2.2 = false → (runsR k n f D s).1.length = n
  | 0, D, s, hf, hd, h => by
    rw [runsR] at h
    have := hf h; omega
  | f + 1, D, s, hf, hd, h => by
    by_cases hc : D.length < n ∧ s.2 = false
    · rw [runsR_go hc] at h ⊢
      have hu1 := upToR_le ((n - D.length : Nat) : Int) s
      refine runsR_num f _ _ (fun h2 => ?_) ?_ h
      · have h3 : (upToR ((n - D.length : Nat) : Int) s).2.2 = false := by
          cases h4 : (upToR ((n - D.length : Nat) : Int) s).2.2 with
          | false => rfl
          | true => have := valueR_wrong (kind := k) h4; rw [runSt, this] at h2; cases h2
        have h5 := upToR_less h3
        have h6 := valueR_len k (upToR ((n - D.length : Nat) : Int) s).2
        have h7 := hf hc.2
        show (runSt k n D s).1.length < f
        unfold runSt; omega
      · unfold runL; rw [List.length_append, List.length_replicate]; omega
    · rw [runsR_stop hc] at h ⊢
      simp only at h ⊢
      have : ¬ D.length < n := fun h2 => hc ⟨h2, h⟩
      omega
theorem whichGo_num {d : List V} : ∀ (n : Nat) (A : List V) (s : St), (whichGo d n A s).2.2 = false → (whichGo d n A s).1.length = A.length + n
  | 0, A, s, _ => rfl
  | n + 1, A, s, h => by
    rw [whichGo] at h ⊢
    split at h
    · rename_i h2; simp only at h; rw [h] at h2; cases h2
    · rename_i h2
      rw [if_neg h2, whichGo_num n _ _ h]; simp; omega
theorem stepsR_num : ∀ (n : Nat) (a : Int) (s : St), (stepsR n a s).1.length = n
  | 0, _, _ => rfl
  | n + 1, a, s => by simp [stepsR, stepsR_num n]
theorem knownR_num {k : Int} {way n : Nat} {s : St} (h : (knownR k way n s).2.2 = false) : (knownR k way n s).1.length = n := by
  unfold knownR at h ⊢
  split
  · exact valuesR_num k n s
  · split
    · rename_i h1 h2
      rw [if_neg h1, if_pos h2] at h
      exact runsR_num _ _ _ (fun _ => by omega) (by simp) h
    · split
      · rename_i h1 h2 h3
        rw [if_neg h1, if_neg h2, if_pos h3] at h
        have := whichGo_num n [] _ h
        unfold whichR; rw [this]; simp
      · split
        · exact stepsR_num n 0 s
        · rename_i h1 h2 h3 h4
          rw [if_neg h1, if_neg h2, if_neg h3, if_neg h4] at h; cases h

set_option maxHeartbeats 2000000 in
set_option maxRecDepth 100000 in
theorem knownR_any (b way n : Nat) (k : Int) (s : St) (w : World) (hr : Rd w b k s) (hl : s.1.length ≤ 1000000) (hn : n ≤ 1000) :
    Calls Try.prog 24 #[.pointer (some ⟨b, 0, none⟩), .int .i64 way, .int .i64 n] w fun e w' => ∃ v', e = .returned v' ∧ w'.ownsRow w.heap.size 32 3 v' (knownR k way n s).1.length (flatV (knownR k way n s).1) ∧ Rd w' b k (knownR k way n s).2 ∧ w.grownBy w' (some b) := by
  have H0 := mkHid (values_any b n k s w hr hl hn)
  have H1 := mkHid (runs_any b n k s w hr hl hn)
  have H2 := mkHid (which_any b n k s w hr hl hn)
  have H3 := mkHid (steps_any b n k s w hr hl hn)
  obtain ⟨q0, q1, q2, z1, z2⟩ := rd_cells hr
  have HR := mkHid hr
  clear hr
  have hw : way = 0 ∨ way = 1 ∨ way = 2 ∨ way = 3 ∨ 4 ≤ way := by omega
  rcases hw with rfl | rfl | rfl | rfl | h4
  · have HK : Hid (knownR k 0 n s = valuesR k n s) := mkHid rfl
    rw [HK.out]
    go_enter Try.func24, Try.ntmps24
    go_wp2_with (go_at_call 34; refine H0.out.mono ?_; rintro e w1 ⟨v1, rfl, ho, hR, hg⟩)
    go_ret
    exact ⟨v1, rfl, ho, hR, hg⟩
  · have HK : Hid (knownR k 1 n s = runsR k n (s.1.length + 2) [] s) := mkHid rfl
    rw [HK.out]
    go_enter Try.func24, Try.ntmps24
    go_wp2_with (go_at_call 35; refine H1.out.mono ?_; rintro e w1 ⟨v1, rfl, ho, hR, hg⟩)
    go_ret
    exact ⟨v1, rfl, ho, hR, hg⟩
  · have HK : Hid (knownR k 2 n s = whichR k n s) := mkHid rfl
    rw [HK.out]
    go_enter Try.func24, Try.ntmps24
    go_wp2_with (go_at_call 36; refine H2.out.mono ?_; rintro e w1 ⟨v1, rfl, ho, hR, hg⟩)
    go_ret
    exact ⟨v1, rfl, ho, hR, hg⟩
  · have HK : Hid (knownR k 3 n s = stepsR n 0 s) := mkHid rfl
    rw [HK.out]
    go_enter Try.func24, Try.ntmps24
    go_wp2_with (go_at_call 37; refine H3.out.mono ?_; rintro e w1 ⟨v1, rfl, ho, hR, hg⟩)
    go_ret
    exact ⟨v1, rfl, ho, hR, hg⟩
  · have HK : Hid (knownR k way n s = ([], (s.1, true))) := mkHid (by unfold knownR; rw [if_neg (by omega), if_neg (by omega), if_neg (by omega), if_neg (by omega)])
    rw [HK.out]
    have b0 : ((way : Int) == 0) = false := by simp; omega
    have b1 : ((way : Int) == 1) = false := by simp; omega
    have b2 : ((way : Int) == 2) = false := by simp; omega
    have b3 : ((way : Int) == 3) = false := by simp; omega
    clear h4 H0 H1 H2 H3
    go_enter Try.func24, Try.ntmps24
    go_wp2_with fail
    refine (refuse_any b k s w HR.out).mono ?_
    rintro e w1 ⟨rfl, hR1, hg1⟩
    go_wp2
    go_ret
    exact ⟨_, rfl, World.ownsRow_nil _ _ _ _, hR1, hg1⟩
end Go.Proofs.Ytmbnomplckhmeaa
