/- Plain mathematics: what is the same costs little. -/
import Derived.Test.YtmbnomplckhmeaaM3
namespace Go.Proofs.Ytmbnomplckhmeaa
open Go.Lib Go.RowKit

theorem fewTo_mono (kind : Int) (l : List V) (k : Nat) (hk : 1 ≤ k) : (fewTo kind l (k + 1)).length ≤ (fewTo kind l k).length := by
  rw [fewTo_next kind l k hk]
  split
  · exact Nat.le_refl _
  · unfold better; split <;> omega
theorem fewTo_way_le (kind : Int) (l : List V) (k : Nat) (hk : 1 ≤ k) (h3 : ¬ (k = 3 ∧ kind ≠ 1)) : (fewTo kind l (k + 1)).length ≤ 1 + (wayB k l).length := by
  rw [fewTo_next kind l k hk, if_neg h3]
  unfold better; split <;> simp at * <;> omega
theorem fewB_runs (kind : Int) (l : List V) : (fewB kind l).length ≤ 1 + (runsB l.length l).length := by
  have h1 : (fewTo kind l 4).length ≤ (fewTo kind l 3).length := fewTo_mono kind l 3 (by omega)
  have h2 : (fewTo kind l 3).length ≤ (fewTo kind l 2).length := fewTo_mono kind l 2 (by omega)
  have h3 : (fewTo kind l 2).length ≤ 1 + (wayB 1 l).length := fewTo_way_le kind l 1 (by omega) (by omega)
  have e : wayB 1 l = runsB l.length l := rfl
  rw [e] at h3
  unfold fewB; omega
theorem fewB_steps (l : List V) : (fewB 1 l).length ≤ 1 + (stepsB 0 l).length := fewTo_way_le 1 l 3 (by omega) (by omega)
theorem fewB_nil (kind : Int) : (fewB kind []).length ≤ 1 := by
  have h1 : (fewTo kind [] 4).length ≤ (fewTo kind [] 3).length := fewTo_mono kind [] 3 (by omega)
  have h2 : (fewTo kind [] 3).length ≤ (fewTo kind [] 2).length := fewTo_mono kind [] 2 (by omega)
  have h3 : (fewTo kind [] 2).length ≤ (fewTo kind [] 1).length := fewTo_mono kind [] 1 (by omega)
  have e : (fewTo kind [] 1).length = 1 := rfl
  unfold fewB; omega
theorem uv1 {x : Nat} (h : x < 128) : (uvarint x).length = 1 := by rw [uvarint_small h]; rfl
theorem same_rep (v : V) : ∀ n, same v (List.replicate n v) = n
  | 0 => rfl
  | n + 1 => by rw [List.replicate_succ]; unfold same; rw [if_pos rfl, same_rep v n]
theorem runs_rep (v : V) (n : Nat) (hn : n ≤ 60) : (runsB (List.replicate n v).length (List.replicate n v)).length ≤ 1 + (valB v).length := by
  cases n with
  | zero => simp [runsB]
  | succ n =>
    rw [List.replicate_succ, runsB_cons, same_rep]
    have e : (List.replicate n v).drop n = [] := by simp
    rw [e]
    simp only [List.length_append, uv1 (show n + 1 < 128 by omega)]
    simp [runsB]
theorem known_rep {v : V} (h : v.1 ≠ 0) (n : Nat) : known (List.replicate n v) = List.replicate n v := by
  apply known_all
  intro y hy
  rw [List.eq_of_mem_replicate hy]
  simp [nul, h]
theorem known_rep0 (n : Nat) : known (List.replicate n ((0, 0, ⟨#[]⟩) : V)) = [] := by
  unfold known
  rw [List.filter_eq_nil_iff]
  intro a ha
  rw [List.eq_of_mem_replicate ha]
  simp [nul]
/-- How many bytes one value may take. -/
def oneOf (v : V) : Nat := if v.1 = 2 then 1 + v.2.2.size else 10
theorem valB_one {v : V} (hk : v.1 = 1 ∨ v.1 = 2) (h1 : -9223372036854775808 ≤ v.2.1) (h2 : v.2.1 ≤ 9223372036854775807) (ht : v.2.2.size ≤ 40) : (valB v).length ≤ oneOf v := by
  unfold valB oneOf
  rcases hk with hk | hk
  · rw [if_pos hk, if_neg (by rw [hk]; decide)]
    exact uvarint_length64 (zigzag_lt h1 h2)
  · rw [if_neg (by rw [hk]; decide), if_pos hk, List.length_append, uv1 (by omega)]
    have e : v.2.2.data.toList.length = v.2.2.size := by rw [Array.length_toList]; rfl
    omega
theorem encA_len {v : V} (hk : v.1 = 1 ∨ v.1 = 2) (h1 : -9223372036854775808 ≤ v.2.1) (h2 : v.2.1 ≤ 9223372036854775807) (ht : v.2.2.size ≤ 40) (n : Nat) (hn : n ≤ 60) : (encB v.1 (List.replicate n v)).length ≤ 3 + (n + 7) / 8 + oneOf v := by
  have e := known_rep (v := v) (by rcases hk with h | h <;> rw [h] <;> decide) n
  have f1 := fewB_runs v.1 (List.replicate n v)
  have f2 := runs_rep v n hn
  have f3 := valB_one hk h1 h2 ht
  unfold encB
  rw [e]
  simp only [List.length_append, marksB_len, List.length_replicate, uv1 (show n < 128 by omega)]
  omega
def bAt (fr st : Int) (i : Nat) : V := (1, wrap64 (fr + wrap64 ((i : Int) * st)), ⟨#[]⟩)
def bL (fr st : Int) (n : Nat) : List V := (List.range n).map (bAt fr st)
theorem bL_len (fr st : Int) (n : Nat) : (bL fr st n).length = n := by simp [bL]
theorem bL_next (fr st : Int) (n : Nat) : bL fr st (n + 1) = bL fr st n ++ [bAt fr st n] := by simp [bL, List.range_succ]
theorem bL_at (fr st : Int) {n k : Nat} (h : k < n) : (bL fr st n)[k]? = some (bAt fr st k) := by
  simp [bL, List.getElem?_range h]
theorem bL_steps (fr st : Int) (h1 : -30 ≤ st) (h2 : st ≤ 30) (n : Nat) : ∀ k, k ≤ n → (stepsB 0 ((bL fr st n).take k)).length ≤ 10 + k
  | 0, _ => by simp [stepsB]
  | k + 1, hk => by
    have ih := bL_steps fr st h1 h2 n k (by omega)
    rw [stepsB_next (bL_at fr st (show k < n by omega)), List.length_append]
    cases k with
    | zero =>
      have := uvarint_length64 (zigzag_lt (wr64_in ((bAt fr st 0).2.1 - 0)).1 (wr64_in ((bAt fr st 0).2.1 - 0)).2)
      simp [stepsB] at this ⊢
      exact Nat.le_trans this (by omega)
    | succ k =>
      rw [if_neg (by omega), Nat.add_sub_cancel, bL_at fr st (show k < n by omega)]
      have e : wr64 ((bAt fr st (k + 1)).2.1 - (bAt fr st k).2.1) = st := by
        show wr64 (wrap64 (fr + wrap64 (((k + 1 : Nat) : Int) * st)) - wrap64 (fr + wrap64 ((k : Int) * st))) = st
        have e2 : ((k + 1 : Nat) : Int) * st = (k : Int) * st + st := by rw [show ((k + 1 : Nat) : Int) = (k : Int) + 1 by omega, Int.add_mul, Int.one_mul]
        rw [e2]
        generalize (k : Int) * st = q
        unfold wr64 wrap64
        omega
      simp only [Option.map_some, Option.getD_some]
      rw [e, uv1 (by unfold zigzag; split <;> omega)]
      omega
theorem known_bL (fr st : Int) (n : Nat) : known (bL fr st n) = bL fr st n := by
  apply known_all
  intro y hy
  simp only [bL, List.mem_map] at hy
  obtain ⟨i, _, rfl⟩ := hy
  rfl
theorem encBb_len (fr st : Int) (h1 : -30 ≤ st) (h2 : st ≤ 30) (n : Nat) (hn : n ≤ 60) : (encB 1 (bL fr st n)).length ≤ 2 + (n + 7) / 8 + 10 + n := by
  have f1 := fewB_steps (bL fr st n)
  have f2 := bL_steps fr st h1 h2 n n (Nat.le_refl _)
  rw [List.take_of_length_le (by rw [bL_len]; exact Nat.le_refl _)] at f2
  unfold encB
  rw [known_bL]
  simp only [List.length_append, marksB_len, bL_len, uv1 (show n < 128 by omega)]
  omega
theorem encC_len (kind : Int) (n : Nat) (hn : n ≤ 60) : (encB kind (List.replicate n (0, 0, ⟨#[]⟩))).length ≤ 3 + (n + 7) / 8 := by
  have f1 := fewB_nil kind
  unfold encB
  rw [known_rep0]
  simp only [List.length_append, marksB_len, List.length_replicate, uv1 (show n < 128 by omega)]
  omega
theorem size0 : (⟨#[]⟩ : ByteArray).size = 0 := rfl
theorem fitsA {v : V} (hk : v.1 = 1 ∨ v.1 = 2) (hr : rightV v.1 v.2.1 v.2.2 = true) (n : Nat) : fitsB v.1 (List.replicate n v) = true := by
  have h1 : (v.1 == 1 || v.1 == 2) = true := by rcases hk with h | h <;> simp [h]
  unfold fitsB
  rw [h1, Bool.true_and, Bool.not_eq_true', List.any_eq_false]
  intro x hx
  rw [List.eq_of_mem_replicate hx]
  simp [badV, hr]
theorem fitsBb (fr st : Int) (n : Nat) : fitsB 1 (bL fr st n) = true := by
  unfold fitsB
  rw [show ((1 : Int) == 1 || (1 : Int) == 2) = true from rfl, Bool.true_and, Bool.not_eq_true', List.any_eq_false]
  intro x hx
  simp only [bL, List.mem_map] at hx
  obtain ⟨i, _, rfl⟩ := hx
  simp [badV, bAt, rightV]
theorem fitsC {kind : Int} (hk : kind = 1 ∨ kind = 2) (n : Nat) : fitsB kind (List.replicate n (0, 0, ⟨#[]⟩)) = true := by
  have h1 : (kind == 1 || kind == 2) = true := by rcases hk with h | h <;> simp [h]
  unfold fitsB
  rw [h1, Bool.true_and, Bool.not_eq_true', List.any_eq_false]
  intro x hx
  rw [List.eq_of_mem_replicate hx]
  simp [badV, rightV]
theorem oklA {v : V} (h1 : -9223372036854775808 ≤ v.2.1) (h2 : v.2.1 ≤ 9223372036854775807) (ht : v.2.2.size ≤ 40) (n : Nat) : Okl (List.replicate n v) := by
  intro x hx
  rw [List.eq_of_mem_replicate hx]
  exact ⟨h1, h2, by unfold maxLen; omega⟩
theorem oklB (fr st : Int) (n : Nat) : Okl (bL fr st n) := by
  intro x hx
  simp only [bL, List.mem_map] at hx
  obtain ⟨i, _, rfl⟩ := hx
  have h := wr64_in (fr + wrap64 ((i : Int) * st))
  rw [← wr_eq] at h
  exact ⟨h.1, h.2, by show (⟨#[]⟩ : ByteArray).size ≤ _; rw [size0]; exact Nat.zero_le _⟩
theorem oklC (n : Nat) : Okl (List.replicate n (0, 0, ⟨#[]⟩)) := by
  intro x hx
  rw [List.eq_of_mem_replicate hx]
  exact ⟨by show (-9223372036854775808 : Int) ≤ 0; decide, by show (0 : Int) ≤ _; decide, by show (⟨#[]⟩ : ByteArray).size ≤ _; rw [size0]; exact Nat.zero_le _⟩
end Go.Proofs.Ytmbnomplckhmeaa
