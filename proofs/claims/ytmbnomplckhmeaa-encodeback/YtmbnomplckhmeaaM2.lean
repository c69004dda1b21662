/- Plain mathematics: what was written is read: numbers, values, and values in each of the four ways. -/
import Derived.Test.YtmbnomplckhmeaaWo
namespace Go.Proofs.Ytmbnomplckhmeaa
open Go.Lib

theorem rdGo_enc (x : Nat) (hx : x < 18446744073709551616) (rest : List UInt8) : ∀ (y : Nat) (pre : List UInt8) (acc : Nat), uvarint x = pre ++ uvarint y → acc + y * 2 ^ (7 * pre.length) = x → pre.length + (uvarint y).length ≤ 10 →
    rdGo (uvarint x ++ rest) pre.length (uvarint y ++ rest) acc = (x, rest, true) := by
  intro y
  induction y using Nat.strongRecOn with
  | ind y ih =>
    intro pre acc hsp hac hlen
    have hpos := uvarint_pos y
    have hp2 : 0 < 2 ^ (7 * pre.length) := Nat.two_pow_pos _
    by_cases h : y < 128
    · have e := uvarint_small h
      rw [e]
      have hc : (y.toUInt8).toNat = y := toUInt8_toNat (by omega)
      rw [List.singleton_append, rd_end (by omega) (by rw [hc]; exact h), hc]
      have e1 : y % 128 = y := Nat.mod_eq_of_lt h
      have e2 : y * 2 ^ (7 * pre.length) % 18446744073709551616 = y * 2 ^ (7 * pre.length) := Nat.mod_eq_of_lt (by omega)
      rw [e1, e2, hac]
      have e3 : (uvarint x ++ rest).take (pre.length + 1) = uvarint x := by
        have hl : (uvarint x).length = pre.length + 1 := by rw [hsp, e]; simp
        rw [← hl, List.take_left]
      rw [e3]; simp
    · have e := uvarint_big (x := y) (by omega)
      have h10 : pre.length ≠ 10 := by omega
      rw [e] at hlen ⊢
      have hc : ((y % 128 + 128).toUInt8).toNat = y % 128 + 128 := toUInt8_toNat (by omega)
      rw [List.cons_append, rd_go h10 (by rw [hc]; omega), hc]
      have e1 : (y % 128 + 128) % 128 = y % 128 := by omega
      have hle : y % 128 * 2 ^ (7 * pre.length) ≤ y * 2 ^ (7 * pre.length) := Nat.mul_le_mul_right _ (by omega)
      have e2 : y % 128 * 2 ^ (7 * pre.length) % 18446744073709551616 = y % 128 * 2 ^ (7 * pre.length) := Nat.mod_eq_of_lt (by omega)
      rw [e1, e2]
      have := ih (y / 128) (by omega) (pre ++ [(y % 128 + 128).toUInt8]) (acc + y % 128 * 2 ^ (7 * pre.length)) (by rw [hsp, e]; simp) (by
        rw [List.length_append, List.length_singleton, show 7 * (pre.length + 1) = 7 * pre.length + 7 by omega, Nat.pow_add]
        have e3 : y = y / 128 * 128 + y % 128 := by omega
        have e4 : y * 2 ^ (7 * pre.length) = y / 128 * (2 ^ (7 * pre.length) * 2 ^ 7) + y % 128 * 2 ^ (7 * pre.length) := by
          have : y / 128 * (2 ^ (7 * pre.length) * 2 ^ 7) = y / 128 * 128 * 2 ^ (7 * pre.length) := by
            rw [Nat.mul_comm (2 ^ (7 * pre.length)) (2 ^ 7), ← Nat.mul_assoc]
          rw [this, ← Nat.add_mul, ← e3]
        omega) (by simp at hlen ⊢; omega)
      rw [List.length_append, List.length_singleton] at this
      exact this
theorem rdNum_enc {x : Nat} (hx : x < 18446744073709551616) (rest : List UInt8) : rdNum (uvarint x ++ rest) = (x, rest, true) :=
  rdGo_enc x hx rest x [] 0 rfl (by simp) (by have := uvarint_length64 hx; simpa using this)
theorem numR_enc {x : Nat} (hx : x < 18446744073709551616) (rest : List UInt8) : numR (uvarint x ++ rest, false) = (x, (rest, false)) := by
  unfold numR; rw [rdNum_enc hx]; rfl
theorem upToR_enc {most : Int} {x : Nat} (hx : x < 18446744073709551616) (hm : (x : Int) ≤ most) (rest : List UInt8) : upToR most (uvarint x ++ rest, false) = (x, (rest, false)) := by
  have hb : badR most (uvarint x ++ rest, false) = false := by
    unfold badR; rw [numR_enc hx]; simp; omega
  rw [upToR_ok hb, numR_enc hx]
theorem bytesR_enc {n : Nat} {t : List UInt8} (h : t.length = n) (rest : List UInt8) (q : Bool) : bytesR n (t ++ rest, q) = (t, (rest, q)) := by
  unfold bytesR
  rw [if_neg (by simp; omega)]
  subst h
  simp
theorem unzig_zig {n : Int} : unzigzag (zigzag n) = n := by
  unfold unzigzag zigzag
  split <;> split <;> omega
/-- A value of a kind. -/
def Good (kind : Int) (v : V) : Prop := (kind = 1 ∧ v.1 = 1 ∧ v.2.2 = str [] ∧ -9223372036854775808 ≤ v.2.1 ∧ v.2.1 ≤ 9223372036854775807) ∨ (kind = 2 ∧ v.1 = 2 ∧ v.2.1 = 0 ∧ v.2.2.size ≤ 40)
theorem valueR_enc {kind : Int} {v : V} (h : Good kind v) (rest : List UInt8) : valueR kind (valB v ++ rest, false) = (v, (rest, false)) := by
  obtain ⟨k, n, t⟩ := v
  rcases h with ⟨rfl, h1, h2, h3, h4⟩ | ⟨rfl, h1, h2, h3⟩
  · simp only at h1 h2 h3 h4
    subst h1 h2
    unfold valueR valB
    rw [if_pos rfl, if_pos rfl, numR_enc (zigzag_lt h3 h4)]
    simp only [unzig_zig]
  · simp only at h1 h2 h3
    subst h1 h2
    unfold valueR valB
    rw [if_neg (by show ¬ (2 : Int) = 1; decide), if_neg (by show ¬ (2 : Int) = 1; decide)]
    have hl : t.data.toList.length = t.size := by rw [Array.length_toList]; rfl
    simp only
    rw [List.append_assoc, upToR_enc (by omega) (by omega), bytesR_enc hl]
    simp only [str_self]
theorem valuesR_enc {kind : Int} : ∀ (l : List V), (∀ v ∈ l, Good kind v) → ∀ rest, valuesR kind l.length (orderB l ++ rest, false) = (l, (rest, false))
  | [], _, rest => rfl
  | v :: l, h, rest => by
    have e : orderB (v :: l) = valB v ++ orderB l := rfl
    rw [e, List.length_cons, valuesR, List.append_assoc, valueR_enc (h v (by simp))]
    simp only
    rw [valuesR_enc l (fun x hx => h x (by simp [hx]))]
theorem same_split (v : V) : ∀ l : List V, l = List.replicate (same v l) v ++ l.drop (same v l)
  | [] => by simp [same]
  | x :: l => by
    unfold same
    by_cases h : x = v
    · subst h
      rw [if_pos rfl, List.replicate_succ, List.drop_succ_cons, List.cons_append, ← same_split x l]
    · rw [if_neg h]; simp
theorem runsR_enc {kind : Int} {n : Nat} (hn : n ≤ 1000) : ∀ (m : Nat) (l D : List V) (f : Nat) (rest : List UInt8), l.length = m → (∀ v ∈ l, Good kind v) → D.length + l.length = n → (runsB l.length l).length < f → runsR kind n f D (runsB l.length l ++ rest, false) = (D ++ l, (rest, false)) := by
  intro m
  induction m using Nat.strongRecOn with
  | ind m ih =>
    intro l D f rest hm hg hd hf
    cases l with
    | nil =>
      rw [runsR_stop (by simp at hd ⊢; omega)]
      simp [runsB]
    | cons v l =>
      obtain ⟨f, rfl⟩ : ∃ f', f = f' + 1 := ⟨f - 1, by omega⟩
      have hs := same_le v l
      rw [runsB_cons] at hf ⊢
      have hlt : D.length < n := by simp at hd; omega
      rw [runsR_go ⟨hlt, rfl⟩]
      have hu : upToR ((n - D.length : Nat) : Int) (uvarint (same v l + 1) ++ valB v ++ runsB (l.drop (same v l)).length (l.drop (same v l)) ++ rest, false) = (same v l + 1, (valB v ++ (runsB (l.drop (same v l)).length (l.drop (same v l)) ++ rest), false)) := by
        rw [List.append_assoc, List.append_assoc, upToR_enc (by simp at hd; omega) (by simp at hd; omega)]
      have e1 : runL kind n D (uvarint (same v l + 1) ++ valB v ++ runsB (l.drop (same v l)).length (l.drop (same v l)) ++ rest, false) = D ++ List.replicate (same v l + 1) v := by
        unfold runL; rw [hu]; simp only; rw [valueR_enc (hg v (by simp))]
      have e2 : runSt kind n D (uvarint (same v l + 1) ++ valB v ++ runsB (l.drop (same v l)).length (l.drop (same v l)) ++ rest, false) = (runsB (l.drop (same v l)).length (l.drop (same v l)) ++ rest, false) := by
        unfold runSt; rw [hu]; simp only; rw [valueR_enc (hg v (by simp))]
      rw [e1, e2]
      have hup := uvarint_pos (same v l + 1)
      rw [ih (l.drop (same v l)).length (by simp at hm ⊢; omega) _ _ _ _ rfl (fun x hx => hg x (by simp [List.mem_of_mem_drop hx])) (by simp at hd ⊢; omega) (by simp only [List.length_append] at hf; omega)]
      rw [List.append_assoc, List.replicate_succ, List.cons_append, ← same_split v l]
theorem wr64_id {x : Int} (h1 : -9223372036854775808 ≤ x) (h2 : x ≤ 9223372036854775807) : wr64 x = x := by unfold wr64; omega
theorem wr64_back (a n : Int) (h1 : -9223372036854775808 ≤ n) (h2 : n ≤ 9223372036854775807) : wr64 (a + wr64 (n - a)) = n := by unfold wr64; omega
theorem stepsR_enc : ∀ (l : List V) (a : Int), (∀ v ∈ l, Good 1 v) → ∀ rest, stepsR l.length a (stepsB a l ++ rest, false) = (l, (rest, false))
  | [], _, _, rest => rfl
  | (k, n, t) :: l, a, h, rest => by
    obtain ⟨h1, h2, h3, h4⟩ : k = 1 ∧ t = str [] ∧ -9223372036854775808 ≤ n ∧ n ≤ 9223372036854775807 := by
      rcases h (k, n, t) (by simp) with ⟨_, h1, h2, h3, h4⟩ | ⟨h0, _⟩
      · exact ⟨h1, h2, h3, h4⟩
      · exact absurd h0 (by decide)
    subst h1 h2
    have hz := zigzag_lt (wr64_in (n - a)).1 (wr64_in (n - a)).2
    simp only [List.length_cons, stepsR, stepsB, List.append_assoc]
    rw [numR_enc hz]
    simp only [unzig_zig, wr64_back a n h3 h4]
    rw [stepsR_enc l n (fun x hx => h x (by simp [hx]))]
end Go.Proofs.Ytmbnomplckhmeaa
