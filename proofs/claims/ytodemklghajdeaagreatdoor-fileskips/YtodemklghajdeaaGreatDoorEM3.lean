/- Plain mathematics: a column that was written is read as it was, and no beginning of it is any. -/
import Derived.Test.YtodemklghajdeaaGreatDoorEWo
namespace Go.Proofs.YtodemklghajdeaaGreatDoor.E
open Go.Lib

theorem rdGo_enc (x : Nat) (hx : x < 18446744073709551616) (rest : List UInt8) : ∀ (y : Nat) (pre : List UInt8) (acc : Nat), uvarint x = pre ++ uvarint y → acc + y * 2 ^ (7 * pre.length) = x → pre.length + (uvarint y).length ≤ 10 →
    rdGo (uvarint x ++ rest) pre.length (uvarint y ++ rest) acc = (x, rest, true) := by
  intro y
  induction y using Nat.strongRecOn with
  | ind y ih =>
    intro pre acc hsp hac hlen
    have hpos := uvarint_pos y
    have hp2 : 0 < 2 ^ (7 * pre.length) := Nat.two_pow_pos _
    by_cases h : y < 128
    · have e := uvarint_small h
      rw [e]
      have hc : (y.toUInt8).toNat = y := toUInt8_toNat (by omega)
      rw [List.singleton_append, rd_end (by omega) (by rw [hc]; exact h), hc]
      have e1 : y % 128 = y := Nat.mod_eq_of_lt h
      have e2 : y * 2 ^ (7 * pre.length) % 18446744073709551616 = y * 2 ^ (7 * pre.length) := Nat.mod_eq_of_lt (by omega)
      rw [e1, e2, hac]
      have e3 : (uvarint x ++ rest).take (pre.length + 1) = uvarint x := by
        have hl : (uvarint x).length = pre.length + 1 := by rw [hsp, e]; simp
        rw [← hl, List.take_left]
      rw [e3]; simp
    · have e := uvarint_big (x := y) (by omega)
      have h10 : pre.length ≠ 10 := by omega
      rw [e] at hlen ⊢
      have hc : ((y % 128 + 128).toUInt8).toNat = y % 128 + 128 := toUInt8_toNat (by omega)
      rw [List.cons_append, rd_go h10 (by rw [hc]; omega), hc]
      have e1 : (y % 128 + 128) % 128 = y % 128 := by omega
      have hle : y % 128 * 2 ^ (7 * pre.length) ≤ y * 2 ^ (7 * pre.length) := Nat.mul_le_mul_right _ (by omega)
      have e2 : y % 128 * 2 ^ (7 * pre.length) % 18446744073709551616 = y % 128 * 2 ^ (7 * pre.length) := Nat.mod_eq_of_lt (by omega)
      rw [e1, e2]
      have := ih (y / 128) (by omega) (pre ++ [(y % 128 + 128).toUInt8]) (acc + y % 128 * 2 ^ (7 * pre.length)) (by rw [hsp, e]; simp) (by
        rw [List.length_append, List.length_singleton, show 7 * (pre.length + 1) = 7 * pre.length + 7 by omega, Nat.pow_add]
        have e3 : y = y / 128 * 128 + y % 128 := by omega
        have e4 : y * 2 ^ (7 * pre.length) = y / 128 * (2 ^ (7 * pre.length) * 2 ^ 7) + y % 128 * 2 ^ (7 * pre.length) := by
          have : y / 128 * (2 ^ (7 * pre.length) * 2 ^ 7) = y / 128 * 128 * 2 ^ (7 * pre.length) := by
            rw [Nat.mul_comm (2 ^ (7 * pre.length)) (2 ^ 7), ← Nat.mul_assoc]
          rw [this, ← Nat.add_mul, ← e3]
        omega) (by simp at hlen ⊢; omega)
      rw [List.length_append, List.length_singleton] at this
      exact this
theorem rdNum_enc {x : Nat} (hx : x < 18446744073709551616) (rest : List UInt8) : rdNum (uvarint x ++ rest) = (x, rest, true) :=
  rdGo_enc x hx rest x [] 0 rfl (by simp) (by have := uvarint_length64 hx; simpa using this)
theorem numR_enc {x : Nat} (hx : x < 18446744073709551616) (rest : List UInt8) : numR (uvarint x ++ rest, false) = (x, (rest, false)) := by
  unfold numR; rw [rdNum_enc hx]; rfl
theorem upToR_enc {most : Int} {x : Nat} (hx : x < 18446744073709551616) (hm : (x : Int) ≤ most) (rest : List UInt8) : upToR most (uvarint x ++ rest, false) = (x, (rest, false)) := by
  have hb : badR most (uvarint x ++ rest, false) = false := by
    unfold badR; rw [numR_enc hx]; simp; omega
  rw [upToR_ok hb, numR_enc hx]
theorem bytesR_enc {n : Nat} {t : List UInt8} (h : t.length = n) (rest : List UInt8) (q : Bool) : bytesR n (t ++ rest, q) = (t, (rest, q)) := by
  unfold bytesR
  rw [if_neg (by simp; omega)]
  subst h
  simp
theorem unzig_zig {n : Int} : unzigzag (zigzag n) = n := by
  unfold unzigzag zigzag
  split <;> split <;> omega
/-- A value of a kind. -/
def Good (kind : Int) (v : V) : Prop := (kind = 1 ∧ v.1 = 1 ∧ v.2.2 = str [] ∧ -9223372036854775808 ≤ v.2.1 ∧ v.2.1 ≤ 9223372036854775807) ∨ (kind = 2 ∧ v.1 = 2 ∧ v.2.1 = 0 ∧ v.2.2.size ≤ 40)
theorem valueR_enc {kind : Int} {v : V} (h : Good kind v) (rest : List UInt8) : valueR kind (valB v ++ rest, false) = (v, (rest, false)) := by
  obtain ⟨k, n, t⟩ := v
  rcases h with ⟨rfl, h1, h2, h3, h4⟩ | ⟨rfl, h1, h2, h3⟩
  · simp only at h1 h2 h3 h4
    subst h1 h2
    unfold valueR valB
    rw [if_pos rfl, if_pos rfl, numR_enc (zigzag_lt h3 h4)]
    simp only [unzig_zig]
  · simp only at h1 h2 h3
    subst h1 h2
    unfold valueR valB
    rw [if_neg (by show ¬ (2 : Int) = 1; decide), if_neg (by show ¬ (2 : Int) = 1; decide)]
    have hl : t.data.toList.length = t.size := by rw [Array.length_toList]; rfl
    simp only
    rw [List.append_assoc, upToR_enc (by omega) (by omega), bytesR_enc hl]
    simp only [str_self]
theorem valuesR_enc {kind : Int} : ∀ (l : List V), (∀ v ∈ l, Good kind v) → ∀ rest, valuesR kind l.length (orderB l ++ rest, false) = (l, (rest, false))
  | [], _, rest => rfl
  | v :: l, h, rest => by
    have e : orderB (v :: l) = valB v ++ orderB l := rfl
    rw [e, List.length_cons, valuesR, List.append_assoc, valueR_enc (h v (by simp))]
    simp only
    rw [valuesR_enc l (fun x hx => h x (by simp [hx]))]
theorem same_split (v : V) : ∀ l : List V, l = List.replicate (same v l) v ++ l.drop (same v l)
  | [] => by simp [same]
  | x :: l => by
    unfold same
    by_cases h : x = v
    · subst h
      rw [if_pos rfl, List.replicate_succ, List.drop_succ_cons, List.cons_append, ← same_split x l]
    · rw [if_neg h]; simp
theorem runsR_enc {kind : Int} {n : Nat} (hn : n ≤ 1000) : ∀ (m : Nat) (l D : List V) (f : Nat) (rest : List UInt8), l.length = m → (∀ v ∈ l, Good kind v) → D.length + l.length = n → (runsB l.length l).length < f → runsR kind n f D (runsB l.length l ++ rest, false) = (D ++ l, (rest, false)) := by
  intro m
  induction m using Nat.strongRecOn with
  | ind m ih =>
    intro l D f rest hm hg hd hf
    cases l with
    | nil =>
      rw [runsR_stop (by simp at hd ⊢; omega)]
      simp [runsB]
    | cons v l =>
      obtain ⟨f, rfl⟩ : ∃ f', f = f' + 1 := ⟨f - 1, by omega⟩
      have hs := same_le v l
      rw [runsB_cons] at hf ⊢
      have hlt : D.length < n := by simp at hd; omega
      rw [runsR_go ⟨hlt, rfl⟩]
      have hu : upToR ((n - D.length : Nat) : Int) (uvarint (same v l + 1) ++ valB v ++ runsB (l.drop (same v l)).length (l.drop (same v l)) ++ rest, false) = (same v l + 1, (valB v ++ (runsB (l.drop (same v l)).length (l.drop (same v l)) ++ rest), false)) := by
        rw [List.append_assoc, List.append_assoc, upToR_enc (by simp at hd; omega) (by simp at hd; omega)]
      have e1 : runL kind n D (uvarint (same v l + 1) ++ valB v ++ runsB (l.drop (same v l)).length (l.drop (same v l)) ++ rest, false) = D ++ List.replicate (same v l + 1) v := by
        unfold runL; rw [hu]; simp only; rw [valueR_enc (hg v (by simp))]
      have e2 : runSt kind n D (uvarint (same v l + 1) ++ valB v ++ runsB (l.drop (same v l)).length (l.drop (same v l)) ++ rest, false) = (runsB (l.drop (same v l)).length (l.drop (same v l)) ++ rest, false) := by
        unfold runSt; rw [hu]; simp only; rw [valueR_enc (hg v (by simp))]
      rw [e1, e2]
      have hup := uvarint_pos (same v l + 1)
      rw [ih (l.drop (same v l)).length (by simp at hm ⊢; omega) _ _ _ _ rfl (fun x hx => hg x (by simp [List.mem_of_mem_drop hx])) (by simp at hd ⊢; omega) (by simp only [List.length_append] at hf; omega)]
      rw [List.append_assoc, List.replicate_succ, List.cons_append, ← same_split v l]
theorem wr64_id {x : Int} (h1 : -9223372036854775808 ≤ x) (h2 : x ≤ 9223372036854775807) : wr64 x = x := by unfold wr64; omega
theorem wr64_back (a n : Int) (h1 : -9223372036854775808 ≤ n) (h2 : n ≤ 9223372036854775807) : wr64 (a + wr64 (n - a)) = n := by unfold wr64; omega
theorem stepsR_enc : ∀ (l : List V) (a : Int), (∀ v ∈ l, Good 1 v) → ∀ rest, stepsR l.length a (stepsB a l ++ rest, false) = (l, (rest, false))
  | [], _, _, rest => rfl
  | (k, n, t) :: l, a, h, rest => by
    obtain ⟨h1, h2, h3, h4⟩ : k = 1 ∧ t = str [] ∧ -9223372036854775808 ≤ n ∧ n ≤ 9223372036854775807 := by
      rcases h (k, n, t) (by simp) with ⟨_, h1, h2, h3, h4⟩ | ⟨h0, _⟩
      · exact ⟨h1, h2, h3, h4⟩
      · exact absurd h0 (by decide)
    subst h1 h2
    have hz := zigzag_lt (wr64_in (n - a)).1 (wr64_in (n - a)).2
    simp only [List.length_cons, stepsR, stepsB, List.append_assoc]
    rw [numR_enc hz]
    simp only [unzig_zig, wr64_back a n h3 h4]
    rw [stepsR_enc l n (fun x hx => h x (by simp [hx]))]
end Go.Proofs.YtodemklghajdeaaGreatDoor.E

namespace Go.Proofs.YtodemklghajdeaaGreatDoor.E
open Go.Lib

theorem place_app_lt (x : V) : ∀ (d e : List V), place x d < d.length → place x (d ++ e) = place x d
  | [], e, h => by simp at h
  | y :: d, e, h => by
    unfold place at h ⊢
    rw [List.cons_append]
    by_cases hy : y = x
    · simp [hy]
    · simp only [hy, if_false] at h ⊢
      rw [place_app_lt x d e (by simpa using h)]
theorem place_app_new (x : V) : ∀ (d : List V), ¬ place x d < d.length → place x (d ++ [x]) = d.length
  | [], _ => by simp [place]
  | y :: d, h => by
    unfold place at h ⊢
    rw [List.cons_append]
    by_cases hy : y = x
    · simp [hy] at h
    · simp only [hy, if_false] at h ⊢
      rw [place_app_new x d (by simpa using h)]; simp
theorem place_at (x : V) : ∀ (d : List V), place x d < d.length → d[place x d]? = some x
  | [], h => by simp at h
  | y :: d, h => by
    unfold place at h ⊢
    by_cases hy : y = x
    · simp [hy]
    · simp only [hy, if_false] at h ⊢
      simp
      exact place_at x d (by simpa using h)
theorem which_fold : ∀ (l : List V) (d : List V) (ws : List UInt8), ∃ e, (l.foldl whichS (d, ws)).1 = d ++ e ∧ (l.foldl whichS (d, ws)).2 = ws ++ l.flatMap (fun x => uvarint (place x (l.foldl whichS (d, ws)).1)) ∧ ∀ x ∈ l, place x (l.foldl whichS (d, ws)).1 < (l.foldl whichS (d, ws)).1.length
  | [], d, ws => ⟨[], by simp, by simp, by simp⟩
  | x :: l, d, ws => by
    rw [List.foldl_cons]
    by_cases h : place x d < d.length
    · rw [whichS_hit (s := (d, ws)) h]
      obtain ⟨e, h1, h2, h3⟩ := which_fold l d (ws ++ uvarint (place x d))
      have hp : place x (l.foldl whichS (d, ws ++ uvarint (place x d))).1 = place x d := by rw [h1]; exact place_app_lt x d e h
      refine ⟨e, h1, ?_, fun y hy => ?_⟩
      · rw [List.flatMap_cons, hp, h2]; simp
      · simp at hy
        rcases hy with rfl | hy
        · rw [hp, h1, List.length_append]; omega
        · exact h3 y hy
    · rw [whichS_miss (s := (d, ws)) h]
      obtain ⟨e, h1, h2, h3⟩ := which_fold l (d ++ [x]) (ws ++ uvarint d.length)
      have hq : place x (d ++ [x]) = d.length := place_app_new x d h
      have hp : place x (l.foldl whichS (d ++ [x], ws ++ uvarint d.length)).1 = d.length := by rw [h1, place_app_lt x _ e (by rw [hq]; simp), hq]
      refine ⟨[x] ++ e, by rw [h1, List.append_assoc], ?_, fun y hy => ?_⟩
      · rw [List.flatMap_cons, hp, h2]; simp
      · simp at hy
        rcases hy with rfl | hy
        · rw [hp, h1]; simp
        · exact h3 y hy
theorem whichGo_enc {d : List V} (hd : d.length ≤ 1000) : ∀ (l A : List V) (rest : List UInt8), (∀ x ∈ l, place x d < d.length) → whichGo d l.length A (l.flatMap (fun x => uvarint (place x d)) ++ rest, false) = (A ++ l, (rest, false))
  | [], A, rest, _ => by simp [whichGo]
  | x :: l, A, rest, h => by
    have hx := h x (by simp)
    rw [List.length_cons, whichGo, List.flatMap_cons, List.append_assoc, upToR_enc (by omega) (by omega)]
    simp only [Bool.false_eq_true, if_false, place_at x d hx, Option.getD_some]
    rw [whichGo_enc hd l (A ++ [x]) rest (fun y hy => h y (by simp [hy]))]
    simp
theorem wst_full (l : List V) : wst l l.length = l.foldl whichS ([], []) := by unfold wst; rw [List.take_of_length_le (Nat.le_refl _)]
theorem whichR_enc {kind : Int} {l : List V} (hg : ∀ v ∈ l, Good kind v) (hf : Few l) (rest : List UInt8) : whichR kind l.length (whichB l ++ rest, false) = (l, (rest, false)) := by
  obtain ⟨e, h1, h2, h3⟩ := which_fold l [] []
  obtain ⟨w1, w2, w3⟩ := wst_few hf l.length (Nat.le_refl _)
  have h60 := hf.1
  rw [wst_full] at w1 w2 w3
  unfold whichB
  generalize hS : l.foldl whichS ([], []) = S at *
  obtain ⟨d, ws⟩ := S
  simp only at h1 h2 h3 w1 w2 w3 ⊢
  have hu : upToR (l.length : Int) (uvarint d.length ++ orderB d ++ ws ++ rest, false) = (d.length, (orderB d ++ (ws ++ rest), false)) := by
    rw [List.append_assoc, List.append_assoc, upToR_enc (by omega) (by omega)]
  unfold whichR
  rw [hu]
  simp only
  rw [valuesR_enc d (fun x hx => hg x (w2 x hx))]
  simp only
  rw [h2, List.nil_append, whichGo_enc (by omega) l [] rest h3]
  simp
theorem fewTo_way (kind : Int) (l : List V) : ∀ k, 1 ≤ k → ∃ way, way < k ∧ (way = 3 → kind = 1) ∧ fewTo kind l k = way.toUInt8 :: wayB way l
  | 0, h => by omega
  | 1, _ => ⟨0, by omega, by omega, rfl⟩
  | k + 2, _ => by
    obtain ⟨way, h1, h2, h3⟩ := fewTo_way kind l (k + 1) (by omega)
    rw [fewTo_next kind l (k + 1) (by omega)]
    split
    · exact ⟨way, by omega, h2, h3⟩
    · rename_i hn
      unfold better
      split
      · refine ⟨k + 1, by omega, fun h => ?_, rfl⟩
        exact Classical.byContradiction fun h4 => hn ⟨h, h4⟩
      · exact ⟨way, by omega, h2, h3⟩
theorem knownR_enc {kind : Int} {l : List V} {way : Nat} (hw : way < 4) (h3 : way = 3 → kind = 1) (hg : ∀ v ∈ l, Good kind v) (hf : Few l) (rest : List UInt8) : knownR kind way l.length (wayB way l ++ rest, false) = (l, (rest, false)) := by
  have h60 := hf.1
  have hc : way = 0 ∨ way = 1 ∨ way = 2 ∨ way = 3 := by omega
  rcases hc with rfl | rfl | rfl | rfl
  · exact valuesR_enc l hg rest
  · show runsR kind l.length ((runsB l.length l ++ rest).length + 2) [] (runsB l.length l ++ rest, false) = _
    rw [runsR_enc (by omega) l.length l [] _ rest rfl hg (by simp) (by simp; omega)]
    simp
  · exact whichR_enc hg hf rest
  · obtain rfl := h3 rfl
    exact stepsR_enc l 0 hg rest
theorem bit_keep (x s t : Nat) (h : t < s) : (x + 2 ^ s) / 2 ^ t % 2 = x / 2 ^ t % 2 := by
  obtain ⟨u, rfl⟩ : ∃ u, s = t + 1 + u := ⟨s - t - 1, by omega⟩
  have e : 2 ^ (t + 1 + u) = 2 ^ t * (2 * 2 ^ u) := by rw [Nat.pow_add, Nat.pow_succ, Nat.mul_assoc]
  rw [e, Nat.add_mul_div_left _ _ (Nat.two_pow_pos t)]
  omega
theorem marks_bit (l : List V) (m : Nat) (hm : l.length ≤ 8 * m) : ∀ k, k ≤ l.length → ∀ i x, i < k → l[i]? = some x → ((marksTo l m k)[i / 8]?.getD 0) / 2 ^ (i % 8) % 2 = if nul x = true then 1 else 0
  | 0, _, i, x, hi, _ => by omega
  | k + 1, hk, i, x, hi, hx => by
    obtain ⟨y, hy⟩ := getEx (l := l) (k := k) (by omega)
    have hlm : k / 8 < (marksTo l m k).length := by rw [marksTo_len]; omega
    obtain ⟨z, hz⟩ := getEx hlm
    have hzl := marksTo_lt l m k (k / 8) z hz
    rw [show min (k - 8 * (k / 8)) 8 = k % 8 by omega] at hzl
    cases hn : nul y with
    | true =>
      rw [marksTo_yes hy hn, hz, Option.getD_some]
      by_cases hd : k / 8 = i / 8
      · rw [← hd, List.getElem?_set_self hlm, Option.getD_some]
        by_cases hki : i = k
        · subst hki
          rw [hy] at hx; injection hx with hx; subst hx
          rw [hn, if_pos rfl, Nat.add_div_right _ (Nat.two_pow_pos _), Nat.div_eq_of_lt hzl]
        · rw [bit_keep _ _ _ (by omega)]
          have ih := marks_bit l m hm k (by omega) i x (by omega) hx
          rw [← hd, hz, Option.getD_some] at ih
          exact ih
      · rw [List.getElem?_set_ne hd]
        exact marks_bit l m hm k (by omega) i x (by omega) hx
    | false =>
      rw [marksTo_no hy hn]
      by_cases hki : i = k
      · subst hki
        rw [hy] at hx; injection hx with hx; subst hx
        rw [hn, hz, Option.getD_some, Nat.div_eq_of_lt hzl]; rfl
      · exact marks_bit l m hm k (by omega) i x (by omega) hx
theorem marksB_bit {l : List V} {i : Nat} {x : V} (hx : l[i]? = some x) : bitOf (marksB l) i = if nul x = true then 1 else 0 := by
  have hi : i < l.length := by
    rcases Nat.lt_or_ge i l.length with h' | h'
    · exact h'
    · rw [List.getElem?_eq_none h'] at hx; cases hx
  have h := marks_bit l ((l.length + 7) / 8) (by omega) l.length (Nat.le_refl _) i x hi hx
  unfold bitOf marksB
  have hlm : i / 8 < (marksN l).length := by unfold marksN; rw [marksTo_len]; omega
  obtain ⟨z, hz⟩ := getEx hlm
  have hz2 : (marksTo l ((l.length + 7) / 8) l.length)[i / 8]? = some z := hz
  rw [hz2, Option.getD_some] at h
  have hzl := marksTo_lt l ((l.length + 7) / 8) l.length (i / 8) z hz2
  have h8 : 2 ^ (min (l.length - 8 * (i / 8)) 8) ≤ 2 ^ 8 := pow_mono (by omega)
  rw [List.getElem?_map, hz]
  simp only [Option.map_some, Option.getD_some]
  rw [toUInt8_toNat (by omega)]
  exact h
theorem putAll_app : ∀ (l : List V) (ps : List Nat) (vs : List V) (p : Nat) (x : V), ps.length = vs.length → putAll l (ps ++ [p]) (vs ++ [x]) = (putAll l ps vs).set p x
  | l, [], [], p, x, _ => by simp [putAll]
  | l, [], _ :: _, p, x, h => by simp at h
  | l, _ :: _, [], p, x, h => by simp at h
  | l, q :: ps, y :: vs, p, x, h => by
    rw [List.cons_append, List.cons_append, putAll, putAll]
    exact putAll_app _ ps vs p x (by simpa using h)
theorem put_back {l : List V} (hz : ∀ x ∈ l, nul x = true → x = (0, 0, str [])) : ∀ k, k ≤ l.length → (placesTo (marksB l) k).length = (known (l.take k)).length ∧ putAll (List.replicate l.length (0, 0, str [])) (placesTo (marksB l) k) (known (l.take k)) = l.take k ++ List.replicate (l.length - k) (0, 0, str [])
  | 0, _ => by simp [placesTo, known, putAll_nil']
  | k + 1, hk => by
    obtain ⟨h1, h2⟩ := put_back hz k (by omega)
    obtain ⟨x, hx⟩ := getEx (l := l) (k := k) (by omega)
    have hb := marksB_bit hx
    have er : l.length - k = (l.length - (k + 1)) + 1 := by omega
    have hkl : (l.take k).length = k := by simp; omega
    cases hn : nul x with
    | true =>
      rw [hn, if_pos rfl] at hb
      rw [places_no (by omega), take_next hx]
      have e : known (l.take k ++ [x]) = known (l.take k) := by simp [known, hn]
      rw [e]
      refine ⟨h1, ?_⟩
      rw [h2, er, List.replicate_succ, hz x (List.mem_of_getElem? hx) hn]; simp
    | false =>
      rw [hn] at hb
      simp only [Bool.false_eq_true, if_false] at hb
      rw [places_yes hb, take_next hx]
      have e : known (l.take k ++ [x]) = known (l.take k) ++ [x] := by simp [known, hn]
      rw [e]
      refine ⟨by simp [h1], ?_⟩
      rw [putAll_app _ _ _ _ _ h1, h2, er, List.replicate_succ, List.set_append_right _ _ (by omega), hkl]
      simp
/-- A column that can be. -/
theorem fits_good {kind : Int} {l : List V} (h : fitsB kind l = true) (ho : Okl l) : (∀ v ∈ known l, Good kind v) ∧ (∀ x ∈ l, nul x = true → x = (0, 0, str [])) := by
  have hk := fits_kind h
  simp only [fitsB, Bool.and_eq_true, Bool.not_eq_true', List.any_eq_false] at h
  have hemp : ∀ t : ByteArray, t.toList.isEmpty = true → t = str [] := fun t ht => by
    have : t.data.toList = [] := by simpa [ByteArray.toList_eq] using ht
    rw [← str_self t, this]
  have hone : ∀ x ∈ l, rightV x.1 x.2.1 x.2.2 = true ∧ (x.1 = 0 ∨ x.1 = kind) := fun x hx => by
    have := h.2 x hx
    simp only [badV, Bool.or_eq_true, not_or, Bool.not_eq_true, Bool.not_eq_false', Bool.and_eq_false_iff, beq_iff_eq] at this
    exact this
  constructor
  · intro v hv
    have hm := List.mem_filter.1 hv
    obtain ⟨h1, h2⟩ := hone v hm.1
    have hv0 : v.1 ≠ 0 := by simpa [nul] using hm.2
    have hvk : v.1 = kind := h2.resolve_left hv0
    have hr := ho v hm.1
    rcases hk with rfl | rfl
    · rw [hvk] at h1
      exact .inl ⟨rfl, hvk, hemp _ (by simpa [rightV] using h1), hr.1, hr.2.1⟩
    · rw [hvk] at h1
      simp only [rightV] at h1
      have h3 : v.2.1 = 0 ∧ rtB v.2.2 = true := by simpa using h1
      exact .inr ⟨rfl, hvk, h3.1, by have := h3.2; simp only [rtB, Bool.and_eq_true, decide_eq_true_eq] at this; exact this.1⟩
  · intro x hx hn
    obtain ⟨h1, _⟩ := hone x hx
    obtain ⟨k, n, t⟩ := x
    have hk0 : k = 0 := by simpa [nul] using hn
    subst hk0
    have h3 : n = 0 ∧ t.toList.isEmpty = true := by simpa [rightV] using h1
    rw [h3.1, hemp t h3.2]
theorem colR_enc {kind : Int} {l : List V} (h : fitsB kind l = true) (ho : Okl l) (hl : l.length ≤ 60) (rest : List UInt8) : colR kind (encB kind l ++ rest) = (l, false) := by
  obtain ⟨hg, hz⟩ := fits_good h ho
  have hf := fits_few h ho hl
  obtain ⟨way, hw1, hw2, hw3⟩ := fewTo_way kind (known l) 4 (by omega)
  have hfew : fewB kind (known l) = way.toUInt8 :: wayB way (known l) := hw3
  have e0 : encB kind l ++ rest = uvarint l.length ++ (marksB l ++ ([way.toUInt8] ++ (wayB way (known l) ++ rest))) := by
    unfold encB; rw [hfew]; simp
  obtain ⟨hp1, hp2⟩ := put_back hz l.length (Nat.le_refl _)
  rw [List.take_of_length_le (Nat.le_refl _)] at hp1 hp2
  rw [e0]
  have eN : colN (uvarint l.length ++ (marksB l ++ ([way.toUInt8] ++ (wayB way (known l) ++ rest)))) = (l.length, (marksB l ++ ([way.toUInt8] ++ (wayB way (known l) ++ rest)), false)) := upToR_enc (by omega) (by omega) _
  have eB : colB (uvarint l.length ++ (marksB l ++ ([way.toUInt8] ++ (wayB way (known l) ++ rest)))) = (marksB l, ([way.toUInt8] ++ (wayB way (known l) ++ rest), false)) := by
    unfold colB; rw [eN]; exact bytesR_enc (marksB_len l) _ _
  have eW : colW (uvarint l.length ++ (marksB l ++ ([way.toUInt8] ++ (wayB way (known l) ++ rest)))) = ([way.toUInt8], (wayB way (known l) ++ rest, false)) := by
    unfold colW; rw [eB]; exact bytesR_enc rfl _ _
  have eP : colP (uvarint l.length ++ (marksB l ++ ([way.toUInt8] ++ (wayB way (known l) ++ rest)))) = placesTo (marksB l) l.length := by
    unfold colP; rw [eN, eB]
  have eK : colK kind (uvarint l.length ++ (marksB l ++ ([way.toUInt8] ++ (wayB way (known l) ++ rest)))) = (known l, (rest, false)) := by
    unfold colK; rw [eP, eW, hp1]
    have : (([way.toUInt8] : List UInt8)[0]?.getD 0).toNat = way := toUInt8_toNat (by omega)
    simp only at this ⊢
    rw [this]
    exact knownR_enc hw1 hw2 hg (known_few hf) rest
  unfold colR
  rw [eW, eK, eN, eP]
  simp only [Bool.false_eq_true, if_false]
  rw [hp2]; simp
theorem decR_enc {kind : Int} {l : List V} (h : fitsB kind l = true) (ho : Okl l) (hl : l.length ≤ 60) : decR kind (encB kind l) = some l := by
  have := colR_enc h ho hl []
  rw [List.append_nil] at this
  unfold decR
  rw [this]
  simp [h]
theorem decR_some {kind : Int} {s : List UInt8} {m : List V} (h : decR kind s = some m) : fitsB kind m = true ∧ encB kind m = s ∧ m = (colR kind s).1 := by
  unfold decR at h
  split at h
  · cases h
  · split at h
    · rename_i h2; injection h with h; rw [← h]; exact ⟨h2.1, h2.2, rfl⟩
    · cases h
theorem decR_cut {kind : Int} {l : List V} (h : fitsB kind l = true) (ho : Okl l) (hl : l.length ≤ 60) (k : Nat) (hk : k < (encB kind l).length) (hb : (encB kind l).length ≤ 1000000) : decR kind ((encB kind l).take k) = none := by
  cases hd : decR kind ((encB kind l).take k) with
  | none => rfl
  | some m =>
    exfalso
    obtain ⟨h1, h2, h3⟩ := decR_some hd
    have hmo := colR_ok (k := kind) (l := (encB kind l).take k) (by simp; omega)
    rw [← h3] at hmo
    have e := colR_enc h1 hmo.1 hmo.2 ((encB kind l).drop k)
    rw [h2, List.take_append_drop] at e
    have e2 := colR_enc h ho hl []
    rw [List.append_nil, e] at e2
    have e3 : m = l := by injection e2
    rw [e3] at h2
    have := congrArg List.length h2
    simp at this
    omega
end Go.Proofs.YtodemklghajdeaaGreatDoor.E
