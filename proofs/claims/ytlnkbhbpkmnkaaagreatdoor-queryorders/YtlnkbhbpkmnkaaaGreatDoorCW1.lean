/- What schema.small and schema.digit do, said of every call. -/
import Derived.Test.YtlnkbhbpkmnkaaaGreatDoorEWn
import Derived.WalkKit
import Derived.Sort.Walk0
import Derived.Test.YtlnkbhbpkmnkaaaGreatDoorProg
import Derived.WalkSpells
import Derived.WalkLawsBesides
import Derived.Deep.RegionHeld3
import Derived.Lib.SmallJoins
import Derived.Deep.RegionWith
import Derived.Lib.SlBy
namespace Go.Proofs.YtlnkbhbpkmnkaaaGreatDoor.E
open Go.RowKit Go.Proofs Go.Shelf

def OkV (x : V) : Prop := -9223372036854775808 ≤ x.2.1 ∧ x.2.1 ≤ 9223372036854775807 ∧ x.2.2.size ≤ 1000000
theorem okV_zero : OkV (0, 0, str []) := ⟨by decide, by decide, by rw [show (0, 0, str []).2.2 = str [] from rfl, str_size]; decide⟩
theorem valueR_ok {k : Int} {s : St} (h : s.1.length ≤ 1000000) : OkV (valueR k s).1 := by
  unfold valueR
  split
  · have := unzig_in (numR_lt s)
    exact ⟨this.1, this.2, by rw [show (1, Lib.unzigzag (numR s).1, str []).2.2 = str [] from rfl, str_size]; decide⟩
  · refine ⟨by show (-9223372036854775808 : Int) ≤ 0; decide, by show (0 : Int) ≤ _; decide, ?_⟩
    show (str (bytesR (upToR 40 s).1 (upToR 40 s).2).1).size ≤ 1000000
    rw [str_size]
    have h2 := upToR_len 40 s
    unfold bytesR
    split
    · simp
    · simp; omega
theorem valuesR_ok {k : Int} : ∀ (n : Nat) (s : St), s.1.length ≤ 1000000 → ∀ x ∈ (valuesR k n s).1, OkV x
  | 0, _, _, x, h => by simp [valuesR] at h
  | n + 1, s, hs, x, h => by
    simp only [valuesR, List.mem_cons] at h
    rcases h with rfl | h
    · exact valueR_ok hs
    · exact valuesR_ok n _ (Nat.le_trans (valueR_len k s) hs) x h
theorem stepsR_ok : ∀ (n : Nat) (a : Int) (s : St), ∀ x ∈ (stepsR n a s).1, OkV x
  | 0, _, _, x, h => by simp [stepsR] at h
  | n + 1, a, s, x, h => by
    simp only [stepsR, List.mem_cons] at h
    rcases h with rfl | h
    · have := wr64_in (a + Lib.unzigzag (numR s).1)
      refine ⟨this.1, this.2, ?_⟩
      show (str []).size ≤ _
      rw [str_size]; decide
    · exact stepsR_ok n _ _ x h
theorem runsR_ok {k : Int} {n : Nat} : ∀ (f : Nat) (D : List V) (s : St), s.1.length ≤ 1000000 → (∀ x ∈ D, OkV x) → ∀ x ∈ (runsR k n f D s).1, OkV x
  | 0, D, s, _, hd, x, h => hd x h
  | f + 1, D, s, hs, hd, x, h => by
    by_cases hc : D.length < n ∧ s.2 = false
    · rw [runsR_go hc] at h
      have h1 := upToR_len ((n - D.length : Nat) : Int) s
      have h2 := valueR_len k (upToR ((n - D.length : Nat) : Int) s).2
      refine runsR_ok f _ _ (by unfold runSt; omega) (fun y hy => ?_) x h
      unfold runL at hy
      simp only [List.mem_append, List.mem_replicate] at hy
      rcases hy with hy | ⟨_, rfl⟩
      · exact hd y hy
      · exact valueR_ok (by omega)
    · rw [runsR_stop hc] at h; exact hd x h
theorem whichGo_ok {d : List V} (hd : ∀ x ∈ d, OkV x) : ∀ (n : Nat) (A : List V) (s : St), (∀ x ∈ A, OkV x) → ∀ x ∈ (whichGo d n A s).1, OkV x
  | 0, A, s, ha, x, h => ha x h
  | n + 1, A, s, ha, x, h => by
    rw [whichGo] at h
    split at h
    · simp at h
    · refine whichGo_ok hd n _ _ (fun y hy => ?_) x h
      simp only [List.mem_append, List.mem_singleton] at hy
      rcases hy with hy | rfl
      · exact ha y hy
      · cases e : d[(upToR ((d.length : Int) - 1) s).1]? with
        | none => exact okV_zero
        | some z => exact hd z (List.mem_of_getElem? e)
theorem knownR_ok {k : Int} {way n : Nat} {s : St} (h : s.1.length ≤ 1000000) : ∀ x ∈ (knownR k way n s).1, OkV x := by
  unfold knownR
  split
  · exact valuesR_ok n s h
  · split
    · exact runsR_ok _ _ _ h (by simp)
    · split
      · exact whichGo_ok (valuesR_ok _ _ (Nat.le_trans (upToR_len _ _) h)) _ _ _ (by simp)
      · split
        · exact stepsR_ok n 0 s
        · simp
theorem putAll_ok : ∀ (l : List V) (ps : List Nat) (vs : List V), (∀ x ∈ l, OkV x) → (∀ x ∈ vs, OkV x) → ∀ x ∈ putAll l ps vs, OkV x
  | l, [], vs, hl, _, x, h => by rw [putAll_nil'] at h; exact hl x h
  | l, q :: ps, [], hl, _, x, h => hl x h
  | l, q :: ps, y :: vs, hl, hv, x, h => by
    rw [putAll] at h
    refine putAll_ok _ ps vs (fun z hz => ?_) (fun z hz => hv z (by simp [hz])) x h
    rcases List.mem_or_eq_of_mem_set hz with h' | rfl
    · exact hl z h'
    · exact hv z (by simp)
theorem colR_ok {k : Int} {l : List UInt8} (h : l.length ≤ 1000000) : Okl (colR k l).1 ∧ (colR k l).1.length ≤ 60 := by
  have hn : ((colN l).1 : Int) ≤ 60 := by have := upToR_le 60 (l, false); unfold colN; omega
  unfold colR
  split
  · exact ⟨by intro x hx; simp at hx, by simp⟩
  · split
    · exact ⟨by intro x hx; simp at hx, by simp⟩
    · refine ⟨fun x hx => ?_, by simp only [putAll_len, List.length_replicate]; omega⟩
      have hw : (colW l).2.1.length ≤ 1000000 := Nat.le_trans (bytesR_len _ _) (Nat.le_trans (bytesR_len _ _) (Nat.le_trans (upToR_len 60 (l, false)) h))
      have := putAll_ok _ _ _ (fun z hz => by rw [List.eq_of_mem_replicate hz]; exact okV_zero) (knownR_ok hw) x hx
      exact ⟨this.1, this.2.1, by unfold maxLen; have := this.2.2; omega⟩
/-- What Decode finds. -/
def decR (kind : Int) (l : List UInt8) : Option (List V) :=
  if (colR kind l).2 then none else if fitsB kind (colR kind l).1 ∧ encB kind (colR kind l).1 = l then some (colR kind l).1 else none
def DecPost (r : Option (List V)) (w : World) (e : Ending) (w' : World) : Prop :=
  match r with
  | none => e = .returned (.tuple #[.slice none 0 0, .iface 89 (.int .i64 3)]) ∧ Below w.heap.size w w'
  | some L => ∃ v', e = .returned (.tuple #[v', .nilIface]) ∧ Sl w' v' L ∧ Below w.heap.size w w'
/-- The same, with what is told in memory of the call's own. -/
def DecOwn (r : Option (List V)) (w : World) (e : Ending) (w' : World) : Prop :=
  match r with
  | none => e = .returned (.tuple #[.slice none 0 0, .iface 89 (.int .i64 3)]) ∧ Below w.heap.size w w'
  | some L => ∃ v', e = .returned (.tuple #[v', .nilIface]) ∧ w'.ownsRow w.heap.size 29 3 v' L.length (flatV L) ∧ Below w.heap.size w w'
theorem dec_none {w w' : World} {e : Ending} (h : e = .returned (.tuple #[.slice none 0 0, .iface 89 (.int .i64 3)]) ∧ Below w.heap.size w w') : DecOwn none w e w' := h
theorem below_of_grown {w W w' : World} {o : Obj} (h : (w.alloc o).grownBy w' (some w.heap.size)) (_hW : W = w) : Below w.heap.size w w' :=
  ⟨h.os, h.tape, h.output, by have := h.size; simp at this; omega, fun k hk => (h.block k (by simp; omega) (by simp; omega)).trans (Below.heap_alloc _ _ _ hk)⟩

end Go.Proofs.YtlnkbhbpkmnkaaaGreatDoor.E
namespace Go.Proofs.YtlnkbhbpkmnkaaaGreatDoor.E
open Go.Lib

theorem rdGo_enc (x : Nat) (hx : x < 18446744073709551616) (rest : List UInt8) : ∀ (y : Nat) (pre : List UInt8) (acc : Nat), uvarint x = pre ++ uvarint y → acc + y * 2 ^ (7 * pre.length) = x → pre.length + (uvarint y).length ≤ 10 →
    rdGo (uvarint x ++ rest) pre.length (uvarint y ++ rest) acc = (x, rest, true) := by
  intro y
  induction y using Nat.strongRecOn with
  | ind y ih =>
    intro pre acc hsp hac hlen
    have hpos := uvarint_pos y
    have hp2 : 0 < 2 ^ (7 * pre.length) := Nat.two_pow_pos _
    by_cases h : y < 128
    · have e := uvarint_small h
      rw [e]
      have hc : (y.toUInt8).toNat = y := toUInt8_toNat (by omega)
      rw [List.singleton_append, rd_end (by omega) (by rw [hc]; exact h), hc]
      have e1 : y % 128 = y := Nat.mod_eq_of_lt h
      have e2 : y * 2 ^ (7 * pre.length) % 18446744073709551616 = y * 2 ^ (7 * pre.length) := Nat.mod_eq_of_lt (by omega)
      rw [e1, e2, hac]
      have e3 : (uvarint x ++ rest).take (pre.length + 1) = uvarint x := by
        have hl : (uvarint x).length = pre.length + 1 := by rw [hsp, e]; simp
        rw [← hl, List.take_left]
      rw [e3]; simp
    · have e := uvarint_big (x := y) (by omega)
      have h10 : pre.length ≠ 10 := by omega
      rw [e] at hlen ⊢
      have hc : ((y % 128 + 128).toUInt8).toNat = y % 128 + 128 := toUInt8_toNat (by omega)
      rw [List.cons_append, rd_go h10 (by rw [hc]; omega), hc]
      have e1 : (y % 128 + 128) % 128 = y % 128 := by omega
      have hle : y % 128 * 2 ^ (7 * pre.length) ≤ y * 2 ^ (7 * pre.length) := Nat.mul_le_mul_right _ (by omega)
      have e2 : y % 128 * 2 ^ (7 * pre.length) % 18446744073709551616 = y % 128 * 2 ^ (7 * pre.length) := Nat.mod_eq_of_lt (by omega)
      rw [e1, e2]
      have := ih (y / 128) (by omega) (pre ++ [(y % 128 + 128).toUInt8]) (acc + y % 128 * 2 ^ (7 * pre.length)) (by rw [hsp, e]; simp) (by
        rw [List.length_append, List.length_singleton, show 7 * (pre.length + 1) = 7 * pre.length + 7 by omega, Nat.pow_add]
        have e3 : y = y / 128 * 128 + y % 128 := by omega
        have e4 : y * 2 ^ (7 * pre.length) = y / 128 * (2 ^ (7 * pre.length) * 2 ^ 7) + y % 128 * 2 ^ (7 * pre.length) := by
          have : y / 128 * (2 ^ (7 * pre.length) * 2 ^ 7) = y / 128 * 128 * 2 ^ (7 * pre.length) := by
            rw [Nat.mul_comm (2 ^ (7 * pre.length)) (2 ^ 7), ← Nat.mul_assoc]
          rw [this, ← Nat.add_mul, ← e3]
        omega) (by simp at hlen ⊢; omega)
      rw [List.length_append, List.length_singleton] at this
      exact this
theorem rdNum_enc {x : Nat} (hx : x < 18446744073709551616) (rest : List UInt8) : rdNum (uvarint x ++ rest) = (x, rest, true) :=
  rdGo_enc x hx rest x [] 0 rfl (by simp) (by have := uvarint_length64 hx; simpa using this)
theorem numR_enc {x : Nat} (hx : x < 18446744073709551616) (rest : List UInt8) : numR (uvarint x ++ rest, false) = (x, (rest, false)) := by
  unfold numR; rw [rdNum_enc hx]; rfl
theorem upToR_enc {most : Int} {x : Nat} (hx : x < 18446744073709551616) (hm : (x : Int) ≤ most) (rest : List UInt8) : upToR most (uvarint x ++ rest, false) = (x, (rest, false)) := by
  have hb : badR most (uvarint x ++ rest, false) = false := by
    unfold badR; rw [numR_enc hx]; simp; omega
  rw [upToR_ok hb, numR_enc hx]
theorem bytesR_enc {n : Nat} {t : List UInt8} (h : t.length = n) (rest : List UInt8) (q : Bool) : bytesR n (t ++ rest, q) = (t, (rest, q)) := by
  unfold bytesR
  rw [if_neg (by simp; omega)]
  subst h
  simp
theorem unzig_zig {n : Int} : unzigzag (zigzag n) = n := by
  unfold unzigzag zigzag
  split <;> split <;> omega
/-- A value of a kind. -/
def Good (kind : Int) (v : V) : Prop := (kind = 1 ∧ v.1 = 1 ∧ v.2.2 = str [] ∧ -9223372036854775808 ≤ v.2.1 ∧ v.2.1 ≤ 9223372036854775807) ∨ (kind = 2 ∧ v.1 = 2 ∧ v.2.1 = 0 ∧ v.2.2.size ≤ 40)
theorem valueR_enc {kind : Int} {v : V} (h : Good kind v) (rest : List UInt8) : valueR kind (valB v ++ rest, false) = (v, (rest, false)) := by
  obtain ⟨k, n, t⟩ := v
  rcases h with ⟨rfl, h1, h2, h3, h4⟩ | ⟨rfl, h1, h2, h3⟩
  · simp only at h1 h2 h3 h4
    subst h1 h2
    unfold valueR valB
    rw [if_pos rfl, if_pos rfl, numR_enc (zigzag_lt h3 h4)]
    simp only [unzig_zig]
  · simp only at h1 h2 h3
    subst h1 h2
    unfold valueR valB
    rw [if_neg (by show ¬ (2 : Int) = 1; decide), if_neg (by show ¬ (2 : Int) = 1; decide)]
    have hl : t.data.toList.length = t.size := by rw [Array.length_toList]; rfl
    simp only
    rw [List.append_assoc, upToR_enc (by omega) (by omega), bytesR_enc hl]
    simp only [str_self]
theorem valuesR_enc {kind : Int} : ∀ (l : List V), (∀ v ∈ l, Good kind v) → ∀ rest, valuesR kind l.length (orderB l ++ rest, false) = (l, (rest, false))
  | [], _, rest => rfl
  | v :: l, h, rest => by
    have e : orderB (v :: l) = valB v ++ orderB l := rfl
    rw [e, List.length_cons, valuesR, List.append_assoc, valueR_enc (h v (by simp))]
    simp only
    rw [valuesR_enc l (fun x hx => h x (by simp [hx]))]
theorem same_split (v : V) : ∀ l : List V, l = List.replicate (same v l) v ++ l.drop (same v l)
  | [] => by simp [same]
  | x :: l => by
    unfold same
    by_cases h : x = v
    · subst h
      rw [if_pos rfl, List.replicate_succ, List.drop_succ_cons, List.cons_append, ← same_split x l]
    · rw [if_neg h]; simp
theorem runsR_enc {kind : Int} {n : Nat} (hn : n ≤ 1000) : ∀ (m : Nat) (l D : List V) (f : Nat) (rest : List UInt8), l.length = m → (∀ v ∈ l, Good kind v) → D.length + l.length = n → (runsB l.length l).length < f → runsR kind n f D (runsB l.length l ++ rest, false) = (D ++ l, (rest, false)) := by
  intro m
  induction m using Nat.strongRecOn with
  | ind m ih =>
    intro l D f rest hm hg hd hf
    cases l with
    | nil =>
      rw [runsR_stop (by simp at hd ⊢; omega)]
      simp [runsB]
    | cons v l =>
      obtain ⟨f, rfl⟩ : ∃ f', f = f' + 1 := ⟨f - 1, by omega⟩
      have hs := same_le v l
      rw [runsB_cons] at hf ⊢
      have hlt : D.length < n := by simp at hd; omega
      rw [runsR_go ⟨hlt, rfl⟩]
      have hu : upToR ((n - D.length : Nat) : Int) (uvarint (same v l + 1) ++ valB v ++ runsB (l.drop (same v l)).length (l.drop (same v l)) ++ rest, false) = (same v l + 1, (valB v ++ (runsB (l.drop (same v l)).length (l.drop (same v l)) ++ rest), false)) := by
        rw [List.append_assoc, List.append_assoc, upToR_enc (by simp at hd; omega) (by simp at hd; omega)]
      have e1 : runL kind n D (uvarint (same v l + 1) ++ valB v ++ runsB (l.drop (same v l)).length (l.drop (same v l)) ++ rest, false) = D ++ List.replicate (same v l + 1) v := by
        unfold runL; rw [hu]; simp only; rw [valueR_enc (hg v (by simp))]
      have e2 : runSt kind n D (uvarint (same v l + 1) ++ valB v ++ runsB (l.drop (same v l)).length (l.drop (same v l)) ++ rest, false) = (runsB (l.drop (same v l)).length (l.drop (same v l)) ++ rest, false) := by
        unfold runSt; rw [hu]; simp only; rw [valueR_enc (hg v (by simp))]
      rw [e1, e2]
      have hup := uvarint_pos (same v l + 1)
      rw [ih (l.drop (same v l)).length (by simp at hm ⊢; omega) _ _ _ _ rfl (fun x hx => hg x (by simp [List.mem_of_mem_drop hx])) (by simp at hd ⊢; omega) (by simp only [List.length_append] at hf; omega)]
      rw [List.append_assoc, List.replicate_succ, List.cons_append, ← same_split v l]
theorem wr64_id {x : Int} (h1 : -9223372036854775808 ≤ x) (h2 : x ≤ 9223372036854775807) : wr64 x = x := by unfold wr64; omega
theorem wr64_back (a n : Int) (h1 : -9223372036854775808 ≤ n) (h2 : n ≤ 9223372036854775807) : wr64 (a + wr64 (n - a)) = n := by unfold wr64; omega
theorem stepsR_enc : ∀ (l : List V) (a : Int), (∀ v ∈ l, Good 1 v) → ∀ rest, stepsR l.length a (stepsB a l ++ rest, false) = (l, (rest, false))
  | [], _, _, rest => rfl
  | (k, n, t) :: l, a, h, rest => by
    obtain ⟨h1, h2, h3, h4⟩ : k = 1 ∧ t = str [] ∧ -9223372036854775808 ≤ n ∧ n ≤ 9223372036854775807 := by
      rcases h (k, n, t) (by simp) with ⟨_, h1, h2, h3, h4⟩ | ⟨h0, _⟩
      · exact ⟨h1, h2, h3, h4⟩
      · exact absurd h0 (by decide)
    subst h1 h2
    have hz := zigzag_lt (wr64_in (n - a)).1 (wr64_in (n - a)).2
    simp only [List.length_cons, stepsR, stepsB, List.append_assoc]
    rw [numR_enc hz]
    simp only [unzig_zig, wr64_back a n h3 h4]
    rw [stepsR_enc l n (fun x hx => h x (by simp [hx]))]
end Go.Proofs.YtlnkbhbpkmnkaaaGreatDoor.E
namespace Go.Proofs.YtlnkbhbpkmnkaaaGreatDoor.E
open Go.Lib

theorem place_app_lt (x : V) : ∀ (d e : List V), place x d < d.length → place x (d ++ e) = place x d
  | [], e, h => by simp at h
  | y :: d, e, h => by
    unfold place at h ⊢
    rw [List.cons_append]
    by_cases hy : y = x
    · simp [hy]
    · simp only [hy, if_false] at h ⊢
      rw [place_app_lt x d e (by simpa using h)]
theorem place_app_new (x : V) : ∀ (d : List V), ¬ place x d < d.length → place x (d ++ [x]) = d.length
  | [], _ => by simp [place]
  | y :: d, h => by
    unfold place at h ⊢
    rw [List.cons_append]
    by_cases hy : y = x
    · simp [hy] at h
    · simp only [hy, if_false] at h ⊢
      rw [place_app_new x d (by simpa using h)]; simp
theorem place_at (x : V) : ∀ (d : List V), place x d < d.length → d[place x d]? = some x
  | [], h => by simp at h
  | y :: d, h => by
    unfold place at h ⊢
    by_cases hy : y = x
    · simp [hy]
    · simp only [hy, if_false] at h ⊢
      simp
      exact place_at x d (by simpa using h)
theorem which_fold : ∀ (l : List V) (d : List V) (ws : List UInt8), ∃ e, (l.foldl whichS (d, ws)).1 = d ++ e ∧ (l.foldl whichS (d, ws)).2 = ws ++ l.flatMap (fun x => uvarint (place x (l.foldl whichS (d, ws)).1)) ∧ ∀ x ∈ l, place x (l.foldl whichS (d, ws)).1 < (l.foldl whichS (d, ws)).1.length
  | [], d, ws => ⟨[], by simp, by simp, by simp⟩
  | x :: l, d, ws => by
    rw [List.foldl_cons]
    by_cases h : place x d < d.length
    · rw [whichS_hit (s := (d, ws)) h]
      obtain ⟨e, h1, h2, h3⟩ := which_fold l d (ws ++ uvarint (place x d))
      have hp : place x (l.foldl whichS (d, ws ++ uvarint (place x d))).1 = place x d := by rw [h1]; exact place_app_lt x d e h
      refine ⟨e, h1, ?_, fun y hy => ?_⟩
      · rw [List.flatMap_cons, hp, h2]; simp
      · simp at hy
        rcases hy with rfl | hy
        · rw [hp, h1, List.length_append]; omega
        · exact h3 y hy
    · rw [whichS_miss (s := (d, ws)) h]
      obtain ⟨e, h1, h2, h3⟩ := which_fold l (d ++ [x]) (ws ++ uvarint d.length)
      have hq : place x (d ++ [x]) = d.length := place_app_new x d h
      have hp : place x (l.foldl whichS (d ++ [x], ws ++ uvarint d.length)).1 = d.length := by rw [h1, place_app_lt x _ e (by rw [hq]; simp), hq]
      refine ⟨[x] ++ e, by rw [h1, List.append_assoc], ?_, fun y hy => ?_⟩
      · rw [List.flatMap_cons, hp, h2]; simp
      · simp at hy
        rcases hy with rfl | hy
        · rw [hp, h1]; simp
        · exact h3 y hy
theorem whichGo_enc {d : List V} (hd : d.length ≤ 1000) : ∀ (l A : List V) (rest : List UInt8), (∀ x ∈ l, place x d < d.length) → whichGo d l.length A (l.flatMap (fun x => uvarint (place x d)) ++ rest, false) = (A ++ l, (rest, false))
  | [], A, rest, _ => by simp [whichGo]
  | x :: l, A, rest, h => by
    have hx := h x (by simp)
    rw [List.length_cons, whichGo, List.flatMap_cons, List.append_assoc, upToR_enc (by omega) (by omega)]
    simp only [Bool.false_eq_true, if_false, place_at x d hx, Option.getD_some]
    rw [whichGo_enc hd l (A ++ [x]) rest (fun y hy => h y (by simp [hy]))]
    simp
theorem wst_full (l : List V) : wst l l.length = l.foldl whichS ([], []) := by unfold wst; rw [List.take_of_length_le (Nat.le_refl _)]
theorem whichR_enc {kind : Int} {l : List V} (hg : ∀ v ∈ l, Good kind v) (hf : Few l) (rest : List UInt8) : whichR kind l.length (whichB l ++ rest, false) = (l, (rest, false)) := by
  obtain ⟨e, h1, h2, h3⟩ := which_fold l [] []
  obtain ⟨w1, w2, w3⟩ := wst_few hf l.length (Nat.le_refl _)
  have h60 := hf.1
  rw [wst_full] at w1 w2 w3
  unfold whichB
  generalize hS : l.foldl whichS ([], []) = S at *
  obtain ⟨d, ws⟩ := S
  simp only at h1 h2 h3 w1 w2 w3 ⊢
  have hu : upToR (l.length : Int) (uvarint d.length ++ orderB d ++ ws ++ rest, false) = (d.length, (orderB d ++ (ws ++ rest), false)) := by
    rw [List.append_assoc, List.append_assoc, upToR_enc (by omega) (by omega)]
  unfold whichR
  rw [hu]
  simp only
  rw [valuesR_enc d (fun x hx => hg x (w2 x hx))]
  simp only
  rw [h2, List.nil_append, whichGo_enc (by omega) l [] rest h3]
  simp
theorem fewTo_way (kind : Int) (l : List V) : ∀ k, 1 ≤ k → ∃ way, way < k ∧ (way = 3 → kind = 1) ∧ fewTo kind l k = way.toUInt8 :: wayB way l
  | 0, h => by omega
  | 1, _ => ⟨0, by omega, by omega, rfl⟩
  | k + 2, _ => by
    obtain ⟨way, h1, h2, h3⟩ := fewTo_way kind l (k + 1) (by omega)
    rw [fewTo_next kind l (k + 1) (by omega)]
    split
    · exact ⟨way, by omega, h2, h3⟩
    · rename_i hn
      unfold better
      split
      · refine ⟨k + 1, by omega, fun h => ?_, rfl⟩
        exact Classical.byContradiction fun h4 => hn ⟨h, h4⟩
      · exact ⟨way, by omega, h2, h3⟩
theorem knownR_enc {kind : Int} {l : List V} {way : Nat} (hw : way < 4) (h3 : way = 3 → kind = 1) (hg : ∀ v ∈ l, Good kind v) (hf : Few l) (rest : List UInt8) : knownR kind way l.length (wayB way l ++ rest, false) = (l, (rest, false)) := by
  have h60 := hf.1
  have hc : way = 0 ∨ way = 1 ∨ way = 2 ∨ way = 3 := by omega
  rcases hc with rfl | rfl | rfl | rfl
  · exact valuesR_enc l hg rest
  · show runsR kind l.length ((runsB l.length l ++ rest).length + 2) [] (runsB l.length l ++ rest, false) = _
    rw [runsR_enc (by omega) l.length l [] _ rest rfl hg (by simp) (by simp; omega)]
    simp
  · exact whichR_enc hg hf rest
  · obtain rfl := h3 rfl
    exact stepsR_enc l 0 hg rest
theorem bit_keep (x s t : Nat) (h : t < s) : (x + 2 ^ s) / 2 ^ t % 2 = x / 2 ^ t % 2 := by
  obtain ⟨u, rfl⟩ : ∃ u, s = t + 1 + u := ⟨s - t - 1, by omega⟩
  have e : 2 ^ (t + 1 + u) = 2 ^ t * (2 * 2 ^ u) := by rw [Nat.pow_add, Nat.pow_succ, Nat.mul_assoc]
  rw [e, Nat.add_mul_div_left _ _ (Nat.two_pow_pos t)]
  omega
theorem marks_bit (l : List V) (m : Nat) (hm : l.length ≤ 8 * m) : ∀ k, k ≤ l.length → ∀ i x, i < k → l[i]? = some x → ((marksTo l m k)[i / 8]?.getD 0) / 2 ^ (i % 8) % 2 = if nul x = true then 1 else 0
  | 0, _, i, x, hi, _ => by omega
  | k + 1, hk, i, x, hi, hx => by
    obtain ⟨y, hy⟩ := getEx (l := l) (k := k) (by omega)
    have hlm : k / 8 < (marksTo l m k).length := by rw [marksTo_len]; omega
    obtain ⟨z, hz⟩ := getEx hlm
    have hzl := marksTo_lt l m k (k / 8) z hz
    rw [show min (k - 8 * (k / 8)) 8 = k % 8 by omega] at hzl
    cases hn : nul y with
    | true =>
      rw [marksTo_yes hy hn, hz, Option.getD_some]
      by_cases hd : k / 8 = i / 8
      · rw [← hd, List.getElem?_set_self hlm, Option.getD_some]
        by_cases hki : i = k
        · subst hki
          rw [hy] at hx; injection hx with hx; subst hx
          rw [hn, if_pos rfl, Nat.add_div_right _ (Nat.two_pow_pos _), Nat.div_eq_of_lt hzl]
        · rw [bit_keep _ _ _ (by omega)]
          have ih := marks_bit l m hm k (by omega) i x (by omega) hx
          rw [← hd, hz, Option.getD_some] at ih
          exact ih
      · rw [List.getElem?_set_ne hd]
        exact marks_bit l m hm k (by omega) i x (by omega) hx
    | false =>
      rw [marksTo_no hy hn]
      by_cases hki : i = k
      · subst hki
        rw [hy] at hx; injection hx with hx; subst hx
        rw [hn, hz, Option.getD_some, Nat.div_eq_of_lt hzl]; rfl
      · exact marks_bit l m hm k (by omega) i x (by omega) hx
theorem marksB_bit {l : List V} {i : Nat} {x : V} (hx : l[i]? = some x) : bitOf (marksB l) i = if nul x = true then 1 else 0 := by
  have hi : i < l.length := by
    rcases Nat.lt_or_ge i l.length with h' | h'
    · exact h'
    · rw [List.getElem?_eq_none h'] at hx; cases hx
  have h := marks_bit l ((l.length + 7) / 8) (by omega) l.length (Nat.le_refl _) i x hi hx
  unfold bitOf marksB
  have hlm : i / 8 < (marksN l).length := by unfold marksN; rw [marksTo_len]; omega
  obtain ⟨z, hz⟩ := getEx hlm
  have hz2 : (marksTo l ((l.length + 7) / 8) l.length)[i / 8]? = some z := hz
  rw [hz2, Option.getD_some] at h
  have hzl := marksTo_lt l ((l.length + 7) / 8) l.length (i / 8) z hz2
  have h8 : 2 ^ (min (l.length - 8 * (i / 8)) 8) ≤ 2 ^ 8 := pow_mono (by omega)
  rw [List.getElem?_map, hz]
  simp only [Option.map_some, Option.getD_some]
  rw [toUInt8_toNat (by omega)]
  exact h
theorem putAll_app : ∀ (l : List V) (ps : List Nat) (vs : List V) (p : Nat) (x : V), ps.length = vs.length → putAll l (ps ++ [p]) (vs ++ [x]) = (putAll l ps vs).set p x
  | l, [], [], p, x, _ => by simp [putAll]
  | l, [], _ :: _, p, x, h => by simp at h
  | l, _ :: _, [], p, x, h => by simp at h
  | l, q :: ps, y :: vs, p, x, h => by
    rw [List.cons_append, List.cons_append, putAll, putAll]
    exact putAll_app _ ps vs p x (by simpa using h)
theorem put_back {l : List V} (hz : ∀ x ∈ l, nul x = true → x = (0, 0, str [])) : ∀ k, k ≤ l.length → (placesTo (marksB l) k).length = (known (l.take k)).length ∧ putAll (List.replicate l.length (0, 0, str [])) (placesTo (marksB l) k) (known (l.take k)) = l.take k ++ List.replicate (l.length - k) (0, 0, str [])
  | 0, _ => by simp [placesTo, known, putAll_nil']
  | k + 1, hk => by
    obtain ⟨h1, h2⟩ := put_back hz k (by omega)
    obtain ⟨x, hx⟩ := getEx (l := l) (k := k) (by omega)
    have hb := marksB_bit hx
    have er : l.length - k = (l.length - (k + 1)) + 1 := by omega
    have hkl : (l.take k).length = k := by simp; omega
    cases hn : nul x with
    | true =>
      rw [hn, if_pos rfl] at hb
      rw [places_no (by omega), take_next hx]
      have e : known (l.take k ++ [x]) = known (l.take k) := by simp [known, hn]
      rw [e]
      refine ⟨h1, ?_⟩
      rw [h2, er, List.replicate_succ, hz x (List.mem_of_getElem? hx) hn]; simp
    | false =>
      rw [hn] at hb
      simp only [Bool.false_eq_true, if_false] at hb
      rw [places_yes hb, take_next hx]
      have e : known (l.take k ++ [x]) = known (l.take k) ++ [x] := by simp [known, hn]
      rw [e]
      refine ⟨by simp [h1], ?_⟩
      rw [putAll_app _ _ _ _ _ h1, h2, er, List.replicate_succ, List.set_append_right _ _ (by omega), hkl]
      simp
/-- A column that can be. -/
theorem fits_good {kind : Int} {l : List V} (h : fitsB kind l = true) (ho : Okl l) : (∀ v ∈ known l, Good kind v) ∧ (∀ x ∈ l, nul x = true → x = (0, 0, str [])) := by
  have hk := fits_kind h
  simp only [fitsB, Bool.and_eq_true, Bool.not_eq_true', List.any_eq_false] at h
  have hemp : ∀ t : ByteArray, t.toList.isEmpty = true → t = str [] := fun t ht => by
    have : t.data.toList = [] := by simpa [ByteArray.toList_eq] using ht
    rw [← str_self t, this]
  have hone : ∀ x ∈ l, rightV x.1 x.2.1 x.2.2 = true ∧ (x.1 = 0 ∨ x.1 = kind) := fun x hx => by
    have := h.2 x hx
    simp only [badV, Bool.or_eq_true, not_or, Bool.not_eq_true, Bool.not_eq_false', Bool.and_eq_false_iff, beq_iff_eq] at this
    exact this
  constructor
  · intro v hv
    have hm := List.mem_filter.1 hv
    obtain ⟨h1, h2⟩ := hone v hm.1
    have hv0 : v.1 ≠ 0 := by simpa [nul] using hm.2
    have hvk : v.1 = kind := h2.resolve_left hv0
    have hr := ho v hm.1
    rcases hk with rfl | rfl
    · rw [hvk] at h1
      exact .inl ⟨rfl, hvk, hemp _ (by simpa [rightV] using h1), hr.1, hr.2.1⟩
    · rw [hvk] at h1
      simp only [rightV] at h1
      have h3 : v.2.1 = 0 ∧ rtB v.2.2 = true := by simpa using h1
      exact .inr ⟨rfl, hvk, h3.1, by have := h3.2; simp only [rtB, Bool.and_eq_true, decide_eq_true_eq] at this; exact this.1⟩
  · intro x hx hn
    obtain ⟨h1, _⟩ := hone x hx
    obtain ⟨k, n, t⟩ := x
    have hk0 : k = 0 := by simpa [nul] using hn
    subst hk0
    have h3 : n = 0 ∧ t.toList.isEmpty = true := by simpa [rightV] using h1
    rw [h3.1, hemp t h3.2]
theorem colR_enc {kind : Int} {l : List V} (h : fitsB kind l = true) (ho : Okl l) (hl : l.length ≤ 60) (rest : List UInt8) : colR kind (encB kind l ++ rest) = (l, false) := by
  obtain ⟨hg, hz⟩ := fits_good h ho
  have hf := fits_few h ho hl
  obtain ⟨way, hw1, hw2, hw3⟩ := fewTo_way kind (known l) 4 (by omega)
  have hfew : fewB kind (known l) = way.toUInt8 :: wayB way (known l) := hw3
  have e0 : encB kind l ++ rest = uvarint l.length ++ (marksB l ++ ([way.toUInt8] ++ (wayB way (known l) ++ rest))) := by
    unfold encB; rw [hfew]; simp
  obtain ⟨hp1, hp2⟩ := put_back hz l.length (Nat.le_refl _)
  rw [List.take_of_length_le (Nat.le_refl _)] at hp1 hp2
  rw [e0]
  have eN : colN (uvarint l.length ++ (marksB l ++ ([way.toUInt8] ++ (wayB way (known l) ++ rest)))) = (l.length, (marksB l ++ ([way.toUInt8] ++ (wayB way (known l) ++ rest)), false)) := upToR_enc (by omega) (by omega) _
  have eB : colB (uvarint l.length ++ (marksB l ++ ([way.toUInt8] ++ (wayB way (known l) ++ rest)))) = (marksB l, ([way.toUInt8] ++ (wayB way (known l) ++ rest), false)) := by
    unfold colB; rw [eN]; exact bytesR_enc (marksB_len l) _ _
  have eW : colW (uvarint l.length ++ (marksB l ++ ([way.toUInt8] ++ (wayB way (known l) ++ rest)))) = ([way.toUInt8], (wayB way (known l) ++ rest, false)) := by
    unfold colW; rw [eB]; exact bytesR_enc rfl _ _
  have eP : colP (uvarint l.length ++ (marksB l ++ ([way.toUInt8] ++ (wayB way (known l) ++ rest)))) = placesTo (marksB l) l.length := by
    unfold colP; rw [eN, eB]
  have eK : colK kind (uvarint l.length ++ (marksB l ++ ([way.toUInt8] ++ (wayB way (known l) ++ rest)))) = (known l, (rest, false)) := by
    unfold colK; rw [eP, eW, hp1]
    have : (([way.toUInt8] : List UInt8)[0]?.getD 0).toNat = way := toUInt8_toNat (by omega)
    simp only at this ⊢
    rw [this]
    exact knownR_enc hw1 hw2 hg (known_few hf) rest
  unfold colR
  rw [eW, eK, eN, eP]
  simp only [Bool.false_eq_true, if_false]
  rw [hp2]; simp
theorem decR_enc {kind : Int} {l : List V} (h : fitsB kind l = true) (ho : Okl l) (hl : l.length ≤ 60) : decR kind (encB kind l) = some l := by
  have := colR_enc h ho hl []
  rw [List.append_nil] at this
  unfold decR
  rw [this]
  simp [h]
theorem decR_some {kind : Int} {s : List UInt8} {m : List V} (h : decR kind s = some m) : fitsB kind m = true ∧ encB kind m = s ∧ m = (colR kind s).1 := by
  unfold decR at h
  split at h
  · cases h
  · split at h
    · rename_i h2; injection h with h; rw [← h]; exact ⟨h2.1, h2.2, rfl⟩
    · cases h
theorem decR_cut {kind : Int} {l : List V} (h : fitsB kind l = true) (ho : Okl l) (hl : l.length ≤ 60) (k : Nat) (hk : k < (encB kind l).length) (hb : (encB kind l).length ≤ 1000000) : decR kind ((encB kind l).take k) = none := by
  cases hd : decR kind ((encB kind l).take k) with
  | none => rfl
  | some m =>
    exfalso
    obtain ⟨h1, h2, h3⟩ := decR_some hd
    have hmo := colR_ok (k := kind) (l := (encB kind l).take k) (by simp; omega)
    rw [← h3] at hmo
    have e := colR_enc h1 hmo.1 hmo.2 ((encB kind l).drop k)
    rw [h2, List.take_append_drop] at e
    have e2 := colR_enc h ho hl []
    rw [List.append_nil, e] at e2
    have e3 : m = l := by injection e2
    rw [e3] at h2
    have := congrArg List.length h2
    simp at this
    omega
end Go.Proofs.YtlnkbhbpkmnkaaaGreatDoor.E
namespace Go.Proofs.YtlnkbhbpkmnkaaaGreatDoor.S
open Go Go.Sort

def cmpI (x y : Int) : Int := if x < y then -1 else if y < x then 1 else 0
def cmpL (x y : List UInt8) : Int := if x < y then -1 else if y < x then 1 else 0
def cmpS (x y : ByteArray) : Int := cmpL x.data.toList y.data.toList
def orI (a b c : Int) : Int := if a = 0 then (if b = 0 then c else b) else a
def cmpV (k1 n1 : Int) (t1 : ByteArray) (k2 n2 : Int) (t2 : ByteArray) : Int := orI (cmpI k1 k2) (cmpI n1 n2) (cmpS t1 t2)

theorem cmpI_swap (x y : Int) : cmpI y x = -cmpI x y := by
  unfold cmpI; split <;> split <;> (try split) <;> omega
theorem cmpI_cases (x y : Int) : cmpI x y = -1 ∧ x < y ∨ cmpI x y = 0 ∧ x = y ∨ cmpI x y = 1 ∧ y < x := by
  unfold cmpI; split <;> (try split) <;> omega
theorem lt_tri (x y : List UInt8) : x < y ∨ x = y ∨ y < x := by
  rcases Classical.em (x < y) with h | h
  · exact .inl h
  · rcases Classical.em (y < x) with h' | h'
    · exact .inr (.inr h')
    · exact .inr (.inl (List.le_antisymm (List.not_lt.mp h') (List.not_lt.mp h)))
theorem cmpL_cases (x y : List UInt8) : cmpL x y = -1 ∧ x < y ∨ cmpL x y = 0 ∧ x = y ∨ cmpL x y = 1 ∧ y < x := by
  unfold cmpL
  rcases lt_tri x y with h | h | h
  · exact .inl ⟨if_pos h, h⟩
  · subst h; exact .inr (.inl ⟨by rw [if_neg (List.lt_irrefl x), if_neg (List.lt_irrefl x)], rfl⟩)
  · exact .inr (.inr ⟨by rw [if_neg (List.lt_asymm h), if_pos h], h⟩)
theorem cmpS_cases (x y : ByteArray) : cmpS x y = -1 ∧ x.data.toList < y.data.toList ∨ cmpS x y = 0 ∧ x = y ∨ cmpS x y = 1 ∧ y.data.toList < x.data.toList := by
  rcases cmpL_cases x.data.toList y.data.toList with h | ⟨h, e⟩ | h
  · exact .inl h
  · exact .inr (.inl ⟨h, ByteArray.ext (Array.toList_inj.mp e)⟩)
  · exact .inr (.inr h)
theorem no_lt {x y : List UInt8} (h : x < y) (h' : y < x) : False := List.lt_asymm h h'
theorem cmpS_swap (x y : ByteArray) : cmpS y x = -cmpS x y := by
  rcases cmpS_cases x y with ⟨h, e⟩ | ⟨h, e⟩ | ⟨h, e⟩ <;> rcases cmpS_cases y x with ⟨h', e'⟩ | ⟨h', e'⟩ | ⟨h', e'⟩ <;> rw [h, h'] <;> first
    | rfl
    | exact (no_lt e e').elim
    | (subst e; exact (List.lt_irrefl _ e').elim)
    | (subst e'; exact (List.lt_irrefl _ e).elim)
theorem cmpS_self (x : ByteArray) : cmpS x x = 0 := by
  rcases cmpS_cases x x with ⟨_, e⟩ | ⟨h, _⟩ | ⟨_, e⟩
  · exact (List.lt_irrefl _ e).elim
  · exact h
  · exact (List.lt_irrefl _ e).elim
theorem cmpS_trans (x y z : ByteArray) (m : Int) (h1 : cmpS x y = m) (h2 : cmpS y z = m) : cmpS x z = m := by
  rcases cmpS_cases x y with ⟨h, e⟩ | ⟨h, e⟩ | ⟨h, e⟩ <;> rcases cmpS_cases y z with ⟨h', e'⟩ | ⟨h', e'⟩ | ⟨h', e'⟩ <;> first
    | (exfalso; omega)
    | (subst e; subst e'; exact h1)
    | skip
  · have := List.lt_trans e e'
    rcases cmpS_cases x z with ⟨g, f⟩ | ⟨g, f⟩ | ⟨g, f⟩
    · omega
    · subst f; exact (List.lt_irrefl _ this).elim
    · exact (no_lt this f).elim
  · have := List.lt_trans e' e
    rcases cmpS_cases x z with ⟨g, f⟩ | ⟨g, f⟩ | ⟨g, f⟩
    · exact (no_lt this f).elim
    · subst f; exact (List.lt_irrefl _ this).elim
    · omega
theorem cmpV_range (k1 n1 : Int) (t1 : ByteArray) (k2 n2 : Int) (t2 : ByteArray) : cmpV k1 n1 t1 k2 n2 t2 = -1 ∨ cmpV k1 n1 t1 k2 n2 t2 = 0 ∨ cmpV k1 n1 t1 k2 n2 t2 = 1 := by
  unfold cmpV orI
  have := cmpI_cases k1 k2; have := cmpI_cases n1 n2; have := cmpS_cases t1 t2
  split <;> (try split) <;> omega
theorem cmpV_swap (k1 n1 : Int) (t1 : ByteArray) (k2 n2 : Int) (t2 : ByteArray) : cmpV k2 n2 t2 k1 n1 t1 = -cmpV k1 n1 t1 k2 n2 t2 := by
  unfold cmpV orI
  rw [cmpI_swap k1 k2, cmpI_swap n1 n2, cmpS_swap t1 t2]
  split <;> (try split) <;> (try split) <;> (try split) <;> omega
theorem cmpV_zero (k1 n1 : Int) (t1 : ByteArray) (k2 n2 : Int) (t2 : ByteArray) : cmpV k1 n1 t1 k2 n2 t2 = 0 ↔ k1 = k2 ∧ n1 = n2 ∧ t1 = t2 := by
  constructor
  · intro h
    unfold cmpV orI at h
    rcases cmpI_cases k1 k2 with ⟨a, a'⟩ | ⟨a, a'⟩ | ⟨a, a'⟩ <;> rcases cmpI_cases n1 n2 with ⟨b, b'⟩ | ⟨b, b'⟩ | ⟨b, b'⟩ <;> rcases cmpS_cases t1 t2 with ⟨c, c'⟩ | ⟨c, c'⟩ | ⟨c, c'⟩ <;> simp [a, b, c] at h
    exact ⟨a', b', c'⟩
  · rintro ⟨rfl, rfl, rfl⟩
    unfold cmpV orI
    rw [cmpS_self]
    simp [cmpI]
theorem cmpV_trans (k1 n1 : Int) (t1 : ByteArray) (k2 n2 : Int) (t2 : ByteArray) (k3 n3 : Int) (t3 : ByteArray) (m : Int) (h1 : cmpV k1 n1 t1 k2 n2 t2 = m) (h2 : cmpV k2 n2 t2 k3 n3 t3 = m) : cmpV k1 n1 t1 k3 n3 t3 = m := by
  unfold cmpV orI at *
  have a := cmpI_cases k1 k2; have b := cmpI_cases k2 k3; have c := cmpI_cases k1 k3
  have d := cmpI_cases n1 n2; have e := cmpI_cases n2 n3; have f := cmpI_cases n1 n3
  have g := cmpS_trans t1 t2 t3 m
  split at h1 <;> split at h2 <;> (try split at h1) <;> (try split at h2) <;> split <;> (try split) <;> first
    | omega
    | exact g h1 h2
    | (exfalso; omega)
theorem cmpV_zero_left (k1 n1 : Int) (t1 : ByteArray) (k2 n2 : Int) (t2 : ByteArray) (k3 n3 : Int) (t3 : ByteArray) (h1 : cmpV k1 n1 t1 k2 n2 t2 = 0) : cmpV k1 n1 t1 k3 n3 t3 = cmpV k2 n2 t2 k3 n3 t3 := by
  obtain ⟨rfl, rfl, rfl⟩ := (cmpV_zero ..).1 h1
  rfl
theorem bytesLess_data (x y : ByteArray) : Op.bytesLess x.toList y.toList = decide (x.data.toList < y.data.toList) := by
  rw [ByteArray.toList_eq, ByteArray.toList_eq, bytesLess_eq]
end Go.Proofs.YtlnkbhbpkmnkaaaGreatDoor.S
namespace Go.Proofs.YtlnkbhbpkmnkaaaGreatDoor.S
open Go.RowKit

theorem ret_int {k : IntKind} {a b : Int} (h : a = b) : Ending.returned (.int k a) = .returned (.int k b) := by rw [h]

set_option maxHeartbeats 400000 in
theorem cmpInt_any (x y : Int) (w : World) :
    Calls Tryz.prog 25 #[.int .i64 x, .int .i64 y] w fun e w' => e = .returned (.int .i64 (cmpI x y)) ∧ w' = w := by
  have H : Hid (cmpI x y = if x < y then -1 else if y < x then 1 else 0) := rfl
  go_enter Tryz.func25, Tryz.ntmps25
  go_wp2
  all_goals
    go_ret
    exact ⟨ret_int (by rw [H.out]; split <;> (try split) <;> omega), rfl⟩

set_option maxHeartbeats 400000 in
theorem cmpInt64_any (x y : Int) (w : World) :
    Calls Tryz.prog 26 #[.int .i64 x, .int .i64 y] w fun e w' => e = .returned (.int .i64 (cmpI x y)) ∧ w' = w := by
  have H : Hid (cmpI x y = if x < y then -1 else if y < x then 1 else 0) := rfl
  go_enter Tryz.func26, Tryz.ntmps26
  go_wp2
  all_goals
    go_ret
    exact ⟨ret_int (by rw [H.out]; split <;> (try split) <;> omega), rfl⟩

theorem cs1 {x y : ByteArray} (h : Op.bytesLess x.toList y.toList = true) : -1 = cmpS x y := by
  rw [bytesLess_data] at h
  have h := of_decide_eq_true h
  rcases cmpS_cases x y with ⟨g, f⟩ | ⟨g, f⟩ | ⟨g, f⟩
  · exact g.symm
  · subst f; exact (List.lt_irrefl _ h).elim
  · exact (no_lt h f).elim
theorem cs2 {x y : ByteArray} (h : Op.bytesLess x.toList y.toList = false) (h2 : (!x.toList == y.toList) = true) : 1 = cmpS x y := by
  rw [bytesLess_data] at h
  have h := of_decide_eq_false h
  rcases cmpS_cases x y with ⟨g, f⟩ | ⟨g, f⟩ | ⟨g, f⟩
  · exact (h f).elim
  · subst f; simp at h2
  · exact g.symm
theorem cs3 {x y : ByteArray} (h2 : (!x.toList == y.toList) = false) : 0 = cmpS x y := by
  have : x.data.toList = y.data.toList := by simpa [ByteArray.toList_eq] using h2
  have : x = y := ByteArray.ext (Array.toList_inj.mp this)
  rw [this, cmpS_self]

set_option maxHeartbeats 400000 in
theorem cmpStr_any (x y : ByteArray) (w : World) :
    Calls Tryz.prog 27 #[.string x, .string y] w fun e w' => e = .returned (.int .i64 (cmpS x y)) ∧ w' = w := by
  go_enter Tryz.func27, Tryz.ntmps27
  go_wp2
  all_goals
    go_ret
    exact ⟨ret_int (by first | exact cs1 ‹_› | exact cs2 ‹_› ‹_› | exact cs3 ‹_›), rfl⟩

theorem or1 {x : Int} (y z : Int) (h : ¬ x = 0) : x = orI x y z := by unfold orI; rw [if_neg h]
theorem or2 {y : Int} (z : Int) (h : ¬ y = 0) : y = orI 0 y z := by unfold orI; rw [if_pos rfl, if_neg h]
theorem or3 (z : Int) : z = orI 0 0 z := by unfold orI; rw [if_pos rfl, if_pos rfl]

set_option maxHeartbeats 1000000 in
theorem or_any (b : Nat) (x y z : Int) (w : World) (h0 : w.cell? ⟨b, 0, none⟩ = some (.int .i64 x)) (h1 : w.cell? ⟨b, 1, none⟩ = some (.int .i64 y)) (h2 : w.cell? ⟨b, 2, none⟩ = some (.int .i64 z)) :
    Calls Tryz.prog 24 #[.slice (some ⟨b, 0, none⟩) 3 3] w fun e w' => e = .returned (.int .i64 (orI x y z)) ∧ w' = w := by
  go_enter Tryz.func24, Tryz.ntmps24
  go_wp2
  go_loop [8] (fun i => (i = .int .i64 0) ∨ (i = .int .i64 1 ∧ x = 0) ∨ (i = .int .i64 2 ∧ x = 0 ∧ y = 0) ∨ (i = .int .i64 3 ∧ x = 0 ∧ y = 0 ∧ z = 0)) (fun i => 3 - (intOf i).toNat)
  case atStart => exact .inl rfl
  case round =>
    rcases hrel with rfl | ⟨rfl, rfl⟩ | ⟨rfl, rfl, rfl⟩ | ⟨rfl, rfl, rfl, rfl⟩
    · by_cases hx : x = 0
      · subst hx
        go_wp2
        go_round
        case rel => simp
        case measure => simp [intOf]
      · have hb : (x == 0) = false := by simpa using hx
        go_wp2
        go_ret
        exact ⟨ret_int (or1 _ _ hx), rfl⟩
    · by_cases hx : y = 0
      · subst hx
        go_wp2
        go_round
        case rel => simp
        case measure => simp [intOf]
      · have hb : (y == 0) = false := by simpa using hx
        go_wp2
        go_ret
        exact ⟨ret_int (or2 _ hx), rfl⟩
    · by_cases hx : z = 0
      · subst hx
        go_wp2
        go_round
        case rel => simp
        case measure => simp [intOf]
      · have hb : (z == 0) = false := by simpa using hx
        go_wp2
        go_ret
        exact ⟨ret_int (or3 _), rfl⟩
    · go_wp2
      go_ret
      exact ⟨ret_int (or3 _), rfl⟩

set_option maxHeartbeats 4000000 in
theorem compare_any (k1 n1 k2 n2 : Int) (t1 t2 : ByteArray) (w : World) :
    Calls Tryz.prog 12 #[.agg #[.int .i64 k1, .int .i64 n1, .string t1], .agg #[.int .i64 k2, .int .i64 n2, .string t2]] w fun e w' => e = .returned (.int .i64 (cmpV k1 n1 t1 k2 n2 t2)) ∧ Below w.heap.size w w' := by
  go_enter Tryz.func12, Tryz.ntmps12
  go_wp2
  go_region_held3 (fun w' => w'.cell? ⟨w.heap.size, 0, none⟩ = some (.int .i64 k1) ∧ w'.cell? ⟨w.heap.size, 1, none⟩ = some (.int .i64 n1) ∧ w'.cell? ⟨w.heap.size, 2, none⟩ = some (.string t1) ∧ w'.cell? ⟨w.heap.size + 1, 0, none⟩ = some (.int .i64 k2) ∧ w'.cell? ⟨w.heap.size + 1, 1, none⟩ = some (.int .i64 n2) ∧ w'.cell? ⟨w.heap.size + 1, 2, none⟩ = some (.string t2)) (go_keep)
    (first
      | (go_at_call 25; refine (cmpInt_any _ _ _).mono ?_; rintro e w' ⟨rfl, rfl⟩)
      | (go_at_call 26; refine (cmpInt64_any _ _ _).mono ?_; rintro e w' ⟨rfl, rfl⟩)
      | (go_at_call 27; refine (cmpStr_any _ _ _).mono ?_; rintro e w' ⟨rfl, rfl⟩)
      | (go_at_call 24; refine (or_any (w.heap.size + 1 + 1) (cmpI k1 k2) (cmpI n1 n2) (cmpS t1 t2) _ (by simp [World.cell?_alloc_at]) (by simp [World.cell?_alloc_at]) (by simp [World.cell?_alloc_at])).mono ?_; rintro e w' ⟨rfl, rfl⟩))
  go_wp2
  go_ret
  exact ⟨rfl, ((((Below.refl _ _).alloc (Nat.le_refl _) _).alloc (by simp) _).alloc (by simp; omega) _).drew⟩

def b2i (b : Bool) : Int := if b then 1 else 0
def standsB (c o : Int) : Bool := if c = 1 then o == 0 else if c = 2 then !(o == 0) else if c = 3 then decide (o < 0) else if c = 4 then decide (o ≤ 0) else if c = 5 then decide (0 < o) else if c = 6 then decide (0 ≤ o) else false

theorem ret_bool {a b : Bool} (h : a = b) : Ending.returned (.bool a) = .returned (.bool b) := by rw [h]

theorem st1 {c o : Int} (h : (c == 1) = true) : (o == 0) = standsB c o := by simp at h; subst h; rfl
theorem st2 {c o : Int} (_ : (c == 1) = false) (h : (c == 2) = true) : (o != 0) = standsB c o := by simp at h; subst h; rfl
theorem st3 {c o : Int} (h : (c == 3) = true) : decide (o < 0) = standsB c o := by simp at h; subst h; rfl
theorem st4 {c o : Int} (h : (c == 4) = true) : decide (o ≤ 0) = standsB c o := by simp at h; subst h; rfl
theorem st5 {c o : Int} (h : (c == 5) = true) : decide (0 < o) = standsB c o := by simp at h; subst h; rfl
theorem st6 {c o : Int} (h : (c == 6) = true) : decide (0 ≤ o) = standsB c o := by simp at h; subst h; rfl
theorem st7 {c o : Int} (h1 : (c == 1) = false) (h2 : (c == 2) = false) (h3 : (c == 3) = false) (h4 : (c == 4) = false) (h5 : (c == 5) = false) (h6 : (c == 6) = false) : false = standsB c o := by
  simp at h1 h2 h3 h4 h5 h6; simp [standsB, h1, h2, h3, h4, h5, h6]

def isV (c k1 n1 : Int) (t1 : ByteArray) (k2 n2 : Int) (t2 : ByteArray) : Int := if k1 = 0 ∨ ¬ k1 = k2 then -1 else b2i (standsB c (cmpV k1 n1 t1 k2 n2 t2))
theorem is0 {c k1 n1 : Int} {t1 : ByteArray} {k2 n2 : Int} {t2 : ByteArray} (h : k1 = 0 ∨ ¬ k1 = k2) : -1 = isV c k1 n1 t1 k2 n2 t2 := by unfold isV; rw [if_pos h]
theorem is1 {c k1 n1 : Int} {t1 : ByteArray} {k2 n2 : Int} {t2 : ByteArray} (h : ¬ (k1 = 0 ∨ ¬ k1 = k2)) : (b2i (standsB c (cmpV k1 n1 t1 k2 n2 t2))) = isV c k1 n1 t1 k2 n2 t2 := by unfold isV; rw [if_neg h]

end Go.Proofs.YtlnkbhbpkmnkaaaGreatDoor.S
namespace Go.Proofs.YtlnkbhbpkmnkaaaGreatDoor.S
open Go

/-- A value: a kind, a number, a text. -/
abbrev V := Int × Int × ByteArray
def zeroV : V := (0, 0, ⟨#[]⟩)
def cmpW (x y : V) : Int := cmpV x.1 x.2.1 x.2.2 y.1 y.2.1 y.2.2
theorem cmpW_range (x y : V) : cmpW x y = -1 ∨ cmpW x y = 0 ∨ cmpW x y = 1 := cmpV_range ..
theorem cmpW_swap (x y : V) : cmpW y x = -cmpW x y := cmpV_swap ..
theorem cmpW_zero {x y : V} : cmpW x y = 0 ↔ x = y := by
  unfold cmpW; rw [cmpV_zero]
  constructor
  · rintro ⟨h1, h2, h3⟩; exact Prod.ext h1 (Prod.ext h2 h3)
  · rintro rfl; exact ⟨rfl, rfl, rfl⟩
theorem cmpW_self (x : V) : cmpW x x = 0 := cmpW_zero.2 rfl
theorem cmpW_trans {x y z : V} (h1 : cmpW x y ≤ 0) (h2 : cmpW y z ≤ 0) : cmpW x z ≤ 0 := by
  rcases cmpW_range x y with a | a | a <;> rcases cmpW_range y z with b | b | b
  · have : cmpW x z = -1 := cmpV_trans _ _ _ _ _ _ _ _ _ _ a b
    omega
  · rw [cmpW_zero] at b; subst b; omega
  · omega
  · rw [cmpW_zero] at a; subst a; omega
  · rw [cmpW_zero] at a; subst a; omega
  · omega
  · omega
  · omega
  · omega
theorem cmpW_anti {x y : V} (h1 : cmpW x y ≤ 0) (h2 : cmpW y x ≤ 0) : x = y := by
  rw [cmpW_swap x y] at h2
  exact cmpW_zero.1 (by omega)
theorem cmpW_kind {x y : V} (h : x.1 < y.1) : cmpW y x = 1 := by
  unfold cmpW cmpV orI
  have : cmpI y.1 x.1 = 1 := by unfold cmpI; split <;> (try split) <;> omega
  rw [this]; simp

def leastV (a b : V) : V := if a.1 = 0 ∨ (¬ b.1 = 0 ∧ cmpW b a < 0) then b else a
def greatV (a b : V) : V := if 0 < cmpW b a then b else a

/-- The least of the values that are something. -/
def IsMin (l : List V) (m : V) : Prop := (m = zeroV ∧ ∀ x ∈ l, x.1 = 0) ∨ (¬ m.1 = 0 ∧ m ∈ l ∧ ∀ x ∈ l, ¬ x.1 = 0 → cmpW m x ≤ 0)
def IsMax (l : List V) (m : V) : Prop := (m = zeroV ∧ ∀ x ∈ l, x.1 = 0) ∨ (¬ m.1 = 0 ∧ m ∈ l ∧ ∀ x ∈ l, ¬ x.1 = 0 → cmpW x m ≤ 0)
theorem IsMin.one {l : List V} {m m' : V} (h : IsMin l m) (h' : IsMin l m') : m = m' := by
  rcases h with ⟨rfl, h⟩ | ⟨h1, h2, h3⟩ <;> rcases h' with ⟨rfl, h'⟩ | ⟨h1', h2', h3'⟩
  · rfl
  · exact (h1' (h _ h2')).elim
  · exact (h1 (h' _ h2)).elim
  · exact cmpW_anti (h3 _ h2' h1') (h3' _ h2 h1)
theorem IsMax.one {l : List V} {m m' : V} (h : IsMax l m) (h' : IsMax l m') : m = m' := by
  rcases h with ⟨rfl, h⟩ | ⟨h1, h2, h3⟩ <;> rcases h' with ⟨rfl, h'⟩ | ⟨h1', h2', h3'⟩
  · rfl
  · exact (h1' (h _ h2')).elim
  · exact (h1 (h' _ h2)).elim
  · exact cmpW_anti (h3' _ h2 h1) (h3 _ h2' h1')
theorem IsMin.same {l l' : List V} {m : V} (h : IsMin l m) (hl : ∀ x, x ∈ l ↔ x ∈ l') : IsMin l' m := by
  rcases h with ⟨rfl, h⟩ | ⟨h1, h2, h3⟩
  · exact .inl ⟨rfl, fun x hx => h x ((hl x).2 hx)⟩
  · exact .inr ⟨h1, (hl _).1 h2, fun x hx => h3 x ((hl x).2 hx)⟩
theorem IsMax.same {l l' : List V} {m : V} (h : IsMax l m) (hl : ∀ x, x ∈ l ↔ x ∈ l') : IsMax l' m := by
  rcases h with ⟨rfl, h⟩ | ⟨h1, h2, h3⟩
  · exact .inl ⟨rfl, fun x hx => h x ((hl x).2 hx)⟩
  · exact .inr ⟨h1, (hl _).1 h2, fun x hx => h3 x ((hl x).2 hx)⟩
theorem IsMin.both {l l' : List V} {m m' : V} (h : IsMin l m) (h' : IsMin l' m') : IsMin (l ++ l') (leastV m m') := by
  unfold leastV
  rcases h with ⟨rfl, h⟩ | ⟨h1, h2, h3⟩
  · rw [if_pos (.inl rfl)]
    rcases h' with ⟨rfl, h'⟩ | ⟨h1', h2', h3'⟩
    · exact .inl ⟨rfl, fun x hx => (List.mem_append.1 hx).elim (h x) (h' x)⟩
    · exact .inr ⟨h1', List.mem_append.2 (.inr h2'), fun x hx hk => (List.mem_append.1 hx).elim (fun hh => (hk (h x hh)).elim) (fun hh => h3' x hh hk)⟩
  · rcases h' with ⟨rfl, h'⟩ | ⟨h1', h2', h3'⟩
    · rw [if_neg (by rintro (h | ⟨h, _⟩); exact h1 h; exact h rfl)]
      exact .inr ⟨h1, List.mem_append.2 (.inl h2), fun x hx hk => (List.mem_append.1 hx).elim (fun hh => h3 x hh hk) (fun hh => (hk (h' x hh)).elim)⟩
    · by_cases hc : cmpW m' m < 0
      · rw [if_pos (.inr ⟨h1', hc⟩)]
        exact .inr ⟨h1', List.mem_append.2 (.inr h2'), fun x hx hk => (List.mem_append.1 hx).elim (fun hh => cmpW_trans (by omega) (h3 x hh hk)) (fun hh => h3' x hh hk)⟩
      · rw [if_neg (by rintro (h | ⟨_, h⟩); exact h1 h; exact hc h)]
        have hs := cmpW_swap m' m
        exact .inr ⟨h1, List.mem_append.2 (.inl h2), fun x hx hk => (List.mem_append.1 hx).elim (fun hh => h3 x hh hk) (fun hh => cmpW_trans (by omega) (h3' x hh hk))⟩
theorem IsMax.both {l l' : List V} {m m' : V} (h : IsMax l m) (h' : IsMax l' m') (hn : ∀ x ∈ l, 0 ≤ x.1) (hn' : ∀ x ∈ l', 0 ≤ x.1) : IsMax (l ++ l') (greatV m m') := by
  unfold greatV
  rcases h with ⟨rfl, h⟩ | ⟨h1, h2, h3⟩
  · rcases h' with ⟨rfl, h'⟩ | ⟨h1', h2', h3'⟩
    · rw [cmpW_self, if_neg (by omega)]
      exact .inl ⟨rfl, fun x hx => (List.mem_append.1 hx).elim (h x) (h' x)⟩
    · have hk := hn' _ h2'
      rw [cmpW_kind (show zeroV.1 < m'.1 by simp [zeroV]; omega), if_pos (by omega)]
      exact .inr ⟨h1', List.mem_append.2 (.inr h2'), fun x hx hk => (List.mem_append.1 hx).elim (fun hh => (hk (h x hh)).elim) (fun hh => h3' x hh hk)⟩
  · rcases h' with ⟨rfl, h'⟩ | ⟨h1', h2', h3'⟩
    · have hk := hn _ h2
      rw [cmpW_swap m zeroV, cmpW_kind (show zeroV.1 < m.1 by simp [zeroV]; omega), if_neg (by omega)]
      exact .inr ⟨h1, List.mem_append.2 (.inl h2), fun x hx hk => (List.mem_append.1 hx).elim (fun hh => h3 x hh hk) (fun hh => (hk (h' x hh)).elim)⟩
    · by_cases hc : 0 < cmpW m' m
      · rw [if_pos hc]
        have hs := cmpW_swap m' m
        exact .inr ⟨h1', List.mem_append.2 (.inr h2'), fun x hx hk => (List.mem_append.1 hx).elim (fun hh => cmpW_trans (h3 x hh hk) (by omega)) (fun hh => h3' x hh hk)⟩
      · rw [if_neg hc]
        exact .inr ⟨h1, List.mem_append.2 (.inl h2), fun x hx hk => (List.mem_append.1 hx).elim (fun hh => h3 x hh hk) (fun hh => cmpW_trans (h3' x hh hk) (by omega))⟩

/-- What is known of values: how many, how many are nothing, the least, the greatest. -/
abbrev St := Int × Int × V × V
def zeroS : St := (0, 0, zeroV, zeroV)
def bothS (a b : St) : St := (a.1 + b.1, a.2.1 + b.2.1, leastV a.2.2.1 b.2.2.1, greatV a.2.2.2 b.2.2.2)
def oneS (v : V) : St := if v.1 = 0 then (1, 1, zeroV, zeroV) else (1, 0, v, v)
def nulls (l : List V) : Nat := l.countP fun x => x.1 == 0
structure IsSt (l : List V) (s : St) : Prop where
  cnt : s.1 = l.length
  nul : s.2.1 = nulls l
  mn : IsMin l s.2.2.1
  mx : IsMax l s.2.2.2
theorem IsSt.one {l : List V} {s s' : St} (h : IsSt l s) (h' : IsSt l s') : s = s' :=
  Prod.ext (h.cnt.trans h'.cnt.symm) (Prod.ext (h.nul.trans h'.nul.symm) (Prod.ext (h.mn.one h'.mn) (h.mx.one h'.mx)))
theorem IsSt.nil : IsSt [] zeroS := ⟨rfl, rfl, .inl ⟨rfl, by simp⟩, .inl ⟨rfl, by simp⟩⟩
theorem IsSt.single (v : V) : IsSt [v] (oneS v) := by
  unfold oneS
  by_cases h : v.1 = 0
  · rw [if_pos h]
    exact ⟨rfl, by simp [nulls, h], .inl ⟨rfl, by simpa using h⟩, .inl ⟨rfl, by simpa using h⟩⟩
  · rw [if_neg h]
    refine ⟨rfl, by simp [nulls, h], .inr ⟨h, by simp, ?_⟩, .inr ⟨h, by simp, ?_⟩⟩
    · intro x hx _
      rw [List.mem_singleton.1 hx, cmpW_self]; omega
    · intro x hx _
      rw [List.mem_singleton.1 hx, cmpW_self]; omega
theorem IsSt.both {l l' : List V} {s s' : St} (h : IsSt l s) (h' : IsSt l' s') (hn : ∀ x ∈ l, 0 ≤ x.1) (hn' : ∀ x ∈ l', 0 ≤ x.1) : IsSt (l ++ l') (bothS s s') :=
  ⟨by simp [bothS, h.cnt, h'.cnt], by simp [bothS, h.nul, h'.nul, nulls], h.mn.both h'.mn, h.mx.both h'.mx hn hn'⟩
theorem IsSt.turn {l l' : List V} {s : St} (h : IsSt (l ++ l') s) : IsSt (l' ++ l) s :=
  ⟨by have := h.cnt; simp at this ⊢; omega, by have := h.nul; simp [nulls] at this ⊢; omega, h.mn.same (by simp [or_comm]), h.mx.same (by simp [or_comm])⟩
theorem nulls_le (l : List V) : nulls l ≤ l.length := List.countP_le_length
theorem IsSt.cnt_le {l : List V} {s : St} (h : IsSt l s) (hl : l.length ≤ 40) : 0 ≤ s.1 ∧ s.1 ≤ 40 ∧ 0 ≤ s.2.1 ∧ s.2.1 ≤ 40 := by
  have := h.cnt; have := h.nul; have := nulls_le l
  omega

/-- Values are of one kind, but for those that are nothing. -/
def Alone (l : List V) : Prop := ∀ x ∈ l, ∀ y ∈ l, ¬ x.1 = 0 → ¬ y.1 = 0 → x.1 = y.1

theorem IsSt.null {l : List V} {s : St} (h : IsSt l s) {x : V} (hx : x ∈ l) (hk : x.1 = 0) : 0 < s.2.1 := by
  have := h.nul
  have : 0 < nulls l := List.countP_pos_iff.2 ⟨x, hx, by simpa using hk⟩
  omega
theorem nulls_lt {x : V} (hk : ¬ x.1 = 0) : ∀ (l : List V), x ∈ l → nulls l < l.length
  | [], h => by simp at h
  | y :: l, h => by
    have hl := nulls_le l
    unfold nulls at hl ⊢
    rcases List.mem_cons.1 h with rfl | h
    · rw [List.countP_cons_of_neg (by simpa using hk)]; simp only [List.length_cons]; omega
    · have := nulls_lt hk l h
      unfold nulls at this
      rw [List.countP_cons]; simp only [List.length_cons]; split <;> omega
theorem IsSt.some {l : List V} {s : St} (h : IsSt l s) (ha : Alone l) {x : V} (hx : x ∈ l) (hk : ¬ x.1 = 0) :
    s.2.1 < s.1 ∧ s.2.2.1.1 = x.1 ∧ s.2.2.2.1 = x.1 ∧ cmpW s.2.2.1 x ≤ 0 ∧ cmpW x s.2.2.2 ≤ 0 := by
  have h1 := h.cnt; have h2 := h.nul
  have h3 := nulls_lt hk l hx
  rcases h.mn with ⟨_, hz⟩ | ⟨a1, a2, a3⟩
  · exact (hk (hz x hx)).elim
  rcases h.mx with ⟨_, hz⟩ | ⟨b1, b2, b3⟩
  · exact (hk (hz x hx)).elim
  exact ⟨by omega, ha _ a2 _ hx a1 hk, ha _ b2 _ hx b1 hk, a3 x hx hk, b3 x hx hk⟩
end Go.Proofs.YtlnkbhbpkmnkaaaGreatDoor.S
namespace Go.Proofs.YtlnkbhbpkmnkaaaGreatDoor.S
open Go.RowKit

theorem mkH {p : Prop} (h : p) : Hid p := h
theorem bcell {W w1 : World} (hb : Below W.heap.size W w1) : (∀ b o, b < W.heap.size → w1.cell? ⟨b, o, none⟩ = W.cell? ⟨b, o, none⟩) ∧ (∀ b o, b < W.heap.size → w1.frozen? ⟨b, o, none⟩ = W.frozen? ⟨b, o, none⟩) :=
  ⟨fun b o h => hb.cell (p := ⟨b, o, none⟩) h, fun b o h => hb.frozen (p := ⟨b, o, none⟩) h⟩

theorem lv1 {a b : V} (h : a.1 = 0) : b = leastV a b := by unfold leastV; rw [if_pos (.inl h)]
theorem lv2 {a b : V} (h : ¬ a.1 = 0) (h2 : b.1 = 0) : a = leastV a b := by unfold leastV; rw [if_neg (by rintro (x | ⟨x, _⟩); exact h x; exact x h2)]
theorem lv3 {a b : V} (h2 : ¬ b.1 = 0) (h3 : cmpW b a < 0) : b = leastV a b := by unfold leastV; rw [if_pos (.inr ⟨h2, h3⟩)]
theorem lv4 {a b : V} (h : ¬ a.1 = 0) (h3 : ¬ cmpW b a < 0) : a = leastV a b := by unfold leastV; rw [if_neg (by rintro (x | ⟨_, x⟩); exact h x; exact h3 x)]
theorem gv1 {a b : V} (h3 : 0 < cmpW b a) : b = greatV a b := by unfold greatV; rw [if_pos h3]
theorem gv2 {a b : V} (h3 : ¬ 0 < cmpW b a) : a = greatV a b := by unfold greatV; rw [if_neg h3]
theorem ret_v {a : V} {k n : Int} {t : ByteArray} (h : (k, n, t) = a) : Ending.returned (.agg #[.int .i64 k, .int .i64 n, .string t]) = .returned (.agg #[.int .i64 a.1, .int .i64 a.2.1, .string a.2.2]) := by rw [← h]
theorem b3 (w : World) (X Y Z : Obj) : Below w.heap.size w (((w.alloc X).alloc Y).alloc Z) := (((Below.refl _ _).alloc (Nat.le_refl _) _).alloc (by simp) _).alloc (by simp; omega) _
theorem b3c {w w1 : World} {X Y Z : Obj} (hb : Below (((w.alloc X).alloc Y).alloc Z).heap.size (((w.alloc X).alloc Y).alloc Z) w1) (u0 u1 u2 : Value) : Below w.heap.size w (((w1.setCell ⟨w.heap.size + 1 + 1, 0, none⟩ u0).setCell ⟨w.heap.size + 1 + 1, 1, none⟩ u1).setCell ⟨w.heap.size + 1 + 1, 2, none⟩ u2) :=
  ((((b3 w X Y Z).trans (hb.mono (by simp; omega))).setCell (by simp; omega) _).setCell (by simp; omega) _).setCell (by simp; omega) _

set_option maxHeartbeats 2000000 in
theorem least_any (k1 n1 k2 n2 : Int) (t1 t2 : ByteArray) (w : World) :
    Calls Tryz.prog 57 #[.agg #[.int .i64 k1, .int .i64 n1, .string t1], .agg #[.int .i64 k2, .int .i64 n2, .string t2]] w fun e w' => e = .returned (.agg #[.int .i64 (leastV (k1, n1, t1) (k2, n2, t2)).1, .int .i64 (leastV (k1, n1, t1) (k2, n2, t2)).2.1, .string (leastV (k1, n1, t1) (k2, n2, t2)).2.2]) ∧ Below w.heap.size w w' := by
  by_cases h1 : k1 = 0
  · have HR : Hid ((k2, n2, t2) = leastV (k1, n1, t1) (k2, n2, t2)) := lv1 (a := (k1, n1, t1)) h1
    generalize leastV (k1, n1, t1) (k2, n2, t2) = m at *
    have hb : (k1 == 0) = true := by simpa using h1
    clear h1
    go_enter Tryz.func57, Tryz.ntmps57
    go_wp2
    exact bodyPost_ret (v := .agg #[.int .i64 k2, .int .i64 n2, .string t2]) (by simp [results, Tryz.results57, go_sem]) rfl ⟨ret_v HR.out, b3 _ _ _ _⟩
  have hb : (k1 == 0) = false := by simpa using h1
  by_cases h2 : k2 = 0
  · have HR : Hid ((k1, n1, t1) = leastV (k1, n1, t1) (k2, n2, t2)) := lv2 (a := (k1, n1, t1)) h1 h2
    generalize leastV (k1, n1, t1) (k2, n2, t2) = m at *
    subst h2
    clear h1
    go_enter Tryz.func57, Tryz.ntmps57
    go_wp2
    exact bodyPost_ret (v := .agg #[.int .i64 k1, .int .i64 n1, .string t1]) (by simp [results, Tryz.results57, go_sem]) rfl ⟨ret_v HR.out, b3 _ _ _ _⟩
  by_cases h3 : cmpV k2 n2 t2 k1 n1 t1 < 0
  · have HR : Hid ((k2, n2, t2) = leastV (k1, n1, t1) (k2, n2, t2)) := lv3 (a := (k1, n1, t1)) h2 h3
    generalize leastV (k1, n1, t1) (k2, n2, t2) = m at *
    clear h1
    have HC := mkH (compare_any k2 n2 k1 n1 t2 t1)
    generalize cmpV k2 n2 t2 k1 n1 t1 = o at *
    go_enter Tryz.func57, Tryz.ntmps57
    go_wp2_with (first
      | (go_at_call 12; refine (HC.out _).mono ?_; rintro e w1 ⟨rfl, hb1⟩; obtain ⟨hc, hf⟩ := bcell hb1))
    exact bodyPost_ret (v := .agg #[.int .i64 k2, .int .i64 n2, .string t2]) (by simp [results, Tryz.results57, go_sem, hc]) rfl ⟨ret_v HR.out, b3c hb1 _ _ _⟩
  · have HR : Hid ((k1, n1, t1) = leastV (k1, n1, t1) (k2, n2, t2)) := lv4 (a := (k1, n1, t1)) h1 h3
    generalize leastV (k1, n1, t1) (k2, n2, t2) = m at *
    clear h1
    have HC := mkH (compare_any k2 n2 k1 n1 t2 t1)
    generalize cmpV k2 n2 t2 k1 n1 t1 = o at *
    go_enter Tryz.func57, Tryz.ntmps57
    go_wp2_with (first
      | (go_at_call 12; refine (HC.out _).mono ?_; rintro e w1 ⟨rfl, hb1⟩; obtain ⟨hc, hf⟩ := bcell hb1))
    exact bodyPost_ret (v := .agg #[.int .i64 k1, .int .i64 n1, .string t1]) (by simp [results, Tryz.results57, go_sem, hc]) rfl ⟨ret_v HR.out, b3c hb1 _ _ _⟩

set_option maxHeartbeats 2000000 in
theorem greatest_any (k1 n1 k2 n2 : Int) (t1 t2 : ByteArray) (w : World) :
    Calls Tryz.prog 58 #[.agg #[.int .i64 k1, .int .i64 n1, .string t1], .agg #[.int .i64 k2, .int .i64 n2, .string t2]] w fun e w' => e = .returned (.agg #[.int .i64 (greatV (k1, n1, t1) (k2, n2, t2)).1, .int .i64 (greatV (k1, n1, t1) (k2, n2, t2)).2.1, .string (greatV (k1, n1, t1) (k2, n2, t2)).2.2]) ∧ Below w.heap.size w w' := by
  by_cases h3 : 0 < cmpV k2 n2 t2 k1 n1 t1
  · have HR : Hid ((k2, n2, t2) = greatV (k1, n1, t1) (k2, n2, t2)) := gv1 (a := (k1, n1, t1)) h3
    generalize greatV (k1, n1, t1) (k2, n2, t2) = m at *
    have HC := mkH (compare_any k2 n2 k1 n1 t2 t1)
    generalize cmpV k2 n2 t2 k1 n1 t1 = o at *
    go_enter Tryz.func58, Tryz.ntmps58
    go_wp2_with (first
      | (go_at_call 12; refine (HC.out _).mono ?_; rintro e w1 ⟨rfl, hb1⟩; obtain ⟨hc, hf⟩ := bcell hb1))
    exact bodyPost_ret (v := .agg #[.int .i64 k2, .int .i64 n2, .string t2]) (by simp [results, Tryz.results58, go_sem, hc]) rfl ⟨ret_v HR.out, b3c hb1 _ _ _⟩
  · have HR : Hid ((k1, n1, t1) = greatV (k1, n1, t1) (k2, n2, t2)) := gv2 (a := (k1, n1, t1)) h3
    generalize greatV (k1, n1, t1) (k2, n2, t2) = m at *
    have HC := mkH (compare_any k2 n2 k1 n1 t2 t1)
    generalize cmpV k2 n2 t2 k1 n1 t1 = o at *
    go_enter Tryz.func58, Tryz.ntmps58
    go_wp2_with (first
      | (go_at_call 12; refine (HC.out _).mono ?_; rintro e w1 ⟨rfl, hb1⟩; obtain ⟨hc, hf⟩ := bcell hb1))
    exact bodyPost_ret (v := .agg #[.int .i64 k1, .int .i64 n1, .string t1]) (by simp [results, Tryz.results58, go_sem, hc]) rfl ⟨ret_v HR.out, b3c hb1 _ _ _⟩

/-- What is known, as it is handed on. -/
theorem ret_s {a : St} {c m k n : Int} {t : ByteArray} {k' n' : Int} {t' : ByteArray} (h : (c, m, (k, n, t), (k', n', t')) = a) : Ending.returned (.agg #[.int .i64 c, .int .i64 m, .int .i64 k, .int .i64 n, .string t, .int .i64 k', .int .i64 n', .string t']) = .returned (.agg #[.int .i64 a.1, .int .i64 a.2.1, .int .i64 a.2.2.1.1, .int .i64 a.2.2.1.2.1, .string a.2.2.1.2.2, .int .i64 a.2.2.2.1, .int .i64 a.2.2.2.2.1, .string a.2.2.2.2.2]) := by rw [← h]

set_option maxHeartbeats 2000000 in
theorem ofOne_any (k n : Int) (t : ByteArray) (w : World) :
    Calls Tryz.prog 29 #[.agg #[.int .i64 k, .int .i64 n, .string t]] w fun e w' => e = .returned (.agg #[.int .i64 (oneS (k, n, t)).1, .int .i64 (oneS (k, n, t)).2.1, .int .i64 (oneS (k, n, t)).2.2.1.1, .int .i64 (oneS (k, n, t)).2.2.1.2.1, .string (oneS (k, n, t)).2.2.1.2.2, .int .i64 (oneS (k, n, t)).2.2.2.1, .int .i64 (oneS (k, n, t)).2.2.2.2.1, .string (oneS (k, n, t)).2.2.2.2.2]) ∧ Below w.heap.size w w' := by
  by_cases h1 : k = 0
  · have HR : Hid ((1, 1, (0, 0, ⟨#[]⟩), (0, 0, ⟨#[]⟩)) = oneS (k, n, t)) := mkH (by unfold oneS; rw [if_pos h1]; rfl)
    generalize oneS (k, n, t) = m at *
    have hb : (k == 0) = true := by simpa using h1
    clear h1
    go_enter Tryz.func29, Tryz.ntmps29
    go_wp2
    exact bodyPost_ret (v := .agg #[.int .i64 1, .int .i64 1, .int .i64 0, .int .i64 0, .string ⟨#[]⟩, .int .i64 0, .int .i64 0, .string ⟨#[]⟩]) (by simp [results, Tryz.results29, go_sem]) rfl ⟨ret_s HR.out, ((Below.refl _ _).alloc (Nat.le_refl _) _).alloc (by simp) _⟩
  · have HR : Hid ((1, 0, (k, n, t), (k, n, t)) = oneS (k, n, t)) := mkH (by unfold oneS; rw [if_neg h1])
    generalize oneS (k, n, t) = m at *
    have hb : (k == 0) = false := by simpa using h1
    clear h1
    go_enter Tryz.func29, Tryz.ntmps29
    go_wp2
    exact bodyPost_ret (v := .agg #[.int .i64 1, .int .i64 0, .int .i64 k, .int .i64 n, .string t, .int .i64 k, .int .i64 n, .string t]) (by simp [results, Tryz.results29, go_sem]) rfl ⟨ret_s HR.out, ((Below.refl _ _).alloc (Nat.le_refl _) _).alloc (by simp) _⟩
end Go.Proofs.YtlnkbhbpkmnkaaaGreatDoor.S
namespace Go.Proofs.YtlnkbhbpkmnkaaaGreatDoor.S
open Go.RowKit

theorem b3s {w W : World} {X Y Z : Obj} (hb : Below (((w.alloc X).alloc Y).alloc Z).heap.size (((w.alloc X).alloc Y).alloc Z) W) : Below w.heap.size w W := (b3 w X Y Z).trans (hb.mono (by simp; omega))

theorem b3d {w W : World} {X Y Z : Obj} (hb : Below (((w.alloc X).alloc Y).alloc Z).drew.heap.size (((w.alloc X).alloc Y).alloc Z).drew W) : Below w.heap.size w W := (b3 w X Y Z).drew.trans (hb.mono (by simp; omega))
theorem Below.ups {a b c : World} (h : Below a.heap.size a b) (k : Below b.heap.size b c) : Below a.heap.size a c := h.trans (k.mono h.size)
theorem b8c {w W : World} (hb : Below w.heap.size w W) {g : Nat} (hg : w.heap.size ≤ g) (v0 v1 v2 v3 v4 v5 v6 v7 : Value) : Below w.heap.size w ((((((((W.setCell ⟨g, 0, none⟩ v0).setCell ⟨g, 1, none⟩ v1).setCell ⟨g, 2, none⟩ v2).setCell ⟨g, 3, none⟩ v3).setCell ⟨g, 4, none⟩ v4).setCell ⟨g, 5, none⟩ v5).setCell ⟨g, 6, none⟩ v6).setCell ⟨g, 7, none⟩ v7) :=
  (((((((hb.setCell hg _).setCell hg _).setCell hg _).setCell hg _).setCell hg _).setCell hg _).setCell hg _).setCell hg _

set_option maxHeartbeats 8000000 in
set_option maxRecDepth 100000 in
theorem both_any (c1 m1 k1 n1 : Int) (t1 : ByteArray) (p1 q1 : Int) (u1 : ByteArray) (c2 m2 k2 n2 : Int) (t2 : ByteArray) (p2 q2 : Int) (u2 : ByteArray) (w : World)
    (hc1 : 0 ≤ c1) (hc1' : c1 ≤ 1000) (hc2 : 0 ≤ c2) (hc2' : c2 ≤ 1000) (hm1 : 0 ≤ m1) (hm1' : m1 ≤ 1000) (hm2 : 0 ≤ m2) (hm2' : m2 ≤ 1000) :
    Calls Tryz.prog 28 #[.agg #[.int .i64 c1, .int .i64 m1, .int .i64 k1, .int .i64 n1, .string t1, .int .i64 p1, .int .i64 q1, .string u1], .agg #[.int .i64 c2, .int .i64 m2, .int .i64 k2, .int .i64 n2, .string t2, .int .i64 p2, .int .i64 q2, .string u2]] w
      fun e w' => e = .returned (.agg #[.int .i64 (c1 + c2), .int .i64 (m1 + m2), .int .i64 (leastV (k1, n1, t1) (k2, n2, t2)).1, .int .i64 (leastV (k1, n1, t1) (k2, n2, t2)).2.1, .string (leastV (k1, n1, t1) (k2, n2, t2)).2.2, .int .i64 (greatV (p1, q1, u1) (p2, q2, u2)).1, .int .i64 (greatV (p1, q1, u1) (p2, q2, u2)).2.1, .string (greatV (p1, q1, u1) (p2, q2, u2)).2.2]) ∧ Below w.heap.size w w' := by
  have HL := mkH (least_any k1 n1 k2 n2 t1 t2)
  have HG := mkH (greatest_any p1 q1 p2 q2 u1 u2)
  generalize (leastV (k1, n1, t1) (k2, n2, t2)) = lo at *
  generalize (greatV (p1, q1, u1) (p2, q2, u2)) = hi at *
  obtain ⟨lk, ln, lt⟩ := lo
  obtain ⟨hk, hn, ht⟩ := hi
  have hz : w.heap.size < w.heap.size + 1 + 1 + 1 := by omega
  have hz2 : w.heap.size < w.heap.size + 1 + 1 := by omega
  have hn1 : ¬ w.heap.size = w.heap.size + 1 + 1 := by omega
  have hn2 : ¬ w.heap.size + 1 + 1 = w.heap.size := by omega
  have hw1 : IntKind.i64.wrap (c1 + c2) = c1 + c2 := by rw [IntKind.wrap_i64]; omega
  have hw2 : IntKind.i64.wrap (m1 + m2) = m1 + m2 := by rw [IntKind.wrap_i64]; omega
  clear hc1 hc1' hc2 hc2' hm1 hm1' hm2 hm2'
  go_enter Tryz.func28, Tryz.ntmps28
  go_wp2
  go_region_held3 (fun w' => w'.cell? ⟨w.heap.size, 0, none⟩ = some (.int .i64 c1) ∧ w'.cell? ⟨w.heap.size, 1, none⟩ = some (.int .i64 m1) ∧ w'.cell? ⟨w.heap.size, 2, none⟩ = some (.int .i64 k1) ∧ w'.cell? ⟨w.heap.size, 3, none⟩ = some (.int .i64 n1) ∧ w'.cell? ⟨w.heap.size, 4, none⟩ = some (.string t1) ∧ w'.cell? ⟨w.heap.size, 5, none⟩ = some (.int .i64 p1) ∧ w'.cell? ⟨w.heap.size, 6, none⟩ = some (.int .i64 q1) ∧ w'.cell? ⟨w.heap.size, 7, none⟩ = some (.string u1)
      ∧ w'.cell? ⟨w.heap.size + 1, 0, none⟩ = some (.int .i64 c2) ∧ w'.cell? ⟨w.heap.size + 1, 1, none⟩ = some (.int .i64 m2) ∧ w'.cell? ⟨w.heap.size + 1, 2, none⟩ = some (.int .i64 k2) ∧ w'.cell? ⟨w.heap.size + 1, 3, none⟩ = some (.int .i64 n2) ∧ w'.cell? ⟨w.heap.size + 1, 4, none⟩ = some (.string t2) ∧ w'.cell? ⟨w.heap.size + 1, 5, none⟩ = some (.int .i64 p2) ∧ w'.cell? ⟨w.heap.size + 1, 6, none⟩ = some (.int .i64 q2) ∧ w'.cell? ⟨w.heap.size + 1, 7, none⟩ = some (.string u2)) (go_keep)
    (first
      | (go_at_call 57; refine (HL.out _).mono ?_; rintro e w1 ⟨rfl, hb1⟩; obtain ⟨hcl, hfl⟩ := bcell hb1; have z0 : w.heap.size < w1.heap.size := Nat.lt_of_lt_of_le (by first | assumption | (simp; done) | (simp; omega)) hb1.size; have z1 : w.heap.size + 1 < w1.heap.size := Nat.lt_of_lt_of_le (by first | assumption | (simp; done) | (simp; omega)) hb1.size; have z2 : w.heap.size + 1 + 1 < w1.heap.size := Nat.lt_of_lt_of_le (by first | assumption | (simp; done) | (simp; omega)) hb1.size)
      | (go_at_call 58; refine (HG.out _).mono ?_; rintro e w2 ⟨rfl, hb2⟩; obtain ⟨hcg, hfg⟩ := bcell hb2; have y0 : w.heap.size < w2.heap.size := Nat.lt_of_lt_of_le (by first | assumption | (simp; done) | (simp; omega)) hb2.size; have y1 : w.heap.size + 1 < w2.heap.size := Nat.lt_of_lt_of_le (by first | assumption | (simp; done) | (simp; omega)) hb2.size; have y2 : w.heap.size + 1 + 1 < w2.heap.size := Nat.lt_of_lt_of_le (by first | assumption | (simp; done) | (simp; omega)) hb2.size))
  go_wp2
  exact bodyPost_ret (v := .agg #[.int .i64 (c1 + c2), .int .i64 (m1 + m2), .int .i64 lk, .int .i64 ln, .string lt, .int .i64 hk, .int .i64 hn, .string ht]) (by simp [results, Tryz.results28, go_sem, hcl, hcg, z2]) rfl ⟨rfl, b8c (Below.ups (b3d hb1) hb2) (by omega) _ _ _ _ _ _ _ _⟩
end Go.Proofs.YtlnkbhbpkmnkaaaGreatDoor.S
namespace Go.Proofs.YtlnkbhbpkmnkaaaGreatDoor.S
open Go.RowKit Go.Joins

theorem below_a2 (w : World) (X Y : Obj) : Below w.heap.size w ((w.alloc X).alloc Y) := ((Below.refl _ _).alloc (Nat.le_refl _) _).alloc (by simp) _
/-- The slice v holds the values l. -/
def Sl (w : World) (v : Value) (l : List V) : Prop :=
  ∃ a c, v = .slice a l.length c ∧ l.length ≤ c ∧ (l ≠ [] → ∃ b off, a = some ⟨b, off, none⟩ ∧ b < w.heap.size ∧
    ∀ j x, l[j]? = some x → w.cell? ⟨b, off + j * 3, none⟩ = some (.int .i64 x.1) ∧ w.cell? ⟨b, off + j * 3 + 1, none⟩ = some (.int .i64 x.2.1) ∧ w.cell? ⟨b, off + j * 3 + 2, none⟩ = some (.string x.2.2))
theorem Sl.up {w W : World} {v : Value} {l : List V} (h : Sl w v l) (hb : Below w.heap.size w W) : Sl W v l := by
  obtain ⟨a, c, e, hcp, hl⟩ := h
  refine ⟨a, c, e, hcp, fun hne => ?_⟩
  obtain ⟨b, off, ea, hlt, hc⟩ := hl hne
  refine ⟨b, off, ea, Nat.lt_of_lt_of_le hlt hb.size, fun j x hj => ?_⟩
  obtain ⟨h0, h1, h2⟩ := hc j x hj
  exact ⟨(hb.cell (p := ⟨b, off + j * 3, none⟩) hlt).trans h0, (hb.cell (p := ⟨b, off + j * 3 + 1, none⟩) hlt).trans h1, (hb.cell (p := ⟨b, off + j * 3 + 2, none⟩) hlt).trans h2⟩
theorem getEx {α : Type} {l : List α} {k : Nat} (h : k < l.length) : ∃ x, l[k]? = some x := ⟨_, List.getElem?_eq_getElem h⟩
theorem take_one_more {α : Type} {l : List α} {k : Nat} {x : α} (h : l[k]? = some x) : l.take (k + 1) = l.take k ++ [x] := by
  have hk : k < l.length := by
    rcases Nat.lt_or_ge k l.length with h' | h'
    · exact h'
    · rw [List.getElem?_eq_none h'] at h; cases h
  rw [List.take_succ_eq_append_getElem hk]
  rw [List.getElem?_eq_getElem hk] at h
  injection h with h
  rw [h]

def stOf (l : List V) : St := l.foldl (fun s v => bothS s (oneS v)) zeroS
theorem stOf_next {l : List V} {k : Nat} {x : V} (h : l[k]? = some x) : stOf (l.take (k + 1)) = bothS (stOf (l.take k)) (oneS x) := by
  rw [take_one_more h]; simp [stOf]
theorem oneS_cnt (x : V) : (oneS x).1 = 1 ∧ 0 ≤ (oneS x).2.1 ∧ (oneS x).2.1 ≤ 1 := by unfold oneS; split <;> simp
theorem stOf_snoc (l : List V) (x : V) : stOf (l ++ [x]) = bothS (stOf l) (oneS x) := by simp [stOf]
theorem stOf_take_cnt (l : List V) : ∀ k, k ≤ l.length → (stOf (l.take k)).1 = k ∧ 0 ≤ (stOf (l.take k)).2.1 ∧ (stOf (l.take k)).2.1 ≤ k
  | 0, _ => by simp [stOf, zeroS]
  | k + 1, h => by
    obtain ⟨x, hx⟩ := getEx (show k < l.length by omega)
    have ih := stOf_take_cnt l k (by omega)
    have ho := oneS_cnt x
    rw [stOf_next hx]
    simp only [bothS]; omega
theorem isSt_take (l : List V) (hn : ∀ x ∈ l, 0 ≤ x.1) : ∀ k, k ≤ l.length → IsSt (l.take k) (stOf (l.take k))
  | 0, _ => IsSt.nil
  | k + 1, h => by
    obtain ⟨x, hx⟩ := getEx (show k < l.length by omega)
    rw [stOf_next hx, take_one_more hx]
    exact (isSt_take l hn k (by omega)).both (IsSt.single x) (fun y hy => hn y (List.mem_of_mem_take hy)) (fun y hy => by rw [List.mem_singleton.1 hy]; exact hn x (List.mem_of_getElem? hx))
theorem isSt_of (l : List V) (hn : ∀ x ∈ l, 0 ≤ x.1) : IsSt l (stOf l) := by
  have := isSt_take l hn l.length (Nat.le_refl _)
  rwa [List.take_of_length_le (Nat.le_refl _)] at this

/-- What is known, as its eight cells. -/
def cellsS (s : St) : Array Value := #[.int .i64 s.1, .int .i64 s.2.1, .int .i64 s.2.2.1.1, .int .i64 s.2.2.1.2.1, .string s.2.2.1.2.2, .int .i64 s.2.2.2.1, .int .i64 s.2.2.2.2.1, .string s.2.2.2.2.2]
def KAt (w : World) (g : Nat) (s : St) : Prop := w.heap[g]? = some (.cells (cellsS s) 38)
theorem KAt.lt {w : World} {g : Nat} {s : St} (h : KAt w g s) : g < w.heap.size := by
  rcases Nat.lt_or_ge g w.heap.size with h' | h'
  · exact h'
  · unfold KAt at h; rw [Array.getElem?_eq_none h'] at h; cases h
theorem KAt.up {w W : World} {g : Nat} {s : St} (h : KAt w g s) (hb : Below w.heap.size w W) : KAt W g s := (hb.block g h.lt).trans h
theorem KAt.cells {w : World} {g : Nat} {c m k n : Int} {t : ByteArray} {k' n' : Int} {t' : ByteArray} (h : KAt w g (c, m, (k, n, t), (k', n', t'))) :
    w.cell? ⟨g, 0, none⟩ = some (.int .i64 c) ∧ w.cell? ⟨g, 1, none⟩ = some (.int .i64 m) ∧ w.cell? ⟨g, 2, none⟩ = some (.int .i64 k) ∧ w.cell? ⟨g, 3, none⟩ = some (.int .i64 n) ∧ w.cell? ⟨g, 4, none⟩ = some (.string t) ∧ w.cell? ⟨g, 5, none⟩ = some (.int .i64 k') ∧ w.cell? ⟨g, 6, none⟩ = some (.int .i64 n') ∧ w.cell? ⟨g, 7, none⟩ = some (.string t') :=
  ⟨cell_of_block h 0, cell_of_block h 1, cell_of_block h 2, cell_of_block h 3, cell_of_block h 4, cell_of_block h 5, cell_of_block h 6, cell_of_block h 7⟩
theorem KAt.free {w : World} {g : Nat} {s : St} (h : KAt w g s) :
    w.frozen? ⟨g, 0, none⟩ = false ∧ w.frozen? ⟨g, 1, none⟩ = false ∧ w.frozen? ⟨g, 2, none⟩ = false ∧ w.frozen? ⟨g, 3, none⟩ = false ∧ w.frozen? ⟨g, 4, none⟩ = false ∧ w.frozen? ⟨g, 5, none⟩ = false ∧ w.frozen? ⟨g, 6, none⟩ = false ∧ w.frozen? ⟨g, 7, none⟩ = false :=
  ⟨unfrozen_of_block h 0, unfrozen_of_block h 1, unfrozen_of_block h 2, unfrozen_of_block h 3, unfrozen_of_block h 4, unfrozen_of_block h 5, unfrozen_of_block h 6, unfrozen_of_block h 7⟩
theorem KAt.put {w : World} {g : Nat} {s s' : St} (h : KAt w g s) :
    KAt ((((((((w.setCell ⟨g, 0, none⟩ (.int .i64 s'.1)).setCell ⟨g, 1, none⟩ (.int .i64 s'.2.1)).setCell ⟨g, 2, none⟩ (.int .i64 s'.2.2.1.1)).setCell ⟨g, 3, none⟩ (.int .i64 s'.2.2.1.2.1)).setCell ⟨g, 4, none⟩ (.string s'.2.2.1.2.2)).setCell ⟨g, 5, none⟩ (.int .i64 s'.2.2.2.1)).setCell ⟨g, 6, none⟩ (.int .i64 s'.2.2.2.2.1)).setCell ⟨g, 7, none⟩ (.string s'.2.2.2.2.2)) g s' := by
  unfold KAt at h ⊢
  rw [block_setCell (block_setCell (block_setCell (block_setCell (block_setCell (block_setCell (block_setCell (block_setCell h _) _) _) _) _) _) _) _]
  simp [cellsS]
theorem KAt.put' {w : World} {g : Nat} {s s' : St} {c m k n : Int} {t : ByteArray} {k' n' : Int} {t' : ByteArray} (h : KAt w g s) (e : s' = (c, m, (k, n, t), (k', n', t'))) :
    KAt ((((((((w.setCell ⟨g, 0, none⟩ (.int .i64 c)).setCell ⟨g, 1, none⟩ (.int .i64 m)).setCell ⟨g, 2, none⟩ (.int .i64 k)).setCell ⟨g, 3, none⟩ (.int .i64 n)).setCell ⟨g, 4, none⟩ (.string t)).setCell ⟨g, 5, none⟩ (.int .i64 k')).setCell ⟨g, 6, none⟩ (.int .i64 n')).setCell ⟨g, 7, none⟩ (.string t')) g s' := by
  subst e
  have := KAt.put (s' := (c, m, (k, n, t), (k', n', t'))) h
  exact this
theorem KAt.off {w : World} {g r i : Nat} {s : St} {v : Value} (h : KAt w r s) (hn : r < g) : KAt (w.setCell ⟨g, i, none⟩ v) r s :=
  (((Below.refl g w).setCell (Nat.le_refl _) v).block r hn).trans h
theorem KAt.off8 {w : World} {g r : Nat} {s : St} {v0 v1 v2 v3 v4 v5 v6 v7 : Value} (h : KAt w r s) (hn : r < g) :
    KAt ((((((((w.setCell ⟨g, 0, none⟩ v0).setCell ⟨g, 1, none⟩ v1).setCell ⟨g, 2, none⟩ v2).setCell ⟨g, 3, none⟩ v3).setCell ⟨g, 4, none⟩ v4).setCell ⟨g, 5, none⟩ v5).setCell ⟨g, 6, none⟩ v6).setCell ⟨g, 7, none⟩ v7) r s :=
  (((((((h.off hn).off hn).off hn).off hn).off hn).off hn).off hn).off hn

theorem heap_new1 (w : World) (X Y : Obj) : ((w.alloc X).alloc Y).heap[w.heap.size + 1]? = some Y := by
  rw [← show (w.alloc X).heap.size = w.heap.size + 1 by simp]
  exact heap_alloc_new _ _

set_option maxHeartbeats 8000000 in
set_option maxRecDepth 100000 in
theorem of_any (v : Value) (l : List V) (w : World) (hs : Sl w v l) (hl : l.length ≤ 900) :
    Calls Tryz.prog 13 #[v] w fun e w' => e = .returned (.agg (cellsS (stOf l))) ∧ Below w.heap.size w w' := by
  obtain ⟨a, c, rfl, _, hL⟩ := hs
  have HL := mkH hL
  clear hL
  go_enter Tryz.func13, Tryz.ntmps13
  go_wp2
  go_loopw [8] (fun vi wr => ∃ k : Nat, k ≤ l.length ∧ vi = .int .i64 k ∧ Hid (KAt wr w.heap.size zeroS ∧ KAt wr (w.heap.size + 1) (stOf (l.take k)) ∧ Below w.heap.size w wr)) (fun vi _ => l.length - (intOf vi).toNat)
  case atStart => exact ⟨0, Nat.zero_le _, rfl, ⟨(Below.heap_alloc _ _ _ (by simp)).trans (heap_alloc_new _ _), heap_new1 w _ _, below_a2 _ _ _⟩⟩
  case round =>
    obtain ⟨k, hk, rfl, hw⟩ := hrel
    by_cases hlt : k < l.length
    · obtain ⟨b, off, rfl, hb, hc⟩ := HL.out (by intro e; rw [e] at hlt; simp at hlt)
      obtain ⟨⟨kx, nx, tx⟩, hx⟩ := getEx hlt
      obtain ⟨g0, g1, g2⟩ := hc k _ hx
      have d0 : wr.cell? ⟨b, off + k * 3, none⟩ = some (.int .i64 kx) := (hw.out.2.2.cell (p := ⟨b, off + k * 3, none⟩) hb).trans g0
      have d1 : wr.cell? ⟨b, off + k * 3 + 1, none⟩ = some (.int .i64 nx) := (hw.out.2.2.cell (p := ⟨b, off + k * 3 + 1, none⟩) hb).trans g1
      have d2 : wr.cell? ⟨b, off + k * 3 + 2, none⟩ = some (.string tx) := (hw.out.2.2.cell (p := ⟨b, off + k * 3 + 2, none⟩) hb).trans g2
      have HN := mkH (stOf_next hx)
      have hcn := stOf_take_cnt l k (by omega)
      have hon := oneS_cnt (kx, nx, tx)
      have HO := mkH (ofOne_any kx nx tx)
      clear g0 g1 g2 hc hx
      generalize stOf (l.take k) = s1 at *
      generalize oneS (kx, nx, tx) = so at *
      obtain ⟨c1, m1, ⟨k1, n1, t1⟩, ⟨p1, q1, u1⟩⟩ := s1
      obtain ⟨c2, m2, ⟨k2, n2, t2⟩, ⟨p2, q2, u2⟩⟩ := so
      obtain ⟨e0, e1, e2, e3, e4, e5, e6, e7⟩ := hw.out.2.1.cells
      obtain ⟨f0, f1, f2, f3, f4, f5, f6, f7⟩ := hw.out.2.1.free
      have hgl := hw.out.2.1.lt
      have HB : Hid (∀ W, _) := mkH (fun W => both_any c1 m1 k1 n1 t1 p1 q1 u1 c2 m2 k2 n2 t2 p2 q2 u2 W (by simp only at hcn; omega) (by simp only at hcn; omega) (by simp only at hon; omega) (by simp only at hon; omega) (by simp only at hcn; omega) (by simp only at hcn; omega) (by simp only at hon; omega) (by simp only at hon; omega))
      clear hcn hon
      have hn1 : ¬ wr.heap.size = w.heap.size + 1 := by omega
      have hn2 : ¬ w.heap.size + 1 = wr.heap.size := by omega
      have hz : w.heap.size + 1 < wr.heap.size + 1 := by omega
      go_wp2_with fail
      go_region_with (first
          | (go_at_call 29; refine (HO.out _).mono ?_; rintro e w1 ⟨rfl, hb1⟩; obtain ⟨hcl, hfl⟩ := bcell hb1; have z0 : w.heap.size + 1 < w1.heap.size := Nat.lt_of_lt_of_le (by first | assumption | (simp; done) | (simp; omega)) hb1.size; have z1 : wr.heap.size < w1.heap.size := Nat.lt_of_lt_of_le (by first | assumption | (simp; done) | (simp; omega)) hb1.size)
          | (go_at_call 28; refine (HB.out _).mono ?_; rintro e w2 ⟨rfl, hb2⟩; obtain ⟨hcg, hfg⟩ := bcell hb2; have y0 : w.heap.size + 1 < w2.heap.size := Nat.lt_of_lt_of_le (by first | assumption | (simp; done) | (simp; omega)) hb2.size; have y1 : wr.heap.size < w2.heap.size := Nat.lt_of_lt_of_le (by first | assumption | (simp; done) | (simp; omega)) hb2.size))
      all_goals
        go_wp2
        go_roundw
        case rel =>
          have B2 : Below wr.heap.size wr w2 := Below.ups (Below.ups (((Below.refl _ wr).alloc (Nat.le_refl _) _).drew) hb1) hb2
          exact ⟨k + 1, by omega, by go_num, mkH ⟨(hw.out.1.up B2).off8 (by omega), KAt.put' (hw.out.2.1.up B2) (HN.out.trans rfl), b8c (Below.ups hw.out.2.2 B2) (by omega) _ _ _ _ _ _ _ _⟩⟩
        case measure => simp [intOf]; omega
    · have e : l.take k = l := List.take_of_length_le (by omega)
      rw [e] at hw
      clear e HL
      obtain ⟨s1, hs1⟩ : ∃ s1, stOf l = s1 := ⟨_, rfl⟩
      rw [hs1] at hw
      have HE := mkH hs1
      clear hs1
      obtain ⟨c1, m1, ⟨k1, n1, t1⟩, ⟨p1, q1, u1⟩⟩ := s1
      obtain ⟨e0, e1, e2, e3, e4, e5, e6, e7⟩ := hw.out.2.1.cells
      obtain ⟨z0, z1, z2, z3, z4, z5, z6, z7⟩ := KAt.cells (c := 0) (m := 0) (k := 0) (n := 0) (t := ⟨#[]⟩) (k' := 0) (n' := 0) (t' := ⟨#[]⟩) hw.out.1
      obtain ⟨f0, f1, f2, f3, f4, f5, f6, f7⟩ := hw.out.1.free
      go_wp2
      exact bodyPost_ret (v := .agg #[.int .i64 c1, .int .i64 m1, .int .i64 k1, .int .i64 n1, .string t1, .int .i64 p1, .int .i64 q1, .string u1]) (by simp [results, Tryz.results13, go_sem, z0, z1, z2, z3, z4, z5, z6, z7]) rfl ⟨by rw [HE.out]; rfl, b8c hw.out.2.2 (Nat.le_refl _) _ _ _ _ _ _ _ _⟩
end Go.Proofs.YtlnkbhbpkmnkaaaGreatDoor.S
namespace Go.Proofs.YtlnkbhbpkmnkaaaGreatDoor.C
open Go

/-- A column: its number, its name, its kind, whether it must be something, and its default's kind, number and text. -/
abbrev Col := Int × ByteArray × Int × Bool × Int × Int × ByteArray
/-- A column's seven cells. -/
def encC (c : Col) : List Value := [.int .i64 c.1, .string c.2.1, .int .i64 c.2.2.1, .bool c.2.2.2.1, .int .i64 c.2.2.2.2.1, .int .i64 c.2.2.2.2.2.1, .string c.2.2.2.2.2.2]
/-- The cells of columns, one behind the other. -/
def cellsC (l : List Col) : List Value := l.flatMap encC

theorem encC_len (c : Col) : (encC c).length = 7 := rfl
theorem cellsC_len : ∀ l : List Col, (cellsC l).length = l.length * 7
  | [] => rfl
  | c :: l => by simp only [cellsC, List.flatMap_cons, List.length_append, encC_len, List.length_cons]; have := cellsC_len l; simp only [cellsC] at this; omega
theorem cellsC_at : ∀ (l : List Col) (j i : Nat), j < l.length → i < 7 → (cellsC l)[j * 7 + i]? = (encC l[j]!)[i]?
  | [], j, i, h, _ => absurd h (Nat.not_lt_zero _)
  | c :: l, 0, i, _, hi => by
    simp only [cellsC, List.flatMap_cons]
    rw [List.getElem?_append_left (by rw [encC_len]; omega)]
    simp
  | c :: l, j + 1, i, h, hi => by
    have ih := cellsC_at l j i (by simpa using h) hi
    simp only [cellsC, List.flatMap_cons] at ih ⊢
    rw [List.getElem?_append_right (by rw [encC_len]; omega), encC_len, show (j + 1) * 7 + i - 7 = j * 7 + i by omega, ih]
    simp
theorem cellsC_one (l : List Col) : ∀ u ∈ cellsC l, u.oneCell' = true := by
  intro u hu
  simp only [cellsC, List.mem_flatMap] at hu
  obtain ⟨c, _, hc⟩ := hu
  simp only [encC, List.mem_cons, List.not_mem_nil, or_false] at hc
  rcases hc with rfl | rfl | rfl | rfl | rfl | rfl | rfl <;> rfl
theorem cellsC_append (a b : List Col) : cellsC (a ++ b) = cellsC a ++ cellsC b := by simp [cellsC]

def mayC (cb : ByteArray → Bool) (fb : Int → Int → Int → ByteArray → Bool) (c : Col) : Prop :=
  (c.2.2.1 = 1 ∨ c.2.2.1 = 2) ∧ 1 ≤ c.1 ∧ cb c.2.1 = true ∧ fb c.2.2.1 c.2.2.2.2.1 c.2.2.2.2.2.1 c.2.2.2.2.2.2 = true
def Apart (a b : Col) : Prop := a.1 ≠ b.1 ∧ a.2.1 ≠ b.2.1
def RightP (cb : ByteArray → Bool) (fb : Int → Int → Int → ByteArray → Bool) (l : List Col) (next : Int) : Prop :=
  1 ≤ l.length ∧ l.length ≤ 8 ∧ (∀ c ∈ l, mayC cb fb c ∧ c.1 < next) ∧ l.Pairwise Apart
def renC (c : Col) (x : ByteArray) : Col := (c.1, x, c.2.2)
def findC (l : List Col) (nm : ByteArray) : Int := Lib.idxBy (fun _ y => y.2.1.toList == nm.toList) l default

theorem toList_inj {a b : ByteArray} (h : a.toList = b.toList) : a = b := by
  rw [ByteArray.toList_eq, ByteArray.toList_eq] at h
  exact ByteArray.ext (Array.toList_inj.mp h)
theorem find_cases (l : List Col) (nm : ByteArray) : (findC l nm = -1 ∧ ∀ j, j < l.length → l[j]!.2.1 ≠ nm) ∨ ∃ k : Nat, k < l.length ∧ findC l nm = k ∧ l[k]!.2.1 = nm := by
  by_cases h : ∃ k, k < l.length ∧ l[k]!.2.1 = nm
  · right
    have hex : ∃ k, k < l.length ∧ l[k]!.2.1 = nm := h
    let P : Nat → Prop := fun k => k < l.length ∧ l[k]!.2.1 = nm
    have key : ∀ n, (∃ k, k < n ∧ P k) → ∃ k, P k ∧ ∀ j, j < k → ¬ P j := by
      intro n
      induction n with
      | zero => rintro ⟨k, hk, _⟩; omega
      | succ n ih =>
        rintro ⟨k, hk, hp⟩
        by_cases hx : ∃ j, j < n ∧ P j
        · exact ih hx
        · refine ⟨k, hp, fun j hj hpj => hx ⟨j, by omega, hpj⟩⟩
    obtain ⟨k0, hk0⟩ := hex
    obtain ⟨k, ⟨hk, hn⟩, hmin⟩ := key (k0 + 1) ⟨k0, by omega, hk0⟩
    refine ⟨k, hk, ?_, hn⟩
    have := Lib.idxBy_hit (fun (_ : Col) (y : Col) => y.2.1.toList == nm.toList) l l.length k default hk (Nat.le_refl _) (by show (l[k]!.2.1.toList == nm.toList) = true; rw [hn]; exact beq_self_eq_true _) (fun j hj => by
      have := hmin j hj
      have : l[j]!.2.1 ≠ nm := fun e => this ⟨by omega, e⟩
      exact beq_eq_false_iff_ne.2 (fun e => this (toList_inj e)))
    rw [List.take_length] at this
    exact this
  · left
    refine ⟨?_, fun j hj e => h ⟨j, hj, e⟩⟩
    have := Lib.idxBy_miss (fun (_ : Col) (y : Col) => y.2.1.toList == nm.toList) l l.length default (fun j hj => beq_eq_false_iff_ne.2 (fun e => h ⟨j, hj, toList_inj e⟩))
    rw [List.take_length] at this
    exact this

theorem mem_of_lt {l : List Col} {j : Nat} (h : j < l.length) : l[j]! ∈ l := by
  rw [getElem!_pos l j h]; exact List.getElem_mem h
theorem apart_at {l : List Col} (h : l.Pairwise Apart) {i j : Nat} (hi : i < l.length) (hj : j < l.length) (hne : i ≠ j) : Apart l[i]! l[j]! := by
  rw [getElem!_pos l i hi, getElem!_pos l j hj]
  rcases Nat.lt_or_gt_of_ne hne with hlt | hlt
  · exact List.pairwise_iff_getElem.1 h i j hi hj hlt
  · have := List.pairwise_iff_getElem.1 h j i hj hi hlt
    exact ⟨fun e => this.1 e.symm, fun e => this.2 e.symm⟩
theorem find_at {cb : ByteArray → Bool} {fb : Int → Int → Int → ByteArray → Bool} {l : List Col} {next : Int} (h : RightP cb fb l next) {k : Nat} (hk : k < l.length) : findC l l[k]!.2.1 = k := by
  rcases find_cases l l[k]!.2.1 with ⟨_, hn⟩ | ⟨j, hj, hf, he⟩
  · exact (hn k hk rfl).elim
  · by_cases e : j = k
    · rw [hf, e]
    · exact ((apart_at h.2.2.2 hj hk e).2 he).elim

theorem right_more {cb : ByteArray → Bool} {fb : Int → Int → Int → ByteArray → Bool} {l : List Col} {next : Int} (h : RightP cb fb l next) (h8 : l.length < 8) {c : Col} (hc : mayC cb fb c) (hid : c.1 = next) (hn : ∀ j, j < l.length → l[j]!.2.1 ≠ c.2.1) : RightP cb fb (l ++ [c]) (next + 1) := by
  obtain ⟨h1, _, h3, h4⟩ := h
  refine ⟨by simp, by simp; omega, ?_, ?_⟩
  · intro x hx
    rcases List.mem_append.1 hx with hx | hx
    · exact ⟨(h3 x hx).1, by have := (h3 x hx).2; omega⟩
    · rw [List.mem_singleton.1 hx]; exact ⟨hc, by omega⟩
  · rw [List.pairwise_append]
    refine ⟨h4, List.pairwise_singleton _ _, ?_⟩
    intro a ha b hb
    rw [List.mem_singleton.1 hb]
    obtain ⟨j, hj, rfl⟩ := List.getElem_of_mem ha
    have := (h3 _ ha).2
    refine ⟨by omega, ?_⟩
    have := hn j hj
    rwa [getElem!_pos l j hj] at this

theorem right_less {cb : ByteArray → Bool} {fb : Int → Int → Int → ByteArray → Bool} {l : List Col} {next : Int} (h : RightP cb fb l next) {k : Nat} (hk : k < l.length) (h1 : l.length ≠ 1) : RightP cb fb (l.take k ++ l.drop (k + 1)) next := by
  obtain ⟨hl, h8, h3, h4⟩ := h
  rw [← List.eraseIdx_eq_take_drop_succ]
  have hlen := List.length_eraseIdx_of_lt hk
  exact ⟨by omega, by omega, fun c hc => h3 c (List.mem_of_mem_eraseIdx hc), h4.sublist (List.eraseIdx_sublist _ _)⟩

theorem getElem!_set {l : List Col} {k j : Nat} {c : Col} (hk : k < l.length) : (l.set k c)[j]! = if j = k then c else l[j]! := by
  by_cases e : j = k
  · subst e; simp [hk]
  · have e' : ¬ k = j := fun x => e x.symm
    simp [List.getElem!_eq_getElem?_getD, e, e']

theorem right_ren {cb : ByteArray → Bool} {fb : Int → Int → Int → ByteArray → Bool} {l : List Col} {next : Int} (h : RightP cb fb l next) {k : Nat} (hk : k < l.length) {to : ByteArray} (hto : cb to = true) (hn : ∀ j, j < l.length → l[j]!.2.1 ≠ to) : RightP cb fb (l.set k (renC l[k]! to)) next := by
  obtain ⟨hl, h8, h3, h4⟩ := h
  refine ⟨by simpa using hl, by simpa using h8, ?_, ?_⟩
  · intro c hc
    rcases List.mem_or_eq_of_mem_set hc with hc | rfl
    · exact h3 c hc
    · obtain ⟨⟨a1, a2, a3, a4⟩, a5⟩ := h3 _ (mem_of_lt hk)
      exact ⟨⟨a1, a2, hto, a4⟩, a5⟩
  · rw [List.pairwise_iff_getElem]
    intro i j hi hj hij
    have hi' : i < l.length := by simpa using hi
    have hj' : j < l.length := by simpa using hj
    rw [← getElem!_pos (l.set k (renC l[k]! to)) i, ← getElem!_pos (l.set k (renC l[k]! to)) j, getElem!_set hk, getElem!_set hk]
    have hap := apart_at h4 hi' hj' (by omega)
    by_cases ei : i = k
    · have ej : ¬ j = k := by omega
      rw [if_pos ei, if_neg ej]
      subst ei
      exact ⟨hap.1, fun e => hn j hj' e.symm⟩
    · rw [if_neg ei]
      by_cases ej : j = k
      · rw [if_pos ej]
        subst ej
        exact ⟨hap.1, fun e => hn i hi' e⟩
      · rw [if_neg ej]; exact hap

theorem ren_back {l : List Col} {k : Nat} (hk : k < l.length) {nm to : ByteArray} (h : l[k]!.2.1 = nm) : (l.set k (renC l[k]! to)).set k (renC (l.set k (renC l[k]! to))[k]! nm) = l := by
  rw [getElem!_set hk, if_pos rfl, List.set_set]
  have : renC (renC l[k]! to) nm = l[k]! := by rw [← h]; rfl
  rw [this, getElem!_pos l k hk, List.set_getElem_self]
theorem find_ren_to {cb : ByteArray → Bool} {fb : Int → Int → Int → ByteArray → Bool} {l : List Col} {next : Int} (h : RightP cb fb l next) {k : Nat} (hk : k < l.length) {to : ByteArray} (hto : cb to = true) (hn : ∀ j, j < l.length → l[j]!.2.1 ≠ to) : findC (l.set k (renC l[k]! to)) to = k := by
  have := find_at (right_ren h hk hto hn) (k := k) (by simpa using hk)
  rwa [getElem!_set hk, if_pos rfl] at this
theorem find_ren_nm {cb : ByteArray → Bool} {fb : Int → Int → Int → ByteArray → Bool} {l : List Col} {next : Int} (h : RightP cb fb l next) {k : Nat} (hk : k < l.length) {nm to : ByteArray} (hnm : l[k]!.2.1 = nm) (hne : to ≠ nm) : findC (l.set k (renC l[k]! to)) nm = -1 := by
  rcases find_cases (l.set k (renC l[k]! to)) nm with ⟨hf, _⟩ | ⟨j, hj, _, he⟩
  · exact hf
  · rw [List.length_set] at hj
    rw [getElem!_set hk] at he
    by_cases e : j = k
    · rw [if_pos e] at he; exact (hne he).elim
    · rw [if_neg e, ← hnm] at he; exact ((apart_at h.2.2.2 hj hk e).2 he).elim
end Go.Proofs.YtlnkbhbpkmnkaaaGreatDoor.C
namespace Go.Proofs.YtlnkbhbpkmnkaaaGreatDoor.C
open Go.RowKit

theorem mkH {p : Prop} (h : p) : Hid p := h
theorem ret_bool {a b : Bool} (h : a = b) : Ending.returned (.bool a) = .returned (.bool b) := by rw [h]
theorem ret_int {k : IntKind} {a b : Int} (h : a = b) : Ending.returned (.int k a) = .returned (.int k b) := by rw [h]
theorem nt {b : Bool} (h : (!b) = true) : b = false := by simpa using h
theorem nf {b : Bool} (h : (!b) = false) : b = true := by simpa using h
theorem Below.ups {a b c : World} (h : Below a.heap.size a b) (k : Below b.heap.size b c) : Below a.heap.size a c := h.trans (k.mono h.size)

def smallB (r : Int) : Bool := decide (97 ≤ r) && decide (r ≤ 122)
def digitB (r : Int) : Bool := decide (48 ≤ r) && decide (r ≤ 57)

set_option maxHeartbeats 400000 in
theorem small_any (r : Int) (w : World) : Calls Tryz.prog 142 #[.int .i32 r] w fun e w' => e = .returned (.bool (smallB r)) ∧ w' = w := by
  by_cases h1 : 97 ≤ r <;> by_cases h2 : r ≤ 122
  all_goals
    have H : Hid (smallB r = (decide (97 ≤ r) && decide (r ≤ 122))) := rfl
    go_enter Tryz.func142, Tryz.ntmps142
    go_wp2
    all_goals
      go_ret
      exact ⟨ret_bool (by rw [H.out]; simp [h1, h2]), rfl⟩

set_option maxHeartbeats 400000 in
theorem digit_any (r : Int) (w : World) : Calls Tryz.prog 145 #[.int .i32 r] w fun e w' => e = .returned (.bool (digitB r)) ∧ w' = w := by
  by_cases h1 : 48 ≤ r <;> by_cases h2 : r ≤ 57
  all_goals
    have H : Hid (digitB r = (decide (48 ≤ r) && decide (r ≤ 57))) := rfl
    go_enter Tryz.func145, Tryz.ntmps145
    go_wp2
    all_goals
      go_ret
      exact ⟨ret_bool (by rw [H.out]; simp [h1, h2]), rfl⟩
end Go.Proofs.YtlnkbhbpkmnkaaaGreatDoor.C
