/- A bucket beside a map of texts, and a struct that holds a key and a text: what Put, Get, Delete, List, Tell keep of them. -/
import Derived.Test.YtinpapenpinhdaaDoorW4
namespace Go.Proofs.YtinpapenpinhdaaDoor
open Go.RowKit Go.Maps Go.Sort Go.Shelf Go.Lib

/-- What was put, as the law notes it. -/
abbrev Now (w : World) (nb n : Nat) (D : DataW Unit) : Prop := w.ownsMap Tryd.prog 9 (plainElem Tryd.prog 9) nb n D
/-- All keys are keys of 1 to 60 bytes. -/
def KeysOk (D : DataW Unit) : Prop := ∀ k : ByteArray, Maps.has D (lit k) = true → okKey k = true
/-- Where the law stands. -/
def Nw (w0 : World) (bb nb n : Nat) (D : DataW Unit) (fs : List Int) (D' : DataW Unit) (w : World) : Prop := ∃ mv fv, Bu w bb n D fs mv fv ∧ Now w nb n D' ∧ mv ≠ .map (some nb) ∧ Below w0.heap.size w0 w ∧ w0.heap.size ≤ bb ∧ w0.heap.size ≤ nb ∧ ∀ k, mv = .map (some k) → w0.heap.size ≤ k
/-- A put's block. -/
def XB (w : World) (xb : Nat) (key s : ByteArray) (g : Bool) : Prop := w.heap[xb]? = some (.cells #[.string key, .string s, .bool g] 52 (0, 0))
theorem XB.c0 {w : World} {xb : Nat} {key s : ByteArray} {g : Bool} (h : XB w xb key s g) : w.cell? ⟨xb, 0, none⟩ = some (.string key) := by unfold XB at h; simp [World.cell?, h]
theorem XB.c1 {w : World} {xb : Nat} {key s : ByteArray} {g : Bool} (h : XB w xb key s g) : w.cell? ⟨xb, 1, none⟩ = some (.string s) := by unfold XB at h; simp [World.cell?, h]
theorem XB.c2 {w : World} {xb : Nat} {key s : ByteArray} {g : Bool} (h : XB w xb key s g) : w.cell? ⟨xb, 2, none⟩ = some (.bool g) := by unfold XB at h; simp [World.cell?, h]
/-- Where the law stands in a round. -/
def RS (w0 : World) (bb nb n : Nat) (D : DataW Unit) (fs : List Int) (D' : DataW Unit) (xb : Nat) (key s : ByteArray) (g : Bool) (w : World) : Prop := Nw w0 bb nb n D fs D' w ∧ XB w xb key s g

section
variable {w0 w : World} {bb nb n : Nat} {D : DataW Unit} {fs : List Int} {D' : DataW Unit} {xb : Nat} {key s : ByteArray} {g : Bool}
theorem Nw.ne (h : Nw w0 bb nb n D fs D' w) : nb ≠ bb := by
  obtain ⟨mv, fv, hu, ⟨es, clock, hb, _⟩, _⟩ := h
  intro e
  subst e
  have := hu.1
  unfold Bk at this
  rw [hb] at this
  cases this
theorem Nw.below {w' : World} (h : Nw w0 bb nb n D fs D' w) (hb : Below w.heap.size w w') : Nw w0 bb nb n D fs D' w' := by
  obtain ⟨mv, fv, hu, hm, hne, hB, h1, h2, h3⟩ := h
  exact ⟨mv, fv, hu.below hb, (Only.of_below (S := fun _ => False) hb).map hm (fun h => h), hne, hB.trans (hb.mono hB.size), h1, h2, h3⟩
theorem Nw.low (h : Nw w0 bb nb n D fs D' w) : Below w0.heap.size w0 w := by
  obtain ⟨mv, fv, hu, hm, hne, hB, _⟩ := h
  exact hB
theorem RS.below {w' : World} (h : RS w0 bb nb n D fs D' xb key s g w) (hb : Below w.heap.size w w') : RS w0 bb nb n D fs D' xb key s g w' :=
  ⟨h.1.below hb, (hb.block xb (World.block_lt_of_cell? w ⟨xb, 0, none⟩ h.2.c0)).trans h.2⟩
/-- A put's block is no block of the bucket's, nor the noted map's. -/
theorem RS.far (h : RS w0 bb nb n D fs D' xb key s g w) {mv fv : Value} (hu : Bu w bb n D fs mv fv) : ¬ Own bb mv xb := by
  rintro (e | e)
  · subst e
    have h1 := h.2
    have h2 := hu.1
    unfold XB at h1
    unfold Bk at h2
    rw [h1] at h2
    cases h2
  · exact hu.2.1.ne h.2.c0 e
theorem RS.put (h : RS w0 bb nb n D fs D' xb key s g w) (hn : n < maxLen) (hk : key.size ≤ maxLen) (hs : s.size ≤ maxLen) :
    Calls Tryd.prog 7 #[.pointer (some ⟨bb, 0, none⟩), .string key, .string s] w fun e w' => e = .returned (errV (putR D fs key s).1) ∧ RS w0 bb nb (n + 1) (putR D fs key s).2.1 (putR D fs key s).2.2 D' xb key s g w' := by
  have h' := h
  obtain ⟨⟨mv, fv, hu, hm, hne, hB, h1, h2, h3⟩, hx⟩ := h'
  refine (put_any bb n D fs mv fv key s w hu hn hk hs).mono ?_
  rintro e w' ⟨rfl, mv', fv', hu', ho, hm'⟩
  have hlt := hm.lt
  refine ⟨rfl, ⟨mv', fv', hu', (ho.map hm ?_).mono (by omega), fun e => ?_, ho.below hB hB.size ?_, h1, h2, fun k hk => ?_⟩, (ho.block xb (World.block_lt_of_cell? w ⟨xb, 0, none⟩ hx.c0) (h.far hu)).trans hx⟩
  · rintro (e | e)
    · exact h.1.ne e
    · exact hne e
  · rcases hm' _ e with e | e
    · exact hne e
    · omega
  · rintro i (rfl | h)
    · exact h1
    · exact h3 i h
  · rcases hm' k hk with h | h
    · exact h3 k h
    · exact Nat.le_trans hB.size h
theorem RS.del (h : RS w0 bb nb n D fs D' xb key s g w) (hk : key.size ≤ maxLen) :
    Calls Tryd.prog 10 #[.pointer (some ⟨bb, 0, none⟩), .string key] w fun e w' => e = .returned (errV (if Maps.has D (lit key) = true then 0 else 7)) ∧ RS w0 bb nb n (D.del (lit key)) fs D' xb key s g w' := by
  have h' := h
  obtain ⟨⟨mv, fv, hu, hm, hne, hB, h1, h2, h3⟩, hx⟩ := h'
  refine (delete_any bb n D fs mv fv key w hu hk).mono ?_
  rintro e w' ⟨rfl, hu', ho⟩
  refine ⟨rfl, ⟨mv, fv, hu', ho.map hm ?_, hne, ho.below hB hB.size ?_, h1, h2, h3⟩, (ho.block xb (World.block_lt_of_cell? w ⟨xb, 0, none⟩ hx.c0) (h.far hu)).trans hx⟩
  · rintro (e | e)
    · exact h.1.ne e
    · exact hne e
  · rintro i (rfl | h)
    · exact h1
    · exact h3 i h
theorem Nw.get1 (h : Nw w0 bb nb n D fs D' w) (k t : ByteArray) (hk : k.size ≤ maxLen) (hh : Maps.has D (lit k) = true) (ha : D.atKey (lit k) (txt ByteArray.empty) = txt t) :
    Calls Tryd.prog 9 #[.pointer (some ⟨bb, 0, none⟩), .string k] w fun e w' => e = .returned (.tuple #[.string t, errV 0]) ∧ Below w.heap.size w w' := by
  obtain ⟨mv, fv, hu, _⟩ := h
  refine (get_any bb n D mv k w hu.1.c0 hu.2.1 hk).mono ?_
  rintro e w' ⟨t', rfl, ht, _, hb⟩
  rw [hh]
  have : t' = t := txt_inj ((ht hh).symm.trans ha)
  subst this
  exact ⟨rfl, hb⟩
theorem Nw.get2 (h : Nw w0 bb nb n D fs D' w) (k : ByteArray) (hk : k.size ≤ maxLen) (hh : Maps.has D (lit k) = true) :
    Calls Tryd.prog 9 #[.pointer (some ⟨bb, 0, none⟩), .string k] w fun e w' => ∃ t : ByteArray, e = .returned (.tuple #[.string t, errV 0]) ∧ Below w.heap.size w w' := by
  obtain ⟨mv, fv, hu, _⟩ := h
  refine (get_any bb n D mv k w hu.1.c0 hu.2.1 hk).mono ?_
  rintro e w' ⟨t', rfl, ht, _, hb⟩
  rw [hh]
  exact ⟨t', rfl, hb⟩
theorem Nw.get0 (h : Nw w0 bb nb n D fs D' w) (k : ByteArray) (hk : k.size ≤ maxLen) (hh : Maps.has D (lit k) = false) :
    Calls Tryd.prog 9 #[.pointer (some ⟨bb, 0, none⟩), .string k] w fun e w' => e = .returned (.tuple #[.string ByteArray.empty, errV 7]) ∧ Below w.heap.size w w' := by
  obtain ⟨mv, fv, hu, _⟩ := h
  refine (get_any bb n D mv k w hu.1.c0 hu.2.1 hk).mono ?_
  rintro e w' ⟨t', rfl, _, ht, hb⟩
  rw [hh, ht hh]
  exact ⟨rfl, hb⟩
theorem Nw.tell (h : Nw w0 bb nb n D fs D' w) (hg : EtB w0) (x : Int) :
    Calls Tryd.prog 16 #[errV x] w fun e w' => e = .returned (.int .i64 x) ∧ Below w.heap.size w w' := tell_err x w (hg.below h.low)
theorem Nw.list (h : Nw w0 bb nb n D fs D' w) (hn : n ≤ 1000) :
    Calls Tryd.prog 12 #[.pointer (some ⟨bb, 0, none⟩), .string ⟨#[]⟩] w fun e w' => ∃ a c, e = .returned (.slice a (Maps.size D) c) ∧ Below w.heap.size w w' := by
  obtain ⟨mv, fv, hu, _⟩ := h
  refine (list_any bb n D mv ⟨#[]⟩ w hu.1.c0 hu.2.1 hn).mono ?_
  rintro e w' ⟨v, rfl, ⟨a, c, rfl, _, _⟩, hb⟩
  rw [show listR D ⟨#[]⟩ = listR D ByteArray.empty from rfl, listR_len hu.2.1.isMap]
  exact ⟨a, c, rfl, hb⟩
theorem Nw.now (h : Nw w0 bb nb n D fs D' w) : Now w nb n D' := by
  obtain ⟨mv, fv, hu, hm, _⟩ := h
  exact hm
/-- The noted map turns, and nothing else. -/
theorem Nw.turn {w' : World} {n' : Nat} {D2 : DataW Unit} (h : Nw w0 bb nb n D fs D' w) (ht : w.mapTurned w' nb) (hm' : Now w' nb n' D2) (hn : n ≤ n') : Nw w0 bb nb n' D fs D2 w' := by
  have h' := h
  obtain ⟨mv, fv, hu, hm, hne, hB, h1, h2, h3⟩ := h'
  have ho : Only (fun k => k = nb) w w' := (Only.refl _ w).turned ht (fun _ => rfl)
  refine ⟨mv, fv, (hu.only ho (fun e => h.ne e.symm) (fun m e e2 => hne (by rw [e, e2])) (fun p x hc e => ?_)).mono hn, hm', hne, ho.below hB hB.size (fun i e => by omega), h1, h2, h3⟩
  obtain ⟨es, clock, hb, _⟩ := hm
  rw [← e] at hb
  simp [World.cell?, hb] at hc
theorem RS.turn {w' : World} {n' : Nat} {D2 : DataW Unit} (h : RS w0 bb nb n D fs D' xb key s g w) (ht : w.mapTurned w' nb) (hm' : Now w' nb n' D2) (hn : n ≤ n') : RS w0 bb nb n' D fs D2 xb key s g w' := by
  refine ⟨h.1.turn ht hm' hn, ?_⟩
  have ho : Only (fun k => k = nb) w w' := (Only.refl _ w).turned ht (fun _ => rfl)
  refine (ho.block xb (World.block_lt_of_cell? w ⟨xb, 0, none⟩ h.2.c0) (fun e => ?_)).trans h.2
  obtain ⟨es, clock, hb, _⟩ := h.1.now
  have h1 := h.2
  unfold XB at h1
  rw [e, hb] at h1
  cases h1
end

/-- What a Put may come to, where all keys are right. -/
theorem putCases (D : DataW Unit) (fs : List Int) (key s : ByteArray) (hK : KeysOk D) :
    (Maps.has D (lit key) = false ∧ ∃ fs', putR D fs key s = (1, D, fs') ∨ putR D fs key s = (14, D, fs')) ∨ (Maps.has D (lit key) = true ∧ ∃ fs', putR D fs key s = (9, D, fs')) ∨
      (okKey key = true ∧ Maps.has D (lit key) = false ∧ ∃ fs', putR D fs key s = (14, D.put (lit key) (txt s), fs') ∨ putR D fs key s = (0, D.put (lit key) (txt s), fs')) := by
  unfold putR
  by_cases h1 : okKey key = false
  · rw [if_pos h1]
    left
    refine ⟨?_, fs, .inl rfl⟩
    cases hh : Maps.has D (lit key)
    · rfl
    · rw [hK key hh] at h1; cases h1
  · rw [if_neg h1]
    by_cases h2 : Maps.has D (lit key) = true
    · rw [if_pos h2]
      exact .inr (.inl ⟨h2, fs, rfl⟩)
    · rw [if_neg h2]
      have h2' : Maps.has D (lit key) = false := by simpa using h2
      by_cases h3 : fs.headD 0 = 1
      · rw [if_pos h3]
        exact .inl ⟨h2', fs.tail, .inr rfl⟩
      · rw [if_neg h3]
        right
        right
        refine ⟨by simpa using h1, h2', fs.tail, ?_⟩
        by_cases h4 : fs.headD 0 = 2
        · rw [if_pos h4]; exact .inl rfl
        · rw [if_neg h4]; exact .inr rfl
theorem KeysOk.put {D : DataW Unit} (h : KeysOk D) (key : ByteArray) (d : DataW Unit) (hk : okKey key = true) : KeysOk (D.put (lit key) d) := by
  intro k hh
  by_cases e : lit k = lit key
  · rw [lit_inj e]; exact hk
  · rw [has_put_other e] at hh
    exact h k hh
theorem KeysOk.del {D : DataW Unit} (h : KeysOk D) (key : ByteArray) : KeysOk (D.del (lit key)) := by
  intro k hh
  by_cases e : lit k = lit key
  · rw [e, has_del_same] at hh; cases hh
  · rw [has_del_other e] at hh
    exact h k hh
theorem keysOk_nil : KeysOk (.map []) := fun k h => by cases h
end Go.Proofs.YtinpapenpinhdaaDoor
