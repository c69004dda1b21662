/- What encode.fits and slices.Clone do at these values, said of every call. -/
import Derived.Test.YtlnkbhbpkmnkaaaGreatDoorShelf
namespace Go.Proofs.YtlnkbhbpkmnkaaaGreatDoor.E
open Go.RowKit Go.Proofs Go.Shelf
open Go.Sort (grow)

def badLetter (r : Nat) : Bool := decide (r < 32) || (decide (126 < r) || ((r : Int) == 39))

set_option maxHeartbeats 1000000 in
theorem letter_any (w : World) : PredAt Tryz.prog 175 #[] encR badLetter w := fun W r _ => by
  unfold FnGives
  by_cases h1 : r < 32 <;> by_cases h2 : 126 < r
  all_goals
    have z1 : (r : Int) < 32 ↔ r < 32 := by omega
    have z2 : (126 : Int) < (r : Int) ↔ 126 < r := by omega
    go_enter Tryz.func175, Tryz.ntmps175
    go_wp2
    all_goals first | (exfalso; omega) | (go_ret; exact ⟨ret_bool (by simp [badLetter, h1, h2]), 0, rfl⟩)

def rtB (t : ByteArray) : Bool := decide (t.size ≤ 40) && !(decide (0 ≤ Lib.idxFunc badLetter true t))
theorem rt0 {t : ByteArray} (h : ¬ t.size ≤ 40) : false = rtB t := by simp [rtB, h]
theorem rt1 {t : ByteArray} (h : t.size ≤ 40) : (!(decide (0 ≤ Lib.idxFunc badLetter true t))) = rtB t := by simp [rtB, h]

set_option maxHeartbeats 1000000 in
theorem rightText_any (t : ByteArray) (w : World) (ht : t.size ≤ maxLen) :
    Calls Tryz.prog 152 #[.string t] w fun e w' => e = .returned (.bool (rtB t)) ∧ Below w.heap.size w w' := by
  have HC : Hid (∀ W, Calls Tryz.prog 143 #[.string t, .func (.func 175) #[] #[]] W fun e w' => e = .returned (.bool (decide (0 ≤ Lib.idxFunc badLetter true t))) ∧ Below W.heap.size W w') := fun W => Tryz.strings_ContainsFunc 175 #[] (enters_of Tryz.func175 (by kernel_rfl) rfl) badLetter t W (letter_any W)
  unfold maxLen at ht
  by_cases h : t.size ≤ 40
  · have HR : Hid ((!(decide (0 ≤ Lib.idxFunc badLetter true t))) = rtB t) := rt1 h
    generalize decide (0 ≤ Lib.idxFunc badLetter true t) = b at HC HR
    go_enter Tryz.func152, Tryz.ntmps152
    go_wp2_with (first
      | (go_at_call 143; refine (HC.out _).mono ?_; rintro e w1 ⟨rfl, hb1⟩))
    go_ret
    exact ⟨ret_bool HR.out, hb1⟩
  · have HR : Hid (false = rtB t) := rt0 h
    clear HC
    go_enter Tryz.func152, Tryz.ntmps152
    go_wp2
    go_ret
    exact ⟨ret_bool HR.out, Below.refl _ _⟩

def rightV (k n : Int) (t : ByteArray) : Bool := if k = 0 then n == 0 && t.toList.isEmpty else if k = 1 then t.toList.isEmpty else if k = 2 then n == 0 && rtB t else false
theorem rv0 {k n : Int} {t : ByteArray} (hn : (n == 0) = true) (h : (k == 0) = true) : t.toList.isEmpty = rightV k n t := by simp at h hn; subst h hn; simp [rightV]
theorem rv0' {k n : Int} {t : ByteArray} (hn : (n == 0) = false) (h : (k == 0) = true) : false = rightV k n t := by simp at h; subst h; simp [rightV, hn]
theorem rv1 {k n : Int} {t : ByteArray} (h : (k == 1) = true) : t.toList.isEmpty = rightV k n t := by simp at h; subst h; simp [rightV]
theorem rv2 {k n : Int} {t : ByteArray} (hn : (n == 0) = true) (h : (k == 2) = true) : rtB t = rightV k n t := by simp at h hn; subst h hn; simp [rightV]
theorem rv2' {k n : Int} {t : ByteArray} (hn : (n == 0) = false) (h : (k == 2) = true) : false = rightV k n t := by simp at h; subst h; simp [rightV, hn]
theorem rv3 {k n : Int} {t : ByteArray} (h0 : (k == 0) = false) (h1 : (k == 1) = false) (h2 : (k == 2) = false) : false = rightV k n t := by
  simp at h0 h1 h2; simp [rightV, h0, h1, h2]

set_option maxHeartbeats 1000000 in
theorem rightV_any (k n : Int) (t : ByteArray) (w : World) (ht : t.size ≤ maxLen) :
    Calls Tryz.prog 119 #[.agg #[.int .i64 k, .int .i64 n, .string t]] w fun e w' => e = .returned (.bool (rightV k n t)) ∧ Below w.heap.size w w' := by
  have HC : Hid (∀ W, Calls Tryz.prog 152 #[.string t] W fun e w' => e = .returned (.bool (rtB t)) ∧ Below W.heap.size W w') := fun W => rightText_any t W ht
  unfold maxLen at ht
  by_cases hn : n = 0
  · have hb : (n == 0) = true := by simpa using hn
    clear hn
    go_enter Tryz.func119, Tryz.ntmps119
    go_wp2_with (first
      | (go_at_call 152; refine (HC.out _).mono ?_; rintro e w1 ⟨rfl, hb1⟩))
    all_goals go_ret
    · exact ⟨ret_bool (rv0 hb ‹_›), (Below.refl _ _).alloc (Nat.le_refl _) _⟩
    · exact ⟨ret_bool (rv1 ‹_›), (Below.refl _ _).alloc (Nat.le_refl _) _⟩
    · exact ⟨ret_bool (rv2 hb ‹_›), ((Below.refl _ _).alloc (Nat.le_refl _) _).trans (hb1.mono (by simp))⟩
    · exact ⟨ret_bool (rv3 ‹_› ‹_› ‹_›), (Below.refl _ _).alloc (Nat.le_refl _) _⟩
  · have hb : (n == 0) = false := by simpa using hn
    clear hn
    go_enter Tryz.func119, Tryz.ntmps119
    go_wp2_with (first
      | (go_at_call 152; refine (HC.out _).mono ?_; rintro e w1 ⟨rfl, hb1⟩))
    all_goals go_ret
    · exact ⟨ret_bool (rv0' hb ‹_›), (Below.refl _ _).alloc (Nat.le_refl _) _⟩
    · exact ⟨ret_bool (rv1 ‹_›), (Below.refl _ _).alloc (Nat.le_refl _) _⟩
    · exact ⟨ret_bool (rv2' hb ‹_›), (Below.refl _ _).alloc (Nat.le_refl _) _⟩
    · exact ⟨ret_bool (rv3 ‹_› ‹_› ‹_›), (Below.refl _ _).alloc (Nat.le_refl _) _⟩


theorem nt {b : Bool} (h : (!b) = true) : b = false := by simpa using h
theorem nf {b : Bool} (h : (!b) = false) : b = true := by simpa using h
theorem bcell {W w1 : World} (hb : Below W.heap.size W w1) : (∀ b o, b < W.heap.size → w1.cell? ⟨b, o, none⟩ = W.cell? ⟨b, o, none⟩) ∧ (∀ b o, b < W.heap.size → w1.frozen? ⟨b, o, none⟩ = W.frozen? ⟨b, o, none⟩) :=
  ⟨fun b o h => hb.cell (p := ⟨b, o, none⟩) h, fun b o h => hb.frozen (p := ⟨b, o, none⟩) h⟩
set_option maxHeartbeats 1000000 in
theorem closure28_any (k n : Int) (t : ByteArray) (w : World) :
    Calls Tryz.prog 162 #[.agg #[.int .i64 k, .int .i64 n, .string t]] w fun e w' => e = .returned (.bool (k == 0)) ∧ Below w.heap.size w w' := by
  go_enter Tryz.func162, Tryz.ntmps162
  go_wp2
  go_ret
  exact ⟨rfl, (Below.refl _ _).alloc (Nat.le_refl _) _⟩

end Go.Proofs.YtlnkbhbpkmnkaaaGreatDoor.E
namespace Go.Proofs.YtlnkbhbpkmnkaaaGreatDoor.E
open Go.RowKit Go.Proofs Go.Shelf

/-- A value that a column of a kind may not have. -/
def badV (kind : Int) (x : V) : Bool := !rightV x.1 x.2.1 x.2.2 || (!(x.1 == 0) && !(x.1 == kind))

set_option maxHeartbeats 600000 in
set_option maxRecDepth 100000 in
theorem closure24_any (kind k n : Int) (t : ByteArray) (bx : Nat) (w : World) (hb : bx < w.heap.size) (d0 : w.cell? ⟨bx, 0, none⟩ = some (.int .i64 kind)) (ht : t.size ≤ maxLen) :
    Calls Tryz.prog 157 #[.agg #[.int .i64 k, .int .i64 n, .string t], .pointer (some ⟨bx, 0, none⟩)] w fun e w' => e = .returned (.bool (badV kind (k, n, t))) ∧ Below w.heap.size w w' := by
  have hne : ¬ w.heap.size = bx := by omega
  have HC := mkHid (fun W => rightV_any k n t W ht)
  have HR : Hid (badV kind (k, n, t) = (!rightV k n t || (!(k == 0) && !(k == kind)))) := rfl
  clear ht
  cases hr : rightV k n t with
  | false =>
    rw [hr] at HR HC
    go_enter Tryz.func157, Tryz.ntmps157
    go_wp2_with (go_at_call 119; refine (HC.out _).mono ?_; rintro e w1 ⟨rfl, hb1⟩)
    go_ret
    exact ⟨ret_bool (by rw [HR.out]; rfl), ((Below.refl _ _).alloc (Nat.le_refl _) _).trans (hb1.mono (by simp))⟩
  | true =>
    rw [hr] at HR HC
    by_cases h0 : k = 0
    · subst h0
      go_enter Tryz.func157, Tryz.ntmps157
      go_wp2_with fail
      refine (HC.out _).mono ?_
      rintro e w1 ⟨rfl, hb1⟩
      have q0 : w1.cell? ⟨w.heap.size, 0, none⟩ = some (.int .i64 0) := (hb1.cell (p := ⟨w.heap.size, 0, none⟩) (by simp)).trans (World.cell?_alloc_mark w _ 29 (0, 0) 0)
      have q1 : w1.cell? ⟨bx, 0, none⟩ = some (.int .i64 kind) := (hb1.cell (p := ⟨bx, 0, none⟩) (by simp; omega)).trans (Lib.cell?_alloc_some _ d0)
      go_wp2
      all_goals
        go_ret
        exact ⟨ret_bool (by rw [HR.out]; simp [*]), ((Below.refl _ _).alloc (Nat.le_refl _) _).trans (hb1.mono (by simp))⟩
    · have b0 : (k == 0) = false := by simpa using h0
      go_enter Tryz.func157, Tryz.ntmps157
      go_wp2_with fail
      refine (HC.out _).mono ?_
      rintro e w1 ⟨rfl, hb1⟩
      have q0 : w1.cell? ⟨w.heap.size, 0, none⟩ = some (.int .i64 k) := (hb1.cell (p := ⟨w.heap.size, 0, none⟩) (by simp)).trans (World.cell?_alloc_mark w _ 29 (0, 0) 0)
      have q1 : w1.cell? ⟨bx, 0, none⟩ = some (.int .i64 kind) := (hb1.cell (p := ⟨bx, 0, none⟩) (by simp; omega)).trans (Lib.cell?_alloc_some _ d0)
      go_wp2
      all_goals
        go_ret
        exact ⟨ret_bool (by rw [HR.out]; simp [*, bne]), ((Below.refl _ _).alloc (Nat.le_refl _) _).trans (hb1.mono (by simp))⟩
end Go.Proofs.YtlnkbhbpkmnkaaaGreatDoor.E
namespace Go.Proofs.YtlnkbhbpkmnkaaaGreatDoor.E
open Go.RowKit Go.Proofs Go.Shelf

def fitsB (kind : Int) (l : List V) : Bool := (kind == 1 || kind == 2) && !l.any (badV kind)
theorem fits24 (kind : Int) (v : Value) (l : List V) (w W : World) (b : Nat) (hs : Sl w v l) (hl : l.length ≤ 1000) (ht : ∀ x ∈ l, x.2.2.size ≤ maxLen) (hw : Below w.heap.size w W) (hb : W.heap[b]? = some (.cells #[.int .i64 kind] 3)) :
    Calls Tryz.prog 156 #[v, .func (.func 157) #[] #[.pointer (some ⟨b, 0, none⟩)]] W fun e w' => e = .returned (.bool (l.any (badV kind))) ∧ Below W.heap.size W w' := by
  refine containsFunc_any 157 #[.pointer (some ⟨b, 0, none⟩)] (badV kind) (enters_of Tryz.func157 (by kernel_rfl) rfl) v l W (hs.up hw) hl ?_
  intro W' x hx hW
  have hb' := blk_up hb hW
  have d0 : W'.cell? ⟨b, 0, none⟩ = some (.int .i64 kind) := by simp [World.cell?, hb']
  exact (closure24_any kind x.1 x.2.1 x.2.2 b W' (blk_lt hb') d0 (ht x hx)).mono fun e w' ⟨he, hb⟩ => ⟨he, hW.trans (hb.mono hW.size)⟩

set_option maxHeartbeats 2000000 in
set_option maxRecDepth 100000 in
theorem fits_any (kind : Int) (v : Value) (l : List V) (w : World) (hs : Sl w v l) (hl : l.length ≤ 1000) (ht : ∀ x ∈ l, x.2.2.size ≤ maxLen) :
    Calls Tryz.prog 124 #[.int .i64 kind, v] w fun e w' => e = .returned (.bool (fitsB kind l)) ∧ Below w.heap.size w w' := by
  have HC := mkHid (fits24 kind v l w (w.alloc (.cells #[.int .i64 kind] 3)) w.heap.size hs hl ht ((Below.refl _ _).alloc (Nat.le_refl _) _) (heap_alloc_new _ _))
  obtain ⟨a, c, rfl, _, _⟩ := hs
  clear ht
  by_cases h1 : kind = 1
  · subst h1
    have HR : Hid (fitsB 1 l = !l.any (badV 1)) := mkHid (by simp [fitsB])
    generalize l.any (badV 1) = q at HC HR
    go_enter Tryz.func124, Tryz.ntmps124
    go_wp2_with (go_at_call 156; refine HC.out.mono ?_; rintro e w1 ⟨rfl, hb1⟩)
    go_ret
    exact ⟨ret_bool (by rw [HR.out]), ((Below.refl _ _).alloc (Nat.le_refl _) _).trans (hb1.mono (by simp))⟩
  · by_cases h2 : kind = 2
    · subst h2
      have HR : Hid (fitsB 2 l = !l.any (badV 2)) := mkHid (by simp [fitsB])
      generalize l.any (badV 2) = q at HC HR
      go_enter Tryz.func124, Tryz.ntmps124
      go_wp2_with (go_at_call 156; refine HC.out.mono ?_; rintro e w1 ⟨rfl, hb1⟩)
      go_ret
      exact ⟨ret_bool (by rw [HR.out]), ((Below.refl _ _).alloc (Nat.le_refl _) _).trans (hb1.mono (by simp))⟩
    · have HR : Hid (fitsB kind l = false) := mkHid (by simp [fitsB, h1, h2])
      have b1 : (kind != 1) = true := by simpa using h1
      have b2 : (kind != 2) = true := by simpa using h2
      clear HC
      go_enter Tryz.func124, Tryz.ntmps124
      go_wp2
      go_ret
      exact ⟨ret_bool HR.out.symm, (Below.refl _ _).alloc (Nat.le_refl _) _⟩

theorem nil22 : ∀ (w : World) (a : Option Addr) (n c n' c' : Nat), (binOp .eql 35 (.slice a n c) (.slice none n' c')).run Tryz.prog w = .ok (.bool a.isNone) w := fun w a n c n' c' => Lib.run_eql_slice_nil w _ _ a n c n' c' Tryz.underlying35

theorem cells_flat {w : World} {b off : Nat} {l : List V} (h : ∀ j x, l[j]? = some x → w.cell? ⟨b, off + j * 3, none⟩ = some (.int .i64 x.1) ∧ w.cell? ⟨b, off + j * 3 + 1, none⟩ = some (.int .i64 x.2.1) ∧ w.cell? ⟨b, off + j * 3 + 2, none⟩ = some (.string x.2.2)) :
    ∀ j u, (flatV l)[j]? = some u → w.cell? ⟨b, off + j, none⟩ = some u := by
  intro j u hj
  have hlt : j < l.length * 3 := by
    rcases Nat.lt_or_ge j (l.length * 3) with h' | h'
    · exact h'
    · rw [List.getElem?_eq_none (by rw [flatV_len]; exact h')] at hj; cases hj
  obtain ⟨x, hx⟩ := getEx (l := l) (k := j / 3) (by omega)
  obtain ⟨a0, a1, a2⟩ := flatV_at hx
  obtain ⟨c0, c1, c2⟩ := h _ _ hx
  have hm : j % 3 = 0 ∨ j % 3 = 1 ∨ j % 3 = 2 := by omega
  rcases hm with hm | hm | hm
  · have e : j = j / 3 * 3 := by omega
    rw [e] at hj ⊢
    rw [a0] at hj; rw [c0]; exact hj
  · have e : j = j / 3 * 3 + 1 := by omega
    rw [e] at hj ⊢
    rw [a1] at hj; rw [← Nat.add_assoc, c1]; exact hj
  · have e : j = j / 3 * 3 + 2 := by omega
    rw [e] at hj ⊢
    rw [a2] at hj; rw [← Nat.add_assoc, c2]; exact hj
theorem addr_add2 (b off j : Nat) : (⟨b, off, none⟩ : Addr).add j = ⟨b, off + j, none⟩ := by unfold Addr.add; split <;> simp_all

set_option maxHeartbeats 2000000 in
set_option maxRecDepth 100000 in
theorem clone_any (v : Value) (l : List V) (w : World) (hs : Sl w v l) (hl : l.length ≤ 1000) :
    Calls Tryz.prog 161 #[v] w fun e w' => ∃ v', e = .returned v' ∧ w'.ownsRow w.heap.size 29 3 v' l.length (flatV l) ∧ Below w.heap.size w w' := by
  obtain ⟨i32, hi32, hz32, hz132, hz232⟩ := info_parts info32
  have HI32 := mkHid (And.intro hi32 (And.intro hz32 (And.intro hz132 hz232)))
  clear hi32 hz32 hz132 hz232
  obtain ⟨a, c, rfl, _, hc⟩ := hs
  have hnil := nil22
  cases a with
  | none =>
    have hl0 : l = [] := Classical.byContradiction fun h => by obtain ⟨b, off, e, _⟩ := hc h; cases e
    subst hl0
    clear hc
    go_enter Tryz.func161, Tryz.ntmps161
    go_wp2
    go_ret
    exact ⟨_, rfl, World.ownsRow_nil _ _ _ _, Below.refl _ _⟩
  | some ad =>
    have HNEWS : Hid (∀ j u, (flatV l)[j]? = some u → w.cell? (ad.add j) = some u) := mkHid fun j u hj => by
      by_cases hne : l = []
      · subst hne; simp [flatV] at hj
      · obtain ⟨b, off, e, hb, hcc⟩ := hc hne
        cases e
        rw [addr_add2]
        exact cells_flat hcc j u hj
    clear hc
    go_enter Tryz.func161, Tryz.ntmps161
    go_wp2_with (at_builtin; refine wpList_append_own _ rfl _ _ 35 rfl w.heap.size 29 i32 (.agg #[.int .i64 0, .int .i64 0, .string ⟨#[]⟩]) 3 32 Tryz.underlying35 HI32.out.1 HI32.out.2.1 HI32.out.2.2.1 HI32.out.2.2.2 rfl (by decide) _ _ _ rfl (World.ownsRow_made w #[] 0 (Nat.le_refl _) (Nat.zero_le _) (by simp)) ad l.length c (flatV l) rfl (flatV_len l) ?c1 (flatV_one l) ?c3 ?c4 ?c5 ?_)
    case c1 => exact fun j u hj => Lib.cell?_alloc_some _ (HNEWS.out j u hj)
    case c3 => unfold maxLen; omega
    case c4 => omega
    case c5 => simp
    intro v' w1 hown hgrow hnl
    go_wp2
    go_ret
    refine ⟨v', rfl, by simpa using hown, ?_⟩
    exact ((Below.refl _ w).alloc (Nat.le_refl _) _).grown hgrow (by simp) (by intro k hk; simp [Value.ownBlock] at hk; omega)
end Go.Proofs.YtlnkbhbpkmnkaaaGreatDoor.E
