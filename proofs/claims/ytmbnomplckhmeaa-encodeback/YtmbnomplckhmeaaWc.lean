/- What encode.fits and slices.Clone do at these values, said of every call. -/
import Derived.Test.YtmbnomplckhmeaaWb
namespace Go.Proofs.Ytmbnomplckhmeaa
open Go.RowKit Go.Proofs Go.Shelf

def fitsB (kind : Int) (l : List V) : Bool := (kind == 1 || kind == 2) && !l.any (badV kind)
theorem fits24 (kind : Int) (v : Value) (l : List V) (w W : World) (b : Nat) (hs : Sl w v l) (hl : l.length ≤ 1000) (ht : ∀ x ∈ l, x.2.2.size ≤ maxLen) (hw : Below w.heap.size w W) (hb : W.heap[b]? = some (.cells #[.int .i64 kind] 3)) :
    Calls Try.prog 25 #[v, .func (.func 26) #[] #[.pointer (some ⟨b, 0, none⟩)]] W fun e w' => e = .returned (.bool (l.any (badV kind))) ∧ Below W.heap.size W w' := by
  refine containsFunc_any 26 #[.pointer (some ⟨b, 0, none⟩)] (badV kind) (enters_of Try.func26 (by kernel_rfl) rfl) v l W (hs.up hw) hl ?_
  intro W' x hx hW
  have hb' := blk_up hb hW
  have d0 : W'.cell? ⟨b, 0, none⟩ = some (.int .i64 kind) := by simp [World.cell?, hb']
  exact (closure24_any kind x.1 x.2.1 x.2.2 b W' (blk_lt hb') d0 (ht x hx)).mono fun e w' ⟨he, hb⟩ => ⟨he, hW.trans (hb.mono hW.size)⟩

set_option maxHeartbeats 2000000 in
set_option maxRecDepth 100000 in
theorem fits_any (kind : Int) (v : Value) (l : List V) (w : World) (hs : Sl w v l) (hl : l.length ≤ 1000) (ht : ∀ x ∈ l, x.2.2.size ≤ maxLen) :
    Calls Try.prog 15 #[.int .i64 kind, v] w fun e w' => e = .returned (.bool (fitsB kind l)) ∧ Below w.heap.size w w' := by
  have HC := mkHid (fits24 kind v l w (w.alloc (.cells #[.int .i64 kind] 3)) w.heap.size hs hl ht ((Below.refl _ _).alloc (Nat.le_refl _) _) (heap_alloc_new _ _))
  obtain ⟨a, c, rfl, _, _⟩ := hs
  clear ht
  by_cases h1 : kind = 1
  · subst h1
    have HR : Hid (fitsB 1 l = !l.any (badV 1)) := mkHid (by simp [fitsB])
    generalize l.any (badV 1) = q at HC HR
    go_enter Try.func15, Try.ntmps15
    go_wp2_with (go_at_call 25; refine HC.out.mono ?_; rintro e w1 ⟨rfl, hb1⟩)
    go_ret
    exact ⟨ret_bool (by rw [HR.out]), ((Below.refl _ _).alloc (Nat.le_refl _) _).trans (hb1.mono (by simp))⟩
  · by_cases h2 : kind = 2
    · subst h2
      have HR : Hid (fitsB 2 l = !l.any (badV 2)) := mkHid (by simp [fitsB])
      generalize l.any (badV 2) = q at HC HR
      go_enter Try.func15, Try.ntmps15
      go_wp2_with (go_at_call 25; refine HC.out.mono ?_; rintro e w1 ⟨rfl, hb1⟩)
      go_ret
      exact ⟨ret_bool (by rw [HR.out]), ((Below.refl _ _).alloc (Nat.le_refl _) _).trans (hb1.mono (by simp))⟩
    · have HR : Hid (fitsB kind l = false) := mkHid (by simp [fitsB, h1, h2])
      have b1 : (kind != 1) = true := by simpa using h1
      have b2 : (kind != 2) = true := by simpa using h2
      clear HC
      go_enter Try.func15, Try.ntmps15
      go_wp2
      go_ret
      exact ⟨ret_bool HR.out.symm, (Below.refl _ _).alloc (Nat.le_refl _) _⟩

theorem nil22 : ∀ (w : World) (a : Option Addr) (n c n' c' : Nat), (binOp .eql 22 (.slice a n c) (.slice none n' c')).run Try.prog w = .ok (.bool a.isNone) w := fun w a n c n' c' => Lib.run_eql_slice_nil w _ _ a n c n' c' Try.underlying22

theorem cells_flat {w : World} {b off : Nat} {l : List V} (h : ∀ j x, l[j]? = some x → w.cell? ⟨b, off + j * 3, none⟩ = some (.int .i64 x.1) ∧ w.cell? ⟨b, off + j * 3 + 1, none⟩ = some (.int .i64 x.2.1) ∧ w.cell? ⟨b, off + j * 3 + 2, none⟩ = some (.string x.2.2)) :
    ∀ j u, (flatV l)[j]? = some u → w.cell? ⟨b, off + j, none⟩ = some u := by
  intro j u hj
  have hlt : j < l.length * 3 := by
    rcases Nat.lt_or_ge j (l.length * 3) with h' | h'
    · exact h'
    · rw [List.getElem?_eq_none (by rw [flatV_len]; exact h')] at hj; cases hj
  obtain ⟨x, hx⟩ := getEx (l := l) (k := j / 3) (by omega)
  obtain ⟨a0, a1, a2⟩ := flatV_at hx
  obtain ⟨c0, c1, c2⟩ := h _ _ hx
  have hm : j % 3 = 0 ∨ j % 3 = 1 ∨ j % 3 = 2 := by omega
  rcases hm with hm | hm | hm
  · have e : j = j / 3 * 3 := by omega
    rw [e] at hj ⊢
    rw [a0] at hj; rw [c0]; exact hj
  · have e : j = j / 3 * 3 + 1 := by omega
    rw [e] at hj ⊢
    rw [a1] at hj; rw [← Nat.add_assoc, c1]; exact hj
  · have e : j = j / 3 * 3 + 2 := by omega
    rw [e] at hj ⊢
    rw [a2] at hj; rw [← Nat.add_assoc, c2]; exact hj
theorem addr_add2 (b off j : Nat) : (⟨b, off, none⟩ : Addr).add j = ⟨b, off + j, none⟩ := by unfold Addr.add; split <;> simp_all

set_option maxHeartbeats 2000000 in
set_option maxRecDepth 100000 in
theorem clone_any (v : Value) (l : List V) (w : World) (hs : Sl w v l) (hl : l.length ≤ 1000) :
    Calls Try.prog 29 #[v] w fun e w' => ∃ v', e = .returned v' ∧ w'.ownsRow w.heap.size 32 3 v' l.length (flatV l) ∧ Below w.heap.size w w' := by
  obtain ⟨i32, hi32, hz32, hz132, hz232⟩ := info_parts info32
  have HI32 := mkHid (And.intro hi32 (And.intro hz32 (And.intro hz132 hz232)))
  clear hi32 hz32 hz132 hz232
  obtain ⟨a, c, rfl, _, hc⟩ := hs
  have hnil := nil22
  cases a with
  | none =>
    have hl0 : l = [] := Classical.byContradiction fun h => by obtain ⟨b, off, e, _⟩ := hc h; cases e
    subst hl0
    clear hc
    go_enter Try.func29, Try.ntmps29
    go_wp2
    go_ret
    exact ⟨_, rfl, World.ownsRow_nil _ _ _ _, Below.refl _ _⟩
  | some ad =>
    have HNEWS : Hid (∀ j u, (flatV l)[j]? = some u → w.cell? (ad.add j) = some u) := mkHid fun j u hj => by
      by_cases hne : l = []
      · subst hne; simp [flatV] at hj
      · obtain ⟨b, off, e, hb, hcc⟩ := hc hne
        cases e
        rw [addr_add2]
        exact cells_flat hcc j u hj
    clear hc
    go_enter Try.func29, Try.ntmps29
    go_wp2_with (at_builtin; refine wpList_append_own _ rfl _ _ 22 rfl w.heap.size 32 i32 (.agg #[.int .i64 0, .int .i64 0, .string ⟨#[]⟩]) 3 32 Try.underlying22 HI32.out.1 HI32.out.2.1 HI32.out.2.2.1 HI32.out.2.2.2 rfl (by decide) _ _ _ rfl (World.ownsRow_made w #[] 0 (Nat.le_refl _) (Nat.zero_le _) (by simp)) ad l.length c (flatV l) rfl (flatV_len l) ?c1 (flatV_one l) ?c3 ?c4 ?c5 ?_)
    case c1 => exact fun j u hj => Lib.cell?_alloc_some _ (HNEWS.out j u hj)
    case c3 => unfold maxLen; omega
    case c4 => omega
    case c5 => simp
    intro v' w1 hown hgrow hnl
    go_wp2
    go_ret
    refine ⟨v', rfl, by simpa using hown, ?_⟩
    exact ((Below.refl _ w).alloc (Nat.le_refl _) _).grown hgrow (by simp) (by intro k hk; simp [Value.ownBlock] at hk; omega)
end Go.Proofs.Ytmbnomplckhmeaa
