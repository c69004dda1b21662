/- What the library's generic functions on slices do at these values: IndexFunc, ContainsFunc, Index, Equal; said of every call. -/
import Derived.Test.YtmbnomplckhmeaaW3
import Derived.Shelf.Abstract
import Derived.Laws.StructEq
namespace Go.Proofs.Ytmbnomplckhmeaa
open Go.RowKit Go.Proofs Go.Shelf

abbrev aggV (x : V) : Value := .agg #[.int .i64 x.1, .int .i64 x.2.1, .string x.2.2]
def findI (p : V → Bool) : List V → Nat
  | [] => 0
  | x :: l => if p x then 0 else findI p l + 1
def idxI (p : V → Bool) (l : List V) : Int := if findI p l < l.length then (findI p l : Int) else -1
theorem drop_at {α : Type} {l : List α} {k : Nat} {x : α} (h : l[k]? = some x) : l.drop k = x :: l.drop (k + 1) := by
  have hk : k < l.length := by
    rcases Nat.lt_or_ge k l.length with h' | h'
    · exact h'
    · rw [List.getElem?_eq_none h'] at h; cases h
  rw [List.drop_eq_getElem_cons hk]
  rw [List.getElem?_eq_getElem hk] at h
  injection h with h
  rw [h]
/-- What is asked of a predicate at the values of l. -/
def Pr (g : Nat) (lb : Array Value) (p : V → Bool) (l : List V) (w : World) : Prop :=
  ∀ (W : World) (x : V), x ∈ l → Below w.heap.size w W → Calls Try.prog g (#[aggV x] ++ lb) W fun e w' => e = .returned (.bool (p x)) ∧ Below w.heap.size w w'

set_option maxHeartbeats 8000000 in
set_option maxRecDepth 100000 in
theorem indexFunc_any (g : Nat) (lb : Array Value) (p : V → Bool) (eg : ∀ args w, (callFunc g args).run Try.prog w = .ok (.enter g args) w) (v : Value) (l : List V) (w : World) (hs : Sl w v l) (h60 : l.length ≤ 1000) (hp : Pr g lb p l w) :
    Calls Try.prog 39 #[v, .func (.func g) #[] lb] w fun e w' => e = .returned (.int .i64 (idxI p l)) ∧ Below w.heap.size w w' := by
  obtain ⟨a, c, rfl, _, hl⟩ := hs
  have HL := mkHid hl
  have HP := mkHid hp
  clear hl hp
  go_enter Try.func39, Try.ntmps39
  go_wp2
  go_loopw [8] (fun vi wr => ∃ k : Nat, k ≤ l.length ∧ vi = .int .i64 k ∧ Hid (findI p l = k + findI p (l.drop k)) ∧ Hid (Below w.heap.size w wr)) (fun vi _ => l.length - (intOf vi).toNat)
  case atStart => exact ⟨0, Nat.zero_le _, rfl, mkHid (by simp), Below.refl _ _⟩
  case round =>
    obtain ⟨k, hk, rfl, hi, hw⟩ := hrel
    by_cases hlt : k < l.length
    · obtain ⟨b, off, rfl, hb, hc⟩ := HL.out (by intro e; rw [e] at hlt; simp at hlt)
      obtain ⟨⟨kx, nx, tx⟩, hx⟩ := getEx hlt
      obtain ⟨g0, g1, g2⟩ := hc k _ hx
      have c0 : wr.cell? ⟨b, off + k * 3, none⟩ = some (.int .i64 kx) := (hw.out.cell (p := ⟨b, off + k * 3, none⟩) hb).trans g0
      have c1 : wr.cell? ⟨b, off + k * 3 + 1, none⟩ = some (.int .i64 nx) := (hw.out.cell (p := ⟨b, off + k * 3 + 1, none⟩) hb).trans g1
      have c2 : wr.cell? ⟨b, off + k * 3 + 2, none⟩ = some (.string tx) := (hw.out.cell (p := ⟨b, off + k * 3 + 2, none⟩) hb).trans g2
      have hcall := HP.out wr (kx, nx, tx) (List.mem_of_getElem? hx) hw.out
      have HD := mkHid (drop_at hx)
      clear g0 g1 g2 hc
      cases hq : p (kx, nx, tx) with
      | true =>
        rw [hq] at hcall
        have HR : Hid ((k : Int) = idxI p l) := by
          have : findI p l = k := by rw [hi.out, HD.out]; simp [findI, hq]
          show (k : Int) = idxI p l
          unfold idxI; rw [this, if_pos hlt]
        go_wp2_with (go_at_fn g; refine hcall.mono ?_; rintro e w' ⟨rfl, hb'⟩)
        go_ret
        exact ⟨ret_int HR.out, hb'⟩
      | false =>
        rw [hq] at hcall
        have HR : Hid (findI p l = k + 1 + findI p (l.drop (k + 1))) := by
          show findI p l = k + 1 + findI p (l.drop (k + 1))
          rw [hi.out, HD.out]; simp [findI, hq]; omega
        go_wp2_with (go_at_fn g; refine hcall.mono ?_; rintro e w' ⟨rfl, hb'⟩)
        go_roundw
        case rel => exact ⟨k + 1, by omega, by go_num, HR, mkHid hb'⟩
        case measure => simp [intOf]; omega
    · have HR : Hid (-1 = idxI p l) := by
        have : findI p l = l.length := by rw [hi.out, List.drop_eq_nil_of_le (by omega)]; simp [findI]; omega
        show -1 = idxI p l
        unfold idxI; rw [if_neg (by omega)]
      go_wp2
      go_ret
      exact ⟨ret_int HR.out, hw.out⟩

theorem any_findI (p : V → Bool) : ∀ l, l.any p = decide (findI p l < l.length)
  | [] => by simp [findI]
  | x :: l => by
    by_cases h : p x = true
    · simp [findI, h]
    · simp [findI, h, any_findI p l]
theorem idx_any (p : V → Bool) (l : List V) : decide (0 ≤ idxI p l) = l.any p := by
  rw [any_findI]; unfold idxI
  by_cases h : findI p l < l.length
  · rw [if_pos h]; simp [h]
  · rw [if_neg h]; simp [h]

set_option maxHeartbeats 8000000 in
set_option maxRecDepth 100000 in
theorem containsFunc_any (g : Nat) (lb : Array Value) (p : V → Bool) (eg : ∀ args w, (callFunc g args).run Try.prog w = .ok (.enter g args) w) (v : Value) (l : List V) (w : World) (hs : Sl w v l) (h60 : l.length ≤ 1000) (hp : Pr g lb p l w) :
    Calls Try.prog 25 #[v, .func (.func g) #[] lb] w fun e w' => e = .returned (.bool (l.any p)) ∧ Below w.heap.size w w' := by
  have HC := mkHid (indexFunc_any g lb p eg v l w hs h60 hp)
  have HR := mkHid (idx_any p l)
  clear hs hp
  go_enter Try.func25, Try.ntmps25
  go_wp2_with (go_at_call 39; refine HC.out.mono ?_; rintro e w' ⟨rfl, hb'⟩)
  go_ret
  exact ⟨ret_bool HR.out, hb'⟩

theorem eqV_run (x y : V) (w : World) : (Op.equalIn 10000 32 (aggV x) (aggV y)).run Try.prog w = .ok (decide (x = y)) w := by
  have hS : Try.prog.underlying 32 = some (.struct (Try.prog.fieldsOf 32)) := by kernel_rfl
  rw [show (10000 : Nat) = 9999 + 1 from rfl, run_equalIn_agg w 9999 32 _ _ hS (by kernel_rfl)]
  simp only [Program.fieldsOf, Try.underlying32]
  go_simp
  obtain ⟨ka, na, ta⟩ := x
  obtain ⟨kb, nb, tb⟩ := y
  have e : (ta.toList = tb.toList) ↔ ta = tb := ⟨fun h => by simp [ByteArray.toList_eq] at h; exact ByteArray.ext h, fun h => by rw [h]⟩
  by_cases h1 : ka = kb <;> by_cases h2 : na = nb <;> by_cases h3 : ta.toList = tb.toList <;> simp [h1, h2, h3, Prod.ext_iff, e.symm]

end Go.Proofs.Ytmbnomplckhmeaa
