/- What the library's generic functions on slices do at these values: IndexFunc, ContainsFunc, Index, Equal; said of every call. -/
import Derived.Test.YtodemklghajdeaaGreatDoorEW2
import Derived.Shelf.Abstract
import Derived.Laws.StructEq
namespace Go.Proofs.YtodemklghajdeaaGreatDoor.E
open Go.RowKit Go.Proofs

/-- The slice v holds the values l. -/
def Sl (w : World) (v : Value) (l : List V) : Prop :=
  ∃ a c, v = .slice a l.length c ∧ l.length ≤ c ∧ (l ≠ [] → ∃ b off, a = some ⟨b, off, none⟩ ∧ b < w.heap.size ∧
    ∀ j x, l[j]? = some x → w.cell? ⟨b, off + j * 3, none⟩ = some (.int .i64 x.1) ∧ w.cell? ⟨b, off + j * 3 + 1, none⟩ = some (.int .i64 x.2.1) ∧ w.cell? ⟨b, off + j * 3 + 2, none⟩ = some (.string x.2.2))
theorem Sl.up {w W : World} {v : Value} {l : List V} (h : Sl w v l) (hb : Below w.heap.size w W) : Sl W v l := by
  obtain ⟨a, c, e, hcp, hl⟩ := h
  refine ⟨a, c, e, hcp, fun hne => ?_⟩
  obtain ⟨b, off, ea, hlt, hc⟩ := hl hne
  refine ⟨b, off, ea, Nat.lt_of_lt_of_le hlt hb.size, fun j x hj => ?_⟩
  obtain ⟨h0, h1, h2⟩ := hc j x hj
  exact ⟨(hb.cell (p := ⟨b, off + j * 3, none⟩) hlt).trans h0, (hb.cell (p := ⟨b, off + j * 3 + 1, none⟩) hlt).trans h1, (hb.cell (p := ⟨b, off + j * 3 + 2, none⟩) hlt).trans h2⟩
/-- No more than sixty values, each within its bounds. -/
def Few (l : List V) : Prop := l.length ≤ 60 ∧ ∀ x ∈ l, -9223372036854775808 ≤ x.2.1 ∧ x.2.1 ≤ 9223372036854775807 ∧ x.2.2.size ≤ 40
theorem Few.get {l : List V} (h : Few l) {j : Nat} {x : V} (hj : l[j]? = some x) : -9223372036854775808 ≤ x.2.1 ∧ x.2.1 ≤ 9223372036854775807 ∧ x.2.2.size ≤ 40 := h.2 x (List.mem_of_getElem? hj)
theorem valB_len {x : V} (h : -9223372036854775808 ≤ x.2.1 ∧ x.2.1 ≤ 9223372036854775807 ∧ x.2.2.size ≤ 40) : (valB x).length ≤ 50 := by
  unfold valB
  split
  · have := Lib.uvarint_length64 (Lib.zigzag_lt h.1 h.2.1); omega
  · have := Lib.uvarint_length64 (x := x.2.2.size) (by omega)
    have e : x.2.2.data.toList.length = x.2.2.size := by rw [Array.length_toList]; rfl
    rw [List.length_append, e]; omega
theorem take_next {α : Type} {l : List α} {k : Nat} {x : α} (h : l[k]? = some x) : l.take (k + 1) = l.take k ++ [x] := by
  have hk : k < l.length := by
    rcases Nat.lt_or_ge k l.length with h' | h'
    · exact h'
    · rw [List.getElem?_eq_none h'] at h; cases h
  rw [List.take_succ_eq_append_getElem hk]
  rw [List.getElem?_eq_getElem hk] at h
  injection h with h
  rw [h]
theorem orderB_next {l : List V} {k : Nat} {x : V} (h : l[k]? = some x) : orderB (l.take (k + 1)) = orderB (l.take k) ++ valB x := by
  rw [take_next h]; simp [orderB]
theorem orderB_len {l : List V} (h : ∀ x ∈ l, -9223372036854775808 ≤ x.2.1 ∧ x.2.1 ≤ 9223372036854775807 ∧ x.2.2.size ≤ 40) : (orderB l).length ≤ l.length * 50 := by
  induction l with
  | nil => simp [orderB]
  | cons v l ih =>
    have h1 := valB_len (h v (by simp))
    have h2 := ih (fun x hx => h x (by simp [hx]))
    have e : orderB (v :: l) = valB v ++ orderB l := rfl
    rw [e, List.length_append, List.length_cons]; omega
theorem Few.take {l : List V} (h : Few l) (k : Nat) : Few (l.take k) := ⟨by have := h.1; simp; omega, fun x hx => h.2 x (List.mem_of_mem_take hx)⟩
theorem getEx {α : Type} {l : List α} {k : Nat} (h : k < l.length) : ∃ x, l[k]? = some x := ⟨_, List.getElem?_eq_getElem h⟩

set_option maxHeartbeats 8000000 in
set_option maxRecDepth 100000 in
theorem inOrder_any (v : Value) (l : List V) (w : World) (hs : Sl w v l) (hf : Few l) :
    Calls Tryz.prog 145 #[v] w fun e w' => ∃ v', e = .returned v' ∧ w'.ownsRow w.heap.size 5 1 v' (orderB l).length (Lib.byteCells (orderB l)) ∧ Wr w.heap.size w w' := by
  obtain ⟨a, c, rfl, _, hl⟩ := hs
  have HL := mkHid hl
  have HF := mkHid hf
  have h60 := hf.1
  clear hl hf
  go_enter Tryz.func145, Tryz.ntmps145
  go_wp2
  go_loopw [3, 8] (fun vb vi wr => ∃ k : Nat, k ≤ l.length ∧ vi = .int .i64 k ∧ Hid (wr.ownsRow w.heap.size 5 1 vb (orderB (l.take k)).length (Lib.byteCells (orderB (l.take k)))) ∧ Hid (Wr w.heap.size w wr)) (fun _ vi _ => l.length - (intOf vi).toNat)
  case atStart => exact ⟨0, Nat.zero_le _, rfl, World.ownsRow_nil _ _ _ _, Wr.refl _ _⟩
  case round =>
    obtain ⟨k, hk, rfl, ho, hw⟩ := hrel
    by_cases hlt : k < l.length
    · obtain ⟨b, off, rfl, hb, hc⟩ := HL.out (by intro e; rw [e] at hlt; simp at hlt)
      obtain ⟨⟨kx, nx, tx⟩, hx⟩ := getEx hlt
      obtain ⟨g0, g1, g2⟩ := hc k _ hx
      have c0 : wr.cell? ⟨b, off + k * 3, none⟩ = some (.int .i64 kx) := (hw.out.1.cell (p := ⟨b, off + k * 3, none⟩) hb).trans g0
      have c1 : wr.cell? ⟨b, off + k * 3 + 1, none⟩ = some (.int .i64 nx) := (hw.out.1.cell (p := ⟨b, off + k * 3 + 1, none⟩) hb).trans g1
      have c2 : wr.cell? ⟨b, off + k * 3 + 2, none⟩ = some (.string tx) := (hw.out.1.cell (p := ⟨b, off + k * 3 + 2, none⟩) hb).trans g2
      have hr := HF.out.get hx
      have hsz := hw.out.1.size
      have HN := mkHid (orderB_next hx)
      have HC : Hid (∀ o, Calls Tryz.prog 160 #[_, .agg #[.int .i64 kx, .int .i64 nx, .string tx]] (wr.alloc o) fun e w' => ∃ v', e = .returned v' ∧ w'.ownsRow w.heap.size 5 1 v' _ _ ∧ Wr w.heap.size w w') := fun o =>
        (appendValue_any w.heap.size _ kx nx tx hr.1 hr.2.1 (by have := hr.2.2; simp at this; omega) _ _ (wr.alloc o) (ho.out.alloc o) (by simp; omega) (by have h1 := orderB_len (HF.out.take k).2; have h2 := (HF.out.take k).1; omega)).mono fun e w' ⟨v', he, h2, h3⟩ => ⟨v', he, h2, (hw.out.alloc hsz o).trans h3⟩
      clear g0 g1 g2 hc hr
      go_wp2_with (go_at_call 160; refine (HC.out _).mono ?_; rintro e w1 ⟨v1, rfl, ho1, hw1⟩)
      go_roundw
      case rel => exact ⟨k + 1, by omega, by go_num, mkHid (by rw [HN.out, List.length_append, byteCells_app]; exact ho1), mkHid hw1⟩
      case measure => simp [intOf]; omega
    · have e : l.take k = l := List.take_of_length_le (by omega)
      rw [e] at ho
      go_wp2
      go_ret
      exact ⟨_, rfl, ho.out, hw.out⟩

theorem stepsB_next {a : Int} : ∀ {l : List V} {k : Nat} {x : V}, l[k]? = some x → stepsB a (l.take (k + 1)) = stepsB a (l.take k) ++ Lib.uvarint (Lib.zigzag (wr64 (x.2.1 - (if k = 0 then a else (l[k - 1]?.map (·.2.1)).getD 0))))
  | [], k, x, h => by simp at h
  | v :: l, 0, x, h => by simp at h; subst h; simp [stepsB]
  | v :: l, k + 1, x, h => by
    have h' : l[k]? = some x := by simpa using h
    have ih := stepsB_next (a := v.2.1) h'
    simp only [List.take_succ_cons, stepsB, ih, List.append_assoc]
    congr 3
    cases k with
    | zero => simp
    | succ k => simp
theorem wr64_in (x : Int) : -9223372036854775808 ≤ wr64 x ∧ wr64 x ≤ 9223372036854775807 := by unfold wr64; omega
theorem stepsB_len {a : Int} {l : List V} : (stepsB a l).length ≤ l.length * 10 := by
  induction l generalizing a with
  | nil => simp [stepsB]
  | cons v l ih =>
    have h1 := Lib.uvarint_length64 (Lib.zigzag_lt (wr64_in (v.2.1 - a)).1 (wr64_in (v.2.1 - a)).2)
    have h2 := ih (a := v.2.1)
    simp only [stepsB, List.length_append, List.length_cons]; omega
theorem wr_eq (x : Int) : wrap64 x = wr64 x := by unfold wrap64 wr64; rfl
def aheadOf (l : List V) (k : Nat) : Int := if k = 0 then 0 else (l[k - 1]?.map (·.2.1)).getD 0

set_option maxHeartbeats 8000000 in
set_option maxRecDepth 100000 in
theorem inSteps_any (v : Value) (l : List V) (w : World) (hs : Sl w v l) (hf : Few l) :
    Calls Tryz.prog 144 #[v] w fun e w' => ∃ v', e = .returned v' ∧ w'.ownsRow w.heap.size 5 1 v' (stepsB 0 l).length (Lib.byteCells (stepsB 0 l)) ∧ Wr w.heap.size w w' := by
  obtain ⟨a, c, rfl, _, hl⟩ := hs
  have HL := mkHid hl
  have HF := mkHid hf
  have h60 := hf.1
  clear hl hf
  go_enter Tryz.func144, Tryz.ntmps144
  go_wp2
  go_loopw [3, 4, 9] (fun vb va vi wr => ∃ k : Nat, k ≤ l.length ∧ vi = .int .i64 k ∧ va = .int .i64 (aheadOf l k) ∧ Hid (wr.ownsRow w.heap.size 5 1 vb (stepsB 0 (l.take k)).length (Lib.byteCells (stepsB 0 (l.take k)))) ∧ Hid (Wr w.heap.size w wr)) (fun _ _ vi _ => l.length - (intOf vi).toNat)
  case atStart => exact ⟨0, Nat.zero_le _, rfl, rfl, World.ownsRow_nil _ _ _ _, Wr.refl _ _⟩
  case round =>
    obtain ⟨k, hk, rfl, rfl, ho, hw⟩ := hrel
    by_cases hlt : k < l.length
    · obtain ⟨b, off, rfl, hb, hc⟩ := HL.out (by intro e; rw [e] at hlt; simp at hlt)
      obtain ⟨⟨kx, nx, tx⟩, hx⟩ := getEx hlt
      obtain ⟨g0, g1, g2⟩ := hc k _ hx
      have c0 : wr.cell? ⟨b, off + k * 3, none⟩ = some (.int .i64 kx) := (hw.out.1.cell (p := ⟨b, off + k * 3, none⟩) hb).trans g0
      have c1 : wr.cell? ⟨b, off + k * 3 + 1, none⟩ = some (.int .i64 nx) := (hw.out.1.cell (p := ⟨b, off + k * 3 + 1, none⟩) hb).trans g1
      have c2 : wr.cell? ⟨b, off + k * 3 + 2, none⟩ = some (.string tx) := (hw.out.1.cell (p := ⟨b, off + k * 3 + 2, none⟩) hb).trans g2
      have hsz := hw.out.1.size
      have HN : Hid (stepsB 0 (l.take (k + 1)) = stepsB 0 (l.take k) ++ Lib.uvarint (Lib.zigzag (wr64 (nx - aheadOf l k)))) := stepsB_next hx
      have HA : Hid (aheadOf l (k + 1) = nx) := by
        show aheadOf l (k + 1) = nx
        unfold aheadOf; rw [if_neg (by omega), Nat.add_sub_cancel, hx]; rfl
      generalize aheadOf l k = ah at HN
      have HC : Hid (Calls Tryz.prog 162 #[_, .int .i64 (wrap64 (nx - ah))] (wr.alloc (.cells #[.int .i64 kx, .int .i64 nx, .string tx] 45)) fun e w' => ∃ v', e = .returned v' ∧ w'.ownsRow w.heap.size 5 1 v' _ _ ∧ Wr w.heap.size w w' ∧ w'.cell? ⟨wr.heap.size, 1, none⟩ = some (.int .i64 nx)) :=
        (appendSigned_any w.heap.size _ (wrap64 (nx - ah)) (wr_eq (nx - ah) ▸ (wr64_in (nx - ah)).1) (wr_eq (nx - ah) ▸ (wr64_in (nx - ah)).2) _ _ (wr.alloc (.cells #[.int .i64 kx, .int .i64 nx, .string tx] 45)) (ho.out.alloc _) (by simp; omega) (by have h1 := stepsB_len (a := 0) (l := l.take k); have h2 := (HF.out.take k).1; omega)).mono fun e w' ⟨v', he, h2, h3⟩ => ⟨v', he, h2, (hw.out.alloc hsz _).trans h3, by have := cell_of_wr h3 (heap_alloc_new _ _) (by decide); simp [World.cell?, this]⟩
      clear g0 g1 g2 hc
      go_wp2_with (go_at_call 162; refine HC.out.mono ?_; rintro e w1 ⟨v1, rfl, ho1, hw1, hbx⟩)
      go_roundw
      case rel => exact ⟨k + 1, by omega, by go_num, by rw [HA.out], mkHid (by rw [HN.out, List.length_append, byteCells_app, ← wr_eq]; exact ho1), mkHid hw1⟩
      case measure => simp [intOf]; omega
    · have e : l.take k = l := List.take_of_length_le (by omega)
      rw [e] at ho
      go_wp2
      go_ret
      exact ⟨_, rfl, ho.out, hw.out⟩
end Go.Proofs.YtodemklghajdeaaGreatDoor.E

namespace Go.Proofs.YtodemklghajdeaaGreatDoor.E
open Go.RowKit Go.Proofs Go.Shelf

abbrev aggV (x : V) : Value := .agg #[.int .i64 x.1, .int .i64 x.2.1, .string x.2.2]
def findI (p : V → Bool) : List V → Nat
  | [] => 0
  | x :: l => if p x then 0 else findI p l + 1
def idxI (p : V → Bool) (l : List V) : Int := if findI p l < l.length then (findI p l : Int) else -1
theorem drop_at {α : Type} {l : List α} {k : Nat} {x : α} (h : l[k]? = some x) : l.drop k = x :: l.drop (k + 1) := by
  have hk : k < l.length := by
    rcases Nat.lt_or_ge k l.length with h' | h'
    · exact h'
    · rw [List.getElem?_eq_none h'] at h; cases h
  rw [List.drop_eq_getElem_cons hk]
  rw [List.getElem?_eq_getElem hk] at h
  injection h with h
  rw [h]
/-- What is asked of a predicate at the values of l. -/
def Pr (g : Nat) (lb : Array Value) (p : V → Bool) (l : List V) (w : World) : Prop :=
  ∀ (W : World) (x : V), x ∈ l → Below w.heap.size w W → Calls Tryz.prog g (#[aggV x] ++ lb) W fun e w' => e = .returned (.bool (p x)) ∧ Below w.heap.size w w'

set_option maxHeartbeats 8000000 in
set_option maxRecDepth 100000 in
theorem indexFunc_any (g : Nat) (lb : Array Value) (p : V → Bool) (eg : ∀ args w, (callFunc g args).run Tryz.prog w = .ok (.enter g args) w) (v : Value) (l : List V) (w : World) (hs : Sl w v l) (h60 : l.length ≤ 1000) (hp : Pr g lb p l w) :
    Calls Tryz.prog 141 #[v, .func (.func g) #[] lb] w fun e w' => e = .returned (.int .i64 (idxI p l)) ∧ Below w.heap.size w w' := by
  obtain ⟨a, c, rfl, _, hl⟩ := hs
  have HL := mkHid hl
  have HP := mkHid hp
  clear hl hp
  go_enter Tryz.func141, Tryz.ntmps141
  go_wp2
  go_loopw [8] (fun vi wr => ∃ k : Nat, k ≤ l.length ∧ vi = .int .i64 k ∧ Hid (findI p l = k + findI p (l.drop k)) ∧ Hid (Below w.heap.size w wr)) (fun vi _ => l.length - (intOf vi).toNat)
  case atStart => exact ⟨0, Nat.zero_le _, rfl, mkHid (by simp), Below.refl _ _⟩
  case round =>
    obtain ⟨k, hk, rfl, hi, hw⟩ := hrel
    by_cases hlt : k < l.length
    · obtain ⟨b, off, rfl, hb, hc⟩ := HL.out (by intro e; rw [e] at hlt; simp at hlt)
      obtain ⟨⟨kx, nx, tx⟩, hx⟩ := getEx hlt
      obtain ⟨g0, g1, g2⟩ := hc k _ hx
      have c0 : wr.cell? ⟨b, off + k * 3, none⟩ = some (.int .i64 kx) := (hw.out.cell (p := ⟨b, off + k * 3, none⟩) hb).trans g0
      have c1 : wr.cell? ⟨b, off + k * 3 + 1, none⟩ = some (.int .i64 nx) := (hw.out.cell (p := ⟨b, off + k * 3 + 1, none⟩) hb).trans g1
      have c2 : wr.cell? ⟨b, off + k * 3 + 2, none⟩ = some (.string tx) := (hw.out.cell (p := ⟨b, off + k * 3 + 2, none⟩) hb).trans g2
      have hcall := HP.out wr (kx, nx, tx) (List.mem_of_getElem? hx) hw.out
      have HD := mkHid (drop_at hx)
      clear g0 g1 g2 hc
      cases hq : p (kx, nx, tx) with
      | true =>
        rw [hq] at hcall
        have HR : Hid ((k : Int) = idxI p l) := by
          have : findI p l = k := by rw [hi.out, HD.out]; simp [findI, hq]
          show (k : Int) = idxI p l
          unfold idxI; rw [this, if_pos hlt]
        go_wp2_with (go_at_fn g; refine hcall.mono ?_; rintro e w' ⟨rfl, hb'⟩)
        go_ret
        exact ⟨ret_int HR.out, hb'⟩
      | false =>
        rw [hq] at hcall
        have HR : Hid (findI p l = k + 1 + findI p (l.drop (k + 1))) := by
          show findI p l = k + 1 + findI p (l.drop (k + 1))
          rw [hi.out, HD.out]; simp [findI, hq]; omega
        go_wp2_with (go_at_fn g; refine hcall.mono ?_; rintro e w' ⟨rfl, hb'⟩)
        go_roundw
        case rel => exact ⟨k + 1, by omega, by go_num, HR, mkHid hb'⟩
        case measure => simp [intOf]; omega
    · have HR : Hid (-1 = idxI p l) := by
        have : findI p l = l.length := by rw [hi.out, List.drop_eq_nil_of_le (by omega)]; simp [findI]; omega
        show -1 = idxI p l
        unfold idxI; rw [if_neg (by omega)]
      go_wp2
      go_ret
      exact ⟨ret_int HR.out, hw.out⟩

theorem any_findI (p : V → Bool) : ∀ l, l.any p = decide (findI p l < l.length)
  | [] => by simp [findI]
  | x :: l => by
    by_cases h : p x = true
    · simp [findI, h]
    · simp [findI, h, any_findI p l]
theorem idx_any (p : V → Bool) (l : List V) : decide (0 ≤ idxI p l) = l.any p := by
  rw [any_findI]; unfold idxI
  by_cases h : findI p l < l.length
  · rw [if_pos h]; simp [h]
  · rw [if_neg h]; simp [h]

set_option maxHeartbeats 8000000 in
set_option maxRecDepth 100000 in
theorem containsFunc_any (g : Nat) (lb : Array Value) (p : V → Bool) (eg : ∀ args w, (callFunc g args).run Tryz.prog w = .ok (.enter g args) w) (v : Value) (l : List V) (w : World) (hs : Sl w v l) (h60 : l.length ≤ 1000) (hp : Pr g lb p l w) :
    Calls Tryz.prog 122 #[v, .func (.func g) #[] lb] w fun e w' => e = .returned (.bool (l.any p)) ∧ Below w.heap.size w w' := by
  have HC := mkHid (indexFunc_any g lb p eg v l w hs h60 hp)
  have HR := mkHid (idx_any p l)
  clear hs hp
  go_enter Tryz.func122, Tryz.ntmps122
  go_wp2_with (go_at_call 141; refine HC.out.mono ?_; rintro e w' ⟨rfl, hb'⟩)
  go_ret
  exact ⟨ret_bool HR.out, hb'⟩

theorem eqV_run (x y : V) (w : World) : (Op.equalIn 10000 45 (aggV x) (aggV y)).run Tryz.prog w = .ok (decide (x = y)) w := by
  have hS : Tryz.prog.underlying 45 = some (.struct (Tryz.prog.fieldsOf 45)) := by kernel_rfl
  rw [show (10000 : Nat) = 9999 + 1 from rfl, run_equalIn_agg w 9999 45 _ _ hS (by kernel_rfl)]
  simp only [Program.fieldsOf, Tryz.underlying45]
  go_simp
  obtain ⟨ka, na, ta⟩ := x
  obtain ⟨kb, nb, tb⟩ := y
  have e : (ta.toList = tb.toList) ↔ ta = tb := ⟨fun h => by simp [ByteArray.toList_eq] at h; exact ByteArray.ext h, fun h => by rw [h]⟩
  by_cases h1 : ka = kb <;> by_cases h2 : na = nb <;> by_cases h3 : ta.toList = tb.toList <;> simp [h1, h2, h3, Prod.ext_iff, e.symm]

end Go.Proofs.YtodemklghajdeaaGreatDoor.E
