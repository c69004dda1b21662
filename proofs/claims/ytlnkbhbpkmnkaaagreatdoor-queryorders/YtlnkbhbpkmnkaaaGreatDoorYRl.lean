/- What query.wrongItem does at an item that may be asked for, said of every call. -/
import Derived.Test.YtlnkbhbpkmnkaaaGreatDoorYRj
namespace Go.Proofs.YtlnkbhbpkmnkaaaGreatDoor.F
open Go.RowKit Go.Proofs Go.Shelf Go.Joins

theorem encF_len (x : Fn × ByteArray) : (encF x).length = 2 := rfl
def hasFn (L : List (Fn × ByteArray)) : Bool := L.any fun x => decide (x.1 ≠ .no)
set_option maxHeartbeats 4000000 in
set_option maxRecDepth 100000 in
theorem together_by (iv : Value) (ba : Option Addr) (bn bc : Nat) (ov : Value) (lm : Int) (w : World) (hb : 0 < bn) (hi : ∃ a n c, iv = .slice a n c) (ho : ∃ a n c, ov = .slice a n c) :
    Calls Tryz.prog 75 #[.agg #[iv, .pointer none, .slice ba bn bc, ov, .int .i64 lm]] w fun e w' => e = .returned (.bool true) ∧ Below w.heap.size w w' := by
  obtain ⟨ia, im, ic, rfl⟩ := hi
  obtain ⟨oa, om, oc, rfl⟩ := ho
  have h1 : (0 : Int) < (bn : Int) := by omega
  go_enter Tryz.func75, Tryz.ntmps75
  go_wp2_with fail
  go_ret
  exact ⟨rfl, (Below.refl _ _).alloc (Nat.le_refl _) _⟩
theorem hasF_any (w : World) : PredBelow Tryz.prog 113 #[] (fun x : Fn × ByteArray => .agg (encF x).toArray) (fun x => decide (x.1 ≠ .no)) w := fun W x hb => by
  obtain ⟨f, nm⟩ := x
  show Calls Tryz.prog 113 #[.agg #[.string (fnB f), .string nm]] W _
  cases f
  all_goals
    unfold fnB
    go_enter Tryz.func113, Tryz.ntmps113
    go_wp2
    go_ret
    exact ⟨rfl, hb.alloc hb.size _⟩
set_option maxHeartbeats 4000000 in
set_option maxRecDepth 100000 in
theorem together_no (iv : Value) (L : List (Fn × ByteArray)) (ba : Option Addr) (bc : Nat) (ov : Value) (lm : Int) (w : World) (hi : SlE 2 encF w iv L) (h0 : 0 < L.length) (hl : L.length ≤ 1000) (ho : ∃ a n c, ov = .slice a n c) :
    Calls Tryz.prog 75 #[.agg #[iv, .pointer none, .slice ba 0 bc, ov, .int .i64 lm]] w fun e w' => e = .returned (.bool (hasFn L)) ∧ Below w.heap.size w w' := by
  have eg : ∀ args w, (callFunc 113 args).run Tryz.prog w = .ok (.enter 113 args) w := enters_of Tryz.func113 (by kernel_rfl) rfl
  letI : Inhabited (Fn × ByteArray) := ⟨(.no, ⟨#[]⟩)⟩
  obtain ⟨oa, om, oc, rfl⟩ := ho
  obtain ⟨g, o, c, rfl, hc, hb, hcell⟩ := hi.cons h0
  have hq : ∀ (W : World), Below w.heap.size w W → Calls Tryz.prog 112 #[.slice (some ⟨g, o, none⟩) L.length c, .func (.func 113) #[] #[]] W fun e w' => e = .returned (.bool (hasFn L)) ∧ Below W.heap.size W w' := fun W hW => by
    have hcon := AnyQ.slices_ContainsFunc Tryz.layConI 2 Tryz.isAgg120 Tryz.sizeOf120 encF encF_len (fun x => decide (x.1 ≠ .no)) 113 #[] eg g o L.length c L W (hasF_any W) (Nat.le_refl _) (by omega) (Nat.lt_of_lt_of_le hb hW.size) (fun j hj i u hu => by
      rw [getElem!_pos L j hj] at hu
      exact (hW.cell (p := ⟨g, o + j * 2 + i, none⟩) hb).trans (hcell j _ (List.getElem?_eq_getElem hj) i u hu))
    rw [List.take_length] at hcon
    exact hcon
  have HQ := mkH hq
  clear hq hcell hc hi
  have hmf : ∀ (fn : Go.Fn) (first cap : Array Value) (w : World), (Instr.makeFunc fn first cap).run Tryz.prog w = .ok (.func fn first cap) w := fun _ _ _ _ => rfl
  go_enter Tryz.func75, Tryz.ntmps75
  go_wp2_with fail
  with_reducible refine (HQ.out _ ((Below.refl _ _).alloc (Nat.le_refl _) _)).mono ?_
  rintro e w1 ⟨rfl, hb1⟩
  go_wp2
  go_ret
  exact ⟨rfl, ups ((Below.refl _ _).alloc (Nat.le_refl _) _) hb1⟩
set_option maxHeartbeats 4000000 in
set_option maxRecDepth 100000 in
/-- Rows that are together by columns. -/
theorem parts_by (lv rv iv nv ov : Value) (cols : List Col) (rows : List (List V)) (names : List ByteArray) (ks : List Nat) (lm : Int) (w : World) (hc : SlE 7 C.encC w lv cols) (h1 : 0 < cols.length) (h8 : cols.length ≤ 8) (hr : SlR w rv rows) (hl : rows.length ≤ 1000) (hn : SlE 1 encN w nv names) (hn0 : 0 < names.length) (hk : ks.length = names.length) (hf : ∀ (j : Nat) nm (k : Nat), names[j]? = some nm → ks[j]? = some k → C.findC cols nm = (k : Int)) (hnl : names.length ≤ 1000) (hks : ∀ k ∈ ks, k ≤ 1000000)
    (hi : ∃ a n c, iv = .slice a n c) (ho : ∃ a n c, ov = .slice a n c) :
    Calls Tryz.prog 41 #[lv, rv, .agg #[iv, .pointer none, nv, ov, .int .i64 lm]] w fun e w' => ∃ v, e = .returned v ∧ SlP w' v (cutA (stC (ks.map fun k => (k, false))) [] (Stb.ss (ltB (ks.map fun k => (k, false))) rows)) ∧ Below w.heap.size w w' := by
  have HB := mkH (fun W (hb : Below w.heap.size w W) => by_any lv nv cols names ks W (hc.up hb) h1 h8 (hn.up hb) hk hf hnl)
  have HA := mkH (fun gb W (hb : Below w.heap.size w W) (hs : StAt W gb (ks.map fun k => (k, false))) => alike_any rv rows gb (ks.map fun k => (k, false)) W (hr.up hb) hl hs (fun x hx => by obtain ⟨k, hk', rfl⟩ := List.mem_map.1 hx; exact hks k hk') (by rw [List.length_map]; omega))
  obtain ⟨ia, im, ic, rfl⟩ := hi
  obtain ⟨oa, om, oc, rfl⟩ := ho
  obtain ⟨ca, cc, rfl, _⟩ := hc.slice
  obtain ⟨ra, rc, rfl, _⟩ := hr.slice
  obtain ⟨na, nc, rfl, _⟩ := hn.slice
  have hn0' : (0 : Int) < (names.length : Int) := by omega
  clear hc hr hn hf hk hks
  go_enter Tryz.func41, Tryz.ntmps41
  go_wp2_with fail
  with_reducible refine (HB.out _ ((Below.refl _ _).alloc (Nat.le_refl _) _)).mono ?_
  rintro e w1 ⟨ov', rfl, ho', hb1'⟩
  have hb1 := ups ((Below.refl _ _).alloc (Nat.le_refl _) _) hb1'
  have HS := mkH (standing_any ov' (ks.map fun k => (k, false)) w1 ho')
  obtain ⟨oa', oc', rfl, _⟩ := ho'
  rw [List.length_map] at HS
  have HB1 := mkH hb1
  clear hb1 hb1' HB
  go_wp2_with fail
  refine HS.out.mono ?_
  rintro e w2 ⟨gb, rfl, _, hs2, hb2⟩
  have HA2 := mkH (HA.out gb w2 (ups HB1.out hb2) hs2)
  have HB2 := mkH (ups HB1.out hb2)
  unfold stF at HA2 ⊢
  clear hs2 hb2 HA HS HB1
  go_wp2_with fail
  refine HA2.out.mono ?_
  rintro e w3 ⟨v, rfl, hp3, hb3⟩
  obtain ⟨va, vc, rfl, _⟩ := hp3.slice
  have HP3 := mkH hp3
  have HB3 := mkH (ups HB2.out hb3)
  clear hp3 hb3 HA2 HB2
  go_wp2
  go_ret
  exact ⟨_, rfl, HP3.out, HB3.out⟩
set_option maxHeartbeats 4000000 in
set_option maxRecDepth 100000 in
/-- All rows together. -/
theorem parts_whole (lv rv iv ov : Value) (L : List (Fn × ByteArray)) (rows : List (List V)) (ba : Option Addr) (bc : Nat) (lm : Int) (w : World) (hlv : ∃ a n c, lv = .slice a n c) (hr : SlR w rv rows) (hi : SlE 2 encF w iv L) (h0 : 0 < L.length) (hl : L.length ≤ 1000) (hf : hasFn L = true) (ho : ∃ a n c, ov = .slice a n c) :
    Calls Tryz.prog 41 #[lv, rv, .agg #[iv, .pointer none, .slice ba 0 bc, ov, .int .i64 lm]] w fun e w' => ∃ v, e = .returned v ∧ SlP w' v [rows] ∧ Below w.heap.size w w' := by
  have HT := mkH (fun W (hb : Below w.heap.size w W) => together_no iv L ba bc ov lm W (hi.up hb) h0 hl ho)
  rw [hf] at HT
  have HR := mkH hr
  obtain ⟨oa, om, oc, rfl⟩ := ho
  obtain ⟨ca, cn, cc, rfl⟩ := hlv
  obtain ⟨ra, rc, rfl, _⟩ := hr.slice
  obtain ⟨ia, ic, rfl, _⟩ := hi.slice
  clear hr hi hf
  go_enter Tryz.func41, Tryz.ntmps41
  go_wp2_with fail
  with_reducible refine (HT.out _ ((Below.refl _ _).alloc (Nat.le_refl _) _)).mono ?_
  rintro e w1 ⟨rfl, hb1'⟩
  have HB1 := mkH (ups ((Below.refl _ _).alloc (Nat.le_refl _) _) hb1')
  clear hb1' HT
  go_wp2
  go_ret
  have hA : Below w1.heap.size w1 (w1.alloc (.cells #[.slice ra rows.length rc] 23)) := (Below.refl _ _).alloc (Nat.le_refl _) _
  have hk := heap_alloc_new w1 (.cells #[.slice ra rows.length rc] 23)
  refine ⟨_, rfl, ⟨[.slice ra rows.length rc], ⟨_, 1, rfl, Nat.le_refl _, fun _ => ⟨w1.heap.size, 0, rfl, E.blk_lt hk, fun j x hj i u hu => ?_⟩⟩, rfl, fun j x g hx hg => ?_⟩, ups HB1.out hA⟩
  · cases j with
    | succ j => simp at hj
    | zero =>
      simp at hj
      subst hj
      cases i with
      | succ i => simp [encR] at hu
      | zero =>
        simp [encR] at hu
        subst hu
        exact cell_of_block hk 0
  · cases j with
    | succ j => simp at hx
    | zero =>
      simp at hx hg
      subst hx hg
      exact (HR.out.up HB1.out).up hA
set_option maxHeartbeats 4000000 in
set_option maxRecDepth 100000 in
theorem atMost_any (a : Option Addr) (n c : Nat) (lm : Int) (w : World) (hc : n ≤ c) (h0 : 0 ≤ lm) (hm : lm ≤ 1000000) :
    Calls Tryz.prog 45 #[.slice a n c, .int .i64 lm] w fun e w' => e = .returned (.slice a (if lm = 0 ∨ (n : Int) ≤ lm then n else lm.toNat) c) ∧ w' = w := by
  by_cases h : lm = 0
  · subst h
    rw [if_pos (.inl rfl)]
    go_enter Tryz.func45, Tryz.ntmps45
    go_wp2
    go_ret
    exact ⟨rfl, rfl⟩
  · have h1 : ¬ lm ≤ 0 := by omega
    by_cases h2 : (n : Int) ≤ lm
    · rw [if_pos (.inr h2)]
      go_enter Tryz.func45, Tryz.ntmps45
      go_wp2
      go_ret
      exact ⟨rfl, rfl⟩
    · rw [if_neg (by omega)]
      have h3 : lm ≤ (c : Int) := by omega
      go_enter Tryz.func45, Tryz.ntmps45
      go_wp2
      go_ret
      exact ⟨rfl, rfl⟩
end Go.Proofs.YtlnkbhbpkmnkaaaGreatDoor.F
namespace Go.Proofs.YtlnkbhbpkmnkaaaGreatDoor.F
open Go.RowKit Go.Proofs Go.Shelf Go.Joins

/-- An item that may be asked of columns. -/
def FineI (cols : List Col) (x : Fn × ByteArray) : Prop := (x.1 = .count ∧ x.2 = ⟨#[42]⟩) ∨ (x.2 ≠ ⟨#[42]⟩ ∧ ∃ (k : Nat) (c : Col), C.findC cols x.2 = (k : Int) ∧ cols[k]? = some c ∧ (x.1 = .sum → c.2.2.1 ≠ 2))
theorem eqI_no (f : Fn) (nm : ByteArray) (h : nm ≠ ⟨#[42]⟩) (w : World) : (Op.equalIn 10000 120 (.agg #[.string (fnB f), .string nm]) (.agg #[.string ⟨#[99, 111, 117, 110, 116]⟩, .string ⟨#[42]⟩])).run Tryz.prog w = .ok false w := by
  have hS : Tryz.prog.underlying 120 = some (.struct (Tryz.prog.fieldsOf 120)) := by kernel_rfl
  rw [show (10000 : Nat) = 9999 + 1 from rfl, run_equalIn_agg w 9999 120 _ _ hS (by kernel_rfl)]
  simp only [Program.fieldsOf, Tryz.underlying120]
  have h2 : (nm.toList == [42]) = false := by
    have : nm.toList ≠ [42] := fun e => h (by
      rw [ByteArray.toList_eq] at e
      exact ByteArray.ext (Array.toList_inj.mp (e.trans rfl)))
    simpa using this
  cases f <;> (unfold fnB; go_simp)
set_option maxHeartbeats 4000000 in
set_option maxRecDepth 100000 in
theorem wrongItem_any (lv : Value) (cols : List Col) (x : Fn × ByteArray) (w : World) (hc : SlE 7 C.encC w lv cols) (h1 : 0 < cols.length) (h8 : cols.length ≤ 8) (hx : FineI cols x) :
    Calls Tryz.prog 76 #[lv, .agg #[.string (fnB x.1), .string x.2], .bool true] w fun e w' => e = .returned .nilIface ∧ Below w.heap.size w w' := by
  obtain ⟨f, nm⟩ := x
  rcases hx with ⟨e1, e2⟩ | ⟨hne, k, c, hk, hkc, hs⟩
  · simp only at e1 e2
    subst e1 e2
    obtain ⟨la, lc, rfl, _⟩ := hc.slice
    unfold fnB
    go_enter Tryz.func76, Tryz.ntmps76
    go_wp2_with fail
    go_ret
    exact ⟨rfl, (Below.refl _ _).alloc (Nat.le_refl _) _⟩
  · simp only at hne hk hs
    obtain ⟨lb, lo, lc, rfl, _, hsc⟩ := slC_of hc h1
    have HF := mkH (fun W (hb : Below w.heap.size w W) => C.find_any lb lo lc cols nm W (hsc.below hb) h8)
    rw [hk] at HF
    have hr := eqI_no f nm hne
    have hkl : k < cols.length := lt_of_some hkc
    obtain ⟨c1, c2, c3, c4, c5, c6, c7⟩ := c
    simp only at hs
    have HC3 : Hid (∀ W, Below w.heap.size w W → W.cell? ⟨lb, lo + k * 7 + 2, none⟩ = some (.int .i64 c3)) := mkH (fun W hb => (hb.cell (p := ⟨lb, lo + k * 7 + 2, none⟩) hsc.1).trans (by
      have := hsc.2 k hkl 2 (.int .i64 c3)
      rw [getElem!_pos cols k hkl] at this
      rw [List.getElem?_eq_getElem hkl] at hkc
      injection hkc with hkc
      rw [hkc] at this
      exact this rfl))
    have k0 : ¬ (k : Int) < 0 := by omega
    have k1 : (k : Int) < (cols.length : Int) := by omega
    have k2 : (0 : Int) ≤ (k : Int) := by omega
    have hb0 : ∀ o, Below w.heap.size w (w.alloc o) := fun o => (Below.refl _ _).alloc (Nat.le_refl _) _
    have HB0 := mkH hb0
    have HI0 := mkH (fun o => heap_alloc_new w o)
    clear hc hsc hkc hkl hne hk hb0
    cases f
    case sum =>
      have hc3 : (c3 == 2) = false := by simpa using hs rfl
      clear hs
      unfold fnB at hr ⊢
      go_enter Tryz.func76, Tryz.ntmps76
      go_wp2_with fail
      with_reducible refine (HF.out _ (HB0.out _)).mono ?_
      rintro e w1 ⟨rfl, hb1⟩
      have hk1 := (hb1.block w.heap.size (by simp)).trans (HI0.out (.cells #[.string (fnB .sum), .string nm] 120))
      unfold fnB at hk1
      have d0 : w1.cell? ⟨w.heap.size, 0, none⟩ = some (.string ⟨#[115, 117, 109]⟩) := cell_of_block hk1 0
      have c3c := HC3.out w1 (ups (HB0.out _) hb1)
      have hlb := block_lt_of_cell c3c
      have hlw := block_lt_of_cell d0
      have HB1 := mkH (ups (HB0.out _) hb1)
      clear hb1 hk1 HF HC3 HI0
      go_wp2
      go_ret
      exact ⟨rfl, HB1.out⟩
    all_goals
      clear hs
      unfold fnB at hr ⊢
      go_enter Tryz.func76, Tryz.ntmps76
      go_wp2_with fail
      with_reducible refine (HF.out _ (HB0.out _)).mono ?_
      rintro e w1 ⟨rfl, hb1⟩
      have hk1 := (hb1.block w.heap.size (by simp)).trans (HI0.out (.cells #[.string _, .string nm] 120))
      unfold fnB at hk1
      have d0 : w1.cell? ⟨w.heap.size, 0, none⟩ = some _ := cell_of_block hk1 0
      have c3c := HC3.out w1 (ups (HB0.out _) hb1)
      have hlb := block_lt_of_cell c3c
      have hlw := block_lt_of_cell d0
      have HB1 := mkH (ups (HB0.out _) hb1)
      clear hb1 hk1 HF HC3 HI0
      go_wp2
      go_ret
      exact ⟨rfl, HB1.out⟩
end Go.Proofs.YtlnkbhbpkmnkaaaGreatDoor.F
