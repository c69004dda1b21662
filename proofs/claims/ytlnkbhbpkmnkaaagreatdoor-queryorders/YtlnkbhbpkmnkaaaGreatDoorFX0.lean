/- A call of a Go function as one step of a region that draws its order. -/
import Derived.Test.YtlnkbhbpkmnkaaaGreatDoorYRl
import Derived.Test.YtlnkbhbpkmnkaaaGreatDoorYTg
import Derived.Test.YtlnkbhbpkmnkaaaGreatDoorYRd
import Derived.Test.YtlnkbhbpkmnkaaaGreatDoorFW5
namespace Go.Proofs.YtlnkbhbpkmnkaaaGreatDoor.F
open Go.RowKit Go.Proofs Go.Shelf Go.Joins

theorem contains_any (nv : Value) (names : List ByteArray) (nm : ByteArray) (w : World) (hn : SlE 1 encN w nv names) (hm : nm ∈ names) (hl : names.length ≤ 1000) :
    Calls Tryz.prog 23 #[nv, .string nm] w fun e w' => e = .returned (.bool true) ∧ w' = w := by
  obtain ⟨g, o, c, rfl, hc, hb, hcell⟩ := hn.cons (List.length_pos_of_mem hm)
  have h := AnyE.slices_Contains Tryz.layHasS Value.string (fun x y => x.toList == y.toList) (EqlAt.string _ _) g o names.length c names nm w (Nat.le_refl _) (by omega) (fun j hj => by
    have := hcell j _ (List.getElem?_eq_getElem hj) 0 _ rfl
    rw [getElem!_pos names j hj]
    rwa [Nat.mul_one, Nat.add_zero] at this)
  rw [List.take_length, show (names.any fun y => nm.toList == y.toList) = true from List.any_eq_true.2 ⟨nm, hm, by simp⟩] at h
  exact h
/-- What may be asked of columns. -/
structure FineQ (cols : List Col) (L : List (Fn × ByteArray)) (names : List ByteArray) (sv : Bool) : Prop where
  nms : ∀ nm ∈ names, ∃ k : Nat, C.findC cols nm = (k : Int)
  its : ∀ x ∈ L, FineI cols x ∧ (x.1 ≠ .no ∨ sv = false ∨ x.2 ∈ names)
set_option maxHeartbeats 8000000 in
set_option maxRecDepth 100000 in
theorem wrong_any (lv iv nv ov : Value) (cols : List Col) (L : List (Fn × ByteArray)) (names : List ByteArray) (sv : Bool) (lm : Int) (w : World) (hc : SlE 7 C.encC w lv cols) (h1 : 0 < cols.length) (h8 : cols.length ≤ 8) (hi : SlE 2 encF w iv L) (hn : SlE 1 encN w nv names) (hl : L.length ≤ 1000) (hnl : names.length ≤ 1000) (ho : ∃ a n c, ov = .slice a n c) (hf : FineQ cols L names sv)
    (ht : ∀ W, Below w.heap.size w W → Calls Tryz.prog 75 #[.agg #[iv, .pointer none, nv, ov, .int .i64 lm]] W fun e w' => e = .returned (.bool sv) ∧ Below W.heap.size W w') :
    Calls Tryz.prog 39 #[lv, .agg #[iv, .pointer none, nv, ov, .int .i64 lm]] w fun e w' => e = .returned .nilIface ∧ Below w.heap.size w w' := by
  have HT := mkH ht
  have HF := mkH hf
  have HC := mkH hc
  have HI := mkH hi
  have HN := mkH hn
  have HWI := mkH (fun x (hx : FineI cols x) W (hb : Below w.heap.size w W) => wrongItem_any lv cols x W (hc.up hb) h1 h8 hx)
  have HCN := mkH (fun nm (hm : nm ∈ names) W (hb : Below w.heap.size w W) => contains_any nv names nm W (hn.up hb) hm hnl)
  obtain ⟨lb, lo, lc, rfl, _, hsc⟩ := slC_of hc h1
  have HFD := mkH (fun nm W (hb : Below w.heap.size w W) => C.find_any lb lo lc cols nm W (hsc.below hb) h8)
  obtain ⟨ia, ic, rfl, _⟩ := hi.slice
  obtain ⟨na, nc, rfl, _⟩ := hn.slice
  obtain ⟨oa, om, oc, rfl⟩ := ho
  clear hc hi hn hf ht hsc
  go_enter Tryz.func39, Tryz.ntmps39
  go_wp2_with fail
  have hkq := heap_alloc_new w (.cells #[.slice ia L.length ic, .pointer none, .slice na names.length nc, .slice oa om oc, .int .i64 lm] 49)
  have HKQ : Hid (∀ W, Below w.heap.size w W → W.heap[w.heap.size]? = some (.cells #[.slice ia L.length ic, .pointer none, .slice na names.length nc, .slice oa om oc, .int .i64 lm] 49) → W.cell? ⟨w.heap.size, 0, none⟩ = some (.slice ia L.length ic) ∧ W.cell? ⟨w.heap.size, 1, none⟩ = some (.pointer none) ∧ W.cell? ⟨w.heap.size, 2, none⟩ = some (.slice na names.length nc) ∧ W.cell? ⟨w.heap.size, 3, none⟩ = some (.slice oa om oc) ∧ W.cell? ⟨w.heap.size, 4, none⟩ = some (.int .i64 lm)) := mkH (fun W _ h => ⟨cell_of_block h 0, cell_of_block h 1, cell_of_block h 2, cell_of_block h 3, cell_of_block h 4⟩)
  have HB0 : Hid (Below w.heap.size w (w.alloc (.cells #[.slice ia L.length ic, .pointer none, .slice na names.length nc, .slice oa om oc, .int .i64 lm] 49))) := mkH ((Below.refl _ _).alloc (Nat.le_refl _) _)
  have HQ0 := mkH hkq
  clear hkq
  generalize w.alloc (.cells #[.slice ia L.length ic, .pointer none, .slice na names.length nc, .slice oa om oc, .int .i64 lm] 49) = w0 at *
  go_loopw [15] (fun vi wr => ∃ k : Nat, k ≤ names.length ∧ vi = .int .i64 k ∧ Hid (Below w0.heap.size w0 wr)) (fun vi _ => names.length - (intOf vi).toNat)
  case atStart => exact ⟨0, Nat.zero_le _, rfl, mkH (Below.refl _ _)⟩
  case round =>
    obtain ⟨k, hk, rfl, HB⟩ := hrel
    have HBW := mkH (ups HB0.out HB.out)
    by_cases hlt : k < names.length
    · obtain ⟨nm, hx⟩ : ∃ x, names[k]? = some x := ⟨_, List.getElem?_eq_getElem hlt⟩
      have hkn : (k : Int) < (names.length : Int) := by omega
      obtain ⟨b1, o1, d1, e1, _, p1, r1⟩ := (HN.out.up HBW.out).cons (by omega)
      injection e1 with e11 en e13
      clear en
      subst e11 e13
      have x0 : wr.cell? ⟨b1, o1 + k * 1, none⟩ = some (.string nm) := r1 k nm hx 0 _ rfl
      rw [Nat.mul_one] at x0
      have HFN := mkH (HFD.out nm wr HBW.out)
      obtain ⟨q, hq⟩ := HF.out.nms nm (List.mem_of_getElem? hx)
      rw [hq] at HFN
      have q0 : ¬ (q : Int) < 0 := by omega
      clear hx r1 hq
      go_wp2_with fail
      with_reducible refine HFN.out.mono ?_
      rintro e w2 ⟨rfl, hb2⟩
      have HB2 := mkH (ups HB.out hb2)
      clear hb2 HFN HB HBW
      go_wp2
      exact ⟨⟨k + 1, by omega, by go_num, HB2⟩, by simp [intOf]; omega⟩
    · have hkn : ¬ (k : Int) < (names.length : Int) := by omega
      obtain ⟨c0, c1, c2, c3, c4⟩ := HKQ.out wr HBW.out ((HB.out.block _ (E.blk_lt HQ0.out)).trans HQ0.out)
      go_wp2_with fail
      with_reducible refine (HT.out _ HBW.out).mono ?_
      rintro e w2 ⟨rfl, hb2⟩
      have HB2 := mkH (ups HB.out hb2)
      clear hb2 HB HBW c0 c1 c2 c3 c4
      obtain ⟨c0, c1, c2, c3, c4⟩ := HKQ.out w2 (ups HB0.out HB2.out) ((HB2.out.block _ (E.blk_lt HQ0.out)).trans HQ0.out)
      go_wp2_with fail
      clear c0 c1 c2 c3 c4 HT HFD
      go_loopw [30] (fun vi wr => ∃ j : Nat, j ≤ L.length ∧ vi = .int .i64 j ∧ Hid (Below w0.heap.size w0 wr)) (fun vi _ => L.length - (intOf vi).toNat)
      case atStart => exact ⟨0, Nat.zero_le _, rfl, HB2⟩
      case round =>
        clear HB2
        obtain ⟨j, hj, rfl, HB3⟩ := hrel
        have HBW := mkH (ups HB0.out HB3.out)
        by_cases hlj : j < L.length
        · obtain ⟨x, hx⟩ : ∃ x, L[j]? = some x := ⟨_, List.getElem?_eq_getElem hlj⟩
          have hjn : (j : Int) < (L.length : Int) := by omega
          obtain ⟨b1, o1, d1, e1, _, p1, r1⟩ := (HI.out.up HBW.out).cons (by omega)
          injection e1 with e11 en e13
          clear en
          subst e11 e13
          have x0 : wr.cell? ⟨b1, o1 + j * 2, none⟩ = some (.string (fnB x.1)) := r1 j x hx 0 _ rfl
          have x1 : wr.cell? ⟨b1, o1 + j * 2 + 1, none⟩ = some (.string x.2) := r1 j x hx 1 _ rfl
          obtain ⟨hfi, hst⟩ := HF.out.its x (List.mem_of_getElem? hx)
          have HWX := mkH (HWI.out x hfi)
          have HBo := mkH (fun o => HBW.out.alloc HBW.out.size o)
          obtain ⟨q0, q1, q2, q3, q4⟩ := HKQ.out wr HBW.out ((HB3.out.block _ (E.blk_lt HQ0.out)).trans HQ0.out)
          have hqs : w.heap.size < wr.heap.size := block_lt_of_cell q0
          have hqn : ¬ w.heap.size = wr.heap.size := by omega
          obtain ⟨f, nm⟩ := x
          simp only at x0 x1 hst HWX
          clear hx r1 hfi q0 q1 q3 q4
          have HCX : Hid (nm ∈ names → ∀ W, Below w.heap.size w W → _) := mkH (fun hm => HCN.out nm hm)
          cases f
          case no =>
            unfold fnB at x0 HWX
            simp only at x0 HWX
            have hst' : sv = false ∨ nm ∈ names := by simpa using hst
            clear hst
            cases sv with
            | false =>
              clear HCX hst'
              go_wp2_with fail
              with_reducible refine (HWX.out _ (HBo.out _)).mono ?_
              rintro e w4 ⟨rfl, hb4⟩
              have HB4 := mkH (ups (ups HB3.out ((Below.refl _ _).alloc (Nat.le_refl _) _)) hb4)
              clear hb4 HWX HBo
              go_wp2
              exact ⟨⟨j + 1, by omega, by go_num, HB4⟩, by simp [intOf]; omega⟩
            | true =>
              have HCX2 := mkH (HCX.out (by simpa using hst'))
              clear HCX hst'
              go_wp2_with fail
              with_reducible refine (HCX2.out _ (HBo.out _)).mono ?_
              rintro e w3 ⟨rfl, rfl⟩
              clear HCX2
              go_wp2_with fail
              with_reducible refine (HWX.out _ (HBo.out _)).mono ?_
              rintro e w4 ⟨rfl, hb4⟩
              have HB4 := mkH (ups (ups HB3.out ((Below.refl _ _).alloc (Nat.le_refl _) _)) hb4)
              clear hb4 HWX HBo
              go_wp2
              exact ⟨⟨j + 1, by omega, by go_num, HB4⟩, by simp [intOf]; omega⟩
          all_goals
            unfold fnB at x0 HWX
            simp only at x0 HWX
            clear hst HCX
            go_wp2_with fail
            with_reducible refine (HWX.out _ (HBo.out _)).mono ?_
            rintro e w4 ⟨rfl, hb4⟩
            have HB4 := mkH (ups (ups HB3.out ((Below.refl _ _).alloc (Nat.le_refl _) _)) hb4)
            clear hb4 HWX HBo
            go_wp2
            exact ⟨⟨j + 1, by omega, by go_num, HB4⟩, by simp [intOf]; omega⟩
        · have hjn : ¬ (j : Int) < (L.length : Int) := by omega
          go_wp2
          go_ret
          exact ⟨rfl, HBW.out⟩
end Go.Proofs.YtlnkbhbpkmnkaaaGreatDoor.F
namespace Go.Proofs.YtlnkbhbpkmnkaaaGreatDoor.F
open Go.RowKit Go.Proofs Go.Shelf Go.Joins
open Go.Proofs.YtlnkbhbpkmnkaaaGreatDoor.Stb (ss)

def limR (lm : Int) (R : List (List V)) : List (List V) := if lm = 0 ∨ (R.length : Int) ≤ lm then R else R.take lm.toNat
theorem limR_len (lm : Int) (h0 : 0 ≤ lm) (R : List (List V)) : (limR lm R).length = if lm = 0 ∨ (R.length : Int) ≤ lm then R.length else lm.toNat := by
  unfold limR
  split
  · rfl
  · rw [List.length_take]; omega
theorem limR_head (lm : Int) (R : List (List V)) : limR lm R = R.take (limR lm R).length := by
  unfold limR
  split
  · rw [List.take_length]
  · rw [List.length_take, Nat.min_def]
    split
    · rfl
    · rw [List.take_of_length_le (by omega), List.take_length]
theorem SlR.head {w : World} {a : Option Addr} {c n : Nat} {R : List (List V)} (h : SlR w (.slice a n c) R) (m : Nat) (hm : m ≤ R.length) : SlR w (.slice a m c) (R.take m) := by
  obtain ⟨vs, h1, h2, h3⟩ := h
  obtain ⟨a', c', e, hc, hl⟩ := h1
  injection e with e1 e2 e3
  subst e1 e3
  refine ⟨vs.take m, ⟨a, c, ?_, ?_, fun hne => ?_⟩, ?_, fun j x r hx hr => ?_⟩
  · rw [List.length_take]; congr 1; omega
  · rw [List.length_take]; omega
  · obtain ⟨b, o, e1, hb, hcell⟩ := hl (by intro e; rw [e] at hne; simp at hne)
    exact ⟨b, o, e1, hb, fun j x hx => hcell j x (by
      have := lt_of_some hx
      rw [List.length_take] at this
      rwa [List.getElem?_take_of_lt (by omega)] at hx)⟩
  · rw [List.length_take, List.length_take, h2]
  · have := lt_of_some hx
    rw [List.length_take] at this
    rw [List.getElem?_take_of_lt (by omega)] at hx hr
    exact h3 j x r hx hr
def RunPost (R : List (List V)) (w : World) (e : Ending) (w' : World) : Prop := ∃ a c, e = .returned (.tuple #[.slice a R.length c, .nilIface]) ∧ SlR w' (.slice a R.length c) R ∧ Below w.heap.size w w'
set_option maxHeartbeats 8000000 in
set_option maxRecDepth 100000 in
theorem run_any (lv rv iv nv ov : Value) (cols : List Col) (L : List (Fn × ByteArray)) (names : List ByteArray) (os : List (Nat × Bool)) (sv : Bool) (lm : Int) (P : List (List (List V))) (w : World)
    (hc : SlE 7 C.encC w lv cols) (h1 : 0 < cols.length) (h8 : cols.length ≤ 8) (hrv : ∃ a n c, rv = .slice a n c) (hi : SlE 2 encF w iv L) (hl : L.length ≤ 1000) (hn : SlE 1 encN w nv names) (hnl : names.length ≤ 1000) (ho : OrdAt w ov os) (hop : ∀ x ∈ os, x.1 ≤ 1000000) (hol : os.length ≤ 1000) (h0 : 0 ≤ lm) (hlm : lm ≤ 1000000) (hf : FineQ cols L names sv)
    (ht : ∀ W, Below w.heap.size w W → Calls Tryz.prog 75 #[.agg #[iv, .pointer none, nv, ov, .int .i64 lm]] W fun e w' => e = .returned (.bool sv) ∧ Below W.heap.size W w')
    (hp : ∀ W, Below w.heap.size w W → Calls Tryz.prog 41 #[lv, rv, .agg #[iv, .pointer none, nv, ov, .int .i64 lm]] W fun e w' => ∃ v, e = .returned v ∧ SlP w' v P ∧ Below W.heap.size W w')
    (hP : P.length ≤ 1000) (hok : ∀ g ∈ P, PsOk (L.map fun x => (x.1, C.findC cols x.2)) g ∧ g.length ≤ 900) :
    Calls Tryz.prog 17 #[lv, rv, .agg #[iv, .pointer none, nv, ov, .int .i64 lm]] w (RunPost (limR lm (ss (ltB os) (toldQ (L.map fun x => (x.1, C.findC cols x.2)) P))) w) := by
  have HWR := mkH (fun W (hb : Below w.heap.size w W) => wrong_any lv iv nv ov cols L names sv lm W (hc.up hb) h1 h8 (hi.up hb) (hn.up hb) hl hnl (by obtain ⟨a, c, e, _⟩ := ho; exact ⟨a, _, c, e⟩) hf (fun V hV => ht V (ups hb hV)))
  have HPT := mkH hp
  have HPL := mkH (fun W (hb : Below w.heap.size w W) => places_any lv iv cols L W (hc.up hb) h1 h8 (hi.up hb) hl)
  have HOF := mkH (fun pv qv W (h1 : SlP W pv P) (h2 : SlE 2 encPl W qv (L.map fun x => (x.1, C.findC cols x.2))) => ofParts_any pv qv P _ W h1 h2 hok hP (by rw [List.length_map]; exact hl))
  have HST := mkH (fun W (hb : Below w.heap.size w W) => standing_any ov os W (ho.up hb))
  have HSO := mkH (fun g c gb vs W => sortB_any g c gb os vs (toldQ (L.map fun x => (x.1, C.findC cols x.2)) P) W)
  have HOP := mkH (And.intro hop hol)
  have hTL : (toldQ (L.map fun x => (x.1, C.findC cols x.2)) P).length ≤ 1000 := by unfold toldQ; rw [List.length_map]; exact hP
  obtain ⟨T, hT⟩ : ∃ T, toldQ (L.map fun x => (x.1, C.findC cols x.2)) P = T := ⟨_, rfl⟩
  rw [hT] at HOF HSO hTL
  rw [hT]
  clear hT
  obtain ⟨ra, rn, rc, rfl⟩ := hrv
  obtain ⟨ca, cc, rfl, _⟩ := hc.slice
  obtain ⟨ia, ic, rfl, _⟩ := hi.slice
  obtain ⟨na, nc, rfl, _⟩ := hn.slice
  obtain ⟨oa, oc, rfl, _⟩ := ho
  clear hc hi hn hf ht hp hok hop
  have HB0 : Hid (Below w.heap.size w (w.alloc (.cells #[.slice ia L.length ic, .pointer none, .slice na names.length nc, .slice oa os.length oc, .int .i64 lm] 49))) := mkH ((Below.refl _ _).alloc (Nat.le_refl _) _)
  have HQ0 := mkH (heap_alloc_new w (.cells #[.slice ia L.length ic, .pointer none, .slice na names.length nc, .slice oa os.length oc, .int .i64 lm] 49))
  go_enter Tryz.func17, Tryz.ntmps17
  go_wp2_with fail
  with_reducible refine (HWR.out _ HB0.out).mono ?_
  rintro e w1 ⟨rfl, hb1⟩
  have HB1 := mkH (ups HB0.out hb1)
  have hq1 := (hb1.block _ (by simp)).trans HQ0.out
  have HQ1 := mkH hq1
  have c0 : w1.cell? ⟨w.heap.size, 0, none⟩ = some (.slice ia L.length ic) := cell_of_block hq1 0
  have c1 : w1.cell? ⟨w.heap.size, 1, none⟩ = some (.pointer none) := cell_of_block hq1 1
  have c2 : w1.cell? ⟨w.heap.size, 2, none⟩ = some (.slice na names.length nc) := cell_of_block hq1 2
  have c3 : w1.cell? ⟨w.heap.size, 3, none⟩ = some (.slice oa os.length oc) := cell_of_block hq1 3
  have c4 : w1.cell? ⟨w.heap.size, 4, none⟩ = some (.int .i64 lm) := cell_of_block hq1 4
  clear hb1 hq1 HWR HB0 HQ0
  have s1 : w.heap.size < w1.heap.size := (Array.getElem?_eq_some_iff.mp HQ1.out).1
  go_upto_region 4 with fail
  have HPb := mkH (fun W (hW : Below w1.heap.size w1 W) => HPT.out W (ups HB1.out hW))
  have HLb := mkH (fun W (hW : Below w1.heap.size w1 W) => HPL.out W (ups HB1.out hW))
  clear HPT HPL
  go_region_held3 (fun w' => w'.cell? ⟨w.heap.size, 0, none⟩ = some (.slice ia L.length ic) ∧ w'.cell? ⟨w.heap.size, 1, none⟩ = some (.pointer none) ∧ w'.cell? ⟨w.heap.size, 2, none⟩ = some (.slice na names.length nc) ∧ w'.cell? ⟨w.heap.size, 3, none⟩ = some (.slice oa os.length oc) ∧ w'.cell? ⟨w.heap.size, 4, none⟩ = some (.int .i64 lm)) (go_keep) (first
    | (go_at_call 41
       with_reducible refine (HPb.out _ (by first | exact (Below.refl _ _).drew | exact Below.refl _ _)).mono ?_
       rintro e w5 ⟨v5, rfl, hs5, hb5⟩
       have B5 : Below w1.heap.size w1 w5 := ups (by first | exact (Below.refl _ _).drew | exact Below.refl _ _) hb5
       have q0 : w5.cell? ⟨w.heap.size, 0, none⟩ = some (.slice ia L.length ic) := (B5.cell (p := ⟨w.heap.size, 0, none⟩) s1).trans c0
       have q1 : w5.cell? ⟨w.heap.size, 1, none⟩ = some (.pointer none) := (B5.cell (p := ⟨w.heap.size, 1, none⟩) s1).trans c1
       have q2 : w5.cell? ⟨w.heap.size, 2, none⟩ = some (.slice na names.length nc) := (B5.cell (p := ⟨w.heap.size, 2, none⟩) s1).trans c2
       have q3 : w5.cell? ⟨w.heap.size, 3, none⟩ = some (.slice oa os.length oc) := (B5.cell (p := ⟨w.heap.size, 3, none⟩) s1).trans c3
       have q4 : w5.cell? ⟨w.heap.size, 4, none⟩ = some (.int .i64 lm) := (B5.cell (p := ⟨w.heap.size, 4, none⟩) s1).trans c4)
    | (go_at_call 42
       with_reducible refine (HLb.out _ (by first | exact B5.drew | exact B5)).mono ?_
       rintro e w6 ⟨v6, rfl, hs6, hb6⟩
       have B6 : Below w1.heap.size w1 w6 := ups (by first | exact B5.drew | exact B5) hb6
       have hs5' := SlP.up hs5 hb6
       have r0 : w6.cell? ⟨w.heap.size, 0, none⟩ = some (.slice ia L.length ic) := (B6.cell (p := ⟨w.heap.size, 0, none⟩) s1).trans c0
       have r1 : w6.cell? ⟨w.heap.size, 1, none⟩ = some (.pointer none) := (B6.cell (p := ⟨w.heap.size, 1, none⟩) s1).trans c1
       have r2 : w6.cell? ⟨w.heap.size, 2, none⟩ = some (.slice na names.length nc) := (B6.cell (p := ⟨w.heap.size, 2, none⟩) s1).trans c2
       have r3 : w6.cell? ⟨w.heap.size, 3, none⟩ = some (.slice oa os.length oc) := (B6.cell (p := ⟨w.heap.size, 3, none⟩) s1).trans c3
       have r4 : w6.cell? ⟨w.heap.size, 4, none⟩ = some (.int .i64 lm) := (B6.cell (p := ⟨w.heap.size, 4, none⟩) s1).trans c4)
    | (go_at_call 40
       with_reducible refine (HOF.out _ _ _ hs5' hs6).mono ?_
       rintro e w7 ⟨g7, t7, vs7, rfl, l7, n7, z7, o7, e7, b7⟩
       have B7 : Below w1.heap.size w1 w7 := ups B6 b7
       have t0 : w7.cell? ⟨w.heap.size, 0, none⟩ = some (.slice ia L.length ic) := (B7.cell (p := ⟨w.heap.size, 0, none⟩) s1).trans c0
       have t1 : w7.cell? ⟨w.heap.size, 1, none⟩ = some (.pointer none) := (B7.cell (p := ⟨w.heap.size, 1, none⟩) s1).trans c1
       have t2 : w7.cell? ⟨w.heap.size, 2, none⟩ = some (.slice na names.length nc) := (B7.cell (p := ⟨w.heap.size, 2, none⟩) s1).trans c2
       have t3 : w7.cell? ⟨w.heap.size, 3, none⟩ = some (.slice oa os.length oc) := (B7.cell (p := ⟨w.heap.size, 3, none⟩) s1).trans c3
       have t4 : w7.cell? ⟨w.heap.size, 4, none⟩ = some (.int .i64 lm) := (B7.cell (p := ⟨w.heap.size, 4, none⟩) s1).trans c4))
  all_goals
    go_wp2_with fail
    with_reducible refine (HST.out _ (ups HB1.out B7)).mono ?_
    rintro e w8 ⟨g8, rfl, z8, st8, b8⟩
    have k7 : g7 < w7.heap.size := by
      rcases own_forms o7 with ⟨e1, _⟩ | ⟨g, c', e1, _, hg, _, _⟩
      · injection e1 with e1; cases e1
      · injection e1 with e1
        injection e1 with e1
        injection e1 with e1
        rw [e1]; exact hg
    have HS8 := mkH (HSO.out g7 t7 g8 vs7 w8 n7 (E.ownsRow_up o7 b8) (fun j x r hx hr => (e7 j x r hx hr).up b8) (by omega) l7 st8 (by omega) HOP.out.1 HOP.out.2)
    have B8 := mkH (ups B7 b8)
    have z7' : w.heap.size < g7 := by have := B6.size; omega
    clear HSO n7 o7 e7 b7 b8 st8 B5 B6
    go_wp2_with fail
    with_reducible refine HS8.out.mono ?_
    rintro e w9 ⟨rfl, s9, b9, _⟩
    have x4 : w9.cell? ⟨w.heap.size, 4, none⟩ = some (.int .i64 lm) := (b9.cell (p := ⟨w.heap.size, 4, none⟩) z7').trans ((B8.out.cell (p := ⟨w.heap.size, 4, none⟩) s1).trans c4)
    have S9 := mkH s9
    have HBZ : Hid (Below w.heap.size w w9) := mkH ((ups HB1.out B8.out).trans (b9.mono (by omega)))
    clear s9 b9
    go_wp2_with fail
    have HA := mkH (atMost_any (some ⟨g7, 0, none⟩) T.length t7 lm w9 l7 h0 hlm)
    have hlen : (ss (ltB os) T).length = T.length := Stb.ss_len _ _
    have HAA : Hid (Calls Tryz.prog 45 #[.slice (some ⟨g7, 0, none⟩) T.length t7, .int .i64 lm] w9 fun e w' => e = .returned (.slice (some ⟨g7, 0, none⟩) (limR lm (ss (ltB os) T)).length t7) ∧ w' = w9) := mkH (by
      rw [limR_len lm h0, hlen]
      exact HA.out)
    have HSL : Hid (SlR w9 (.slice (some ⟨g7, 0, none⟩) (limR lm (ss (ltB os) T)).length t7) (limR lm (ss (ltB os) T))) := mkH (by
      have hh := limR_head lm (ss (ltB os) T)
      have := S9.out.head (limR lm (ss (ltB os) T)).length (by rw [limR_len lm h0]; split <;> omega)
      rw [← hh] at this
      exact this)
    clear HA S9 hlen
    unfold RunPost
    generalize limR lm (ss (ltB os) T) = R at *
    with_reducible refine HAA.out.mono ?_
    rintro e w10 ⟨rfl, rfl⟩
    go_wp2
    refine bodyPost_ret (v := .tuple #[.slice (some ⟨g7, 0, none⟩) R.length t7, .nilIface]) ?_ rfl ⟨_, _, rfl, HSL.out, HBZ.out⟩
    simp [results, Tryz.results17, go_sem]
end Go.Proofs.YtlnkbhbpkmnkaaaGreatDoor.F
namespace Go.Proofs.YtlnkbhbpkmnkaaaGreatDoor
open Go.RowKit Go.Proofs Go.Lib Go.Joins Go.Proofs.YtlnkbhbpkmnkaaaGreatDoor.Ask
open Go.Proofs.YtlnkbhbpkmnkaaaGreatDoor.Stb (ss)

def itsF (q : QQ) : List (F.Fn × ByteArray) := (q.x :: q.l).map fun x => (x.1, inB x.2)
def namesF (q : QQ) : List ByteArray := q.byn.toList.map bA
theorem QAt.its {W : World} {q : QQ} {iv bv ov : Value} (h : QAt W q iv bv ov) : F.SlE 2 F.encF W iv (itsF q) := by
  have h1 : F.SlE 2 F.encF W iv ((itsF q).map id) := by
    obtain ⟨a, c, e, hc, hl⟩ := h.1
    refine ⟨a, c, ?_, ?_, fun hne => ?_⟩
    · rw [e]; simp [itsF]
    · simpa [itsF] using hc
    · obtain ⟨b, off, e1, hb, hcell⟩ := hl (by simp)
      refine ⟨b, off, e1, hb, fun j x hx i u hu => ?_⟩
      unfold itsF at hx
      rw [List.map_id, List.getElem?_map] at hx
      cases hj : (q.x :: q.l)[j]? with
      | none => rw [hj] at hx; cases hx
      | some y =>
        rw [hj] at hx
        injection hx with hx
        subst hx
        exact hcell j (itB y) (by rw [List.getElem?_map, hj]; rfl) i u hu
  rwa [List.map_id] at h1
/-- What together and parts do at what was read. -/
def PartsDo (w : World) (lv rv : Value) (q : QQ) (sv : Bool) (P : List (List (List F.V))) : Prop :=
  ∀ iv nv ov W, Below w.heap.size w W → F.SlE 2 F.encF W iv (itsF q) → F.SlE 1 F.encN W nv (namesF q) → F.OrdAt W ov q.ord.toList →
    (Calls Tryz.prog 75 #[.agg #[iv, .pointer none, nv, ov, .int .i64 (limN q.lim)]] W fun e w' => e = .returned (.bool sv) ∧ Below W.heap.size W w') ∧
    Calls Tryz.prog 41 #[lv, rv, .agg #[iv, .pointer none, nv, ov, .int .i64 (limN q.lim)]] W fun e w' => ∃ v, e = .returned v ∧ F.SlP w' v P ∧ Below W.heap.size W w'
def psF (cols : List F.Col) (q : QQ) : List (F.Fn × Int) := (itsF q).map fun x => (x.1, C.findC cols x.2)
def RunsPost (R : List (List F.V)) (w : World) (e : Ending) (w' : World) : Prop := ∃ a c, e = .returned (.tuple #[.slice a R.length c, .bool true]) ∧ F.SlR w' (.slice a R.length c) R ∧ Below w.heap.size w w'
set_option maxHeartbeats 4000000 in
set_option maxRecDepth 100000 in
theorem runs_any (lv rv : Value) (cols : List F.Col) (q : QQ) (sv : Bool) (P : List (List (List F.V))) (s : ByteArray) (w : World) (hs : s = bA (qX q)) (hs6 : s.size ≤ 1000000) (hq : QOk q) (h80 : (qT q).length ≤ 80) (hm : MkB w) (hg : GB w) (hw : 10 ≤ w.heap.size)
    (hc : F.SlE 7 C.encC w lv cols) (h1 : 0 < cols.length) (h8 : cols.length ≤ 8) (hrv : ∃ a n c, rv = .slice a n c) (hf : F.FineQ cols (itsF q) (namesF q) sv) (hp : PartsDo w lv rv q sv P)
    (hP : P.length ≤ 1000) (hok : ∀ g ∈ P, F.PsOk (psF cols q) g ∧ g.length ≤ 900) :
    Calls Tryz.prog 11 #[lv, rv, .string s] w (RunsPost (F.limR (limN q.lim) (ss (F.ltB q.ord.toList) (F.toldQ (psF cols q) P))) w) := by
  have HPA : Hid (Calls Tryz.prog 16 #[.string s] w fun e w' => ∃ iv bv ov, e = .returned (.tuple #[.agg #[iv, .pointer none, bv, ov, .int .i64 (limN q.lim)], .nilIface]) ∧ QAt w' q iv bv ov ∧ Below w.heap.size w w') :=
    mkH (qparse_any s q w hs6 (by rw [hs]; exact qX_toks q hq h80) hq hm hg hw)
  have h0 : 0 ≤ limN q.lim := by unfold limN; cases q.lim <;> simp
  have hlm : limN q.lim ≤ 1000000 := by
    unfold limN
    cases hl : q.lim with
    | none => simp
    | some n => have := (hq.lim n hl).2; simp; omega
  have hil : (itsF q).length ≤ 1000 := by have := hq.few; unfold itsF; simp; omega
  have hnl : (namesF q).length ≤ 1000 := by unfold namesF; cases q.byn <;> simp
  have hol : q.ord.toList.length ≤ 1000 := by cases q.ord <;> simp
  have hop : ∀ x ∈ q.ord.toList, x.1 ≤ 1000000 := fun x hx => by
    cases ho : q.ord with
    | none => rw [ho] at hx; cases hx
    | some y =>
      rw [ho] at hx
      simp at hx
      subst hx
      have := (hq.ord _ ho).1
      omega
  have HRU := mkH (fun iv bv ov W (hb : Below w.heap.size w W) (hA : QAt W q iv bv ov) => F.run_any lv rv iv bv ov cols (itsF q) (namesF q) q.ord.toList sv (limN q.lim) P W (hc.up hb) h1 h8 hrv hA.its hil hA.2.1 hnl hA.2.2 hop hol h0 hlm hf (fun V hV => (hp iv bv ov V (F.ups hb hV) (hA.its.up hV) (hA.2.1.up hV) (hA.2.2.up hV)).1) (fun V hV => (hp iv bv ov V (F.ups hb hV) (hA.its.up hV) (hA.2.1.up hV) (hA.2.2.up hV)).2) hP hok)
  clear hm hg hf hp hok hs
  obtain ⟨ra, rn, rc, rfl⟩ := hrv
  obtain ⟨ca, cc, rfl, _⟩ := hc.slice
  clear hc
  unfold psF at *
  unfold F.RunPost at HRU
  unfold RunsPost
  generalize F.limR (limN q.lim) (ss (F.ltB q.ord.toList) (F.toldQ (List.map (fun x => (x.1, C.findC cols x.2)) (itsF q)) P)) = R at *
  go_enter Tryz.func11, Tryz.ntmps11
  go_wp2_with fail
  with_reducible refine HPA.out.mono ?_
  rintro e w1 ⟨iv, bv, ov, rfl, hA, hb1⟩
  have hal : ∀ o, Below w1.heap.size w1 (w1.alloc o) := fun o => (Below.refl _ _).alloc (Nat.le_refl _) _
  have HR := mkH (fun o => HRU.out iv bv ov (w1.alloc o) (F.ups hb1 (hal o)) ⟨hA.1.up (hal o), hA.2.1.up (hal o), hA.2.2.up (hal o)⟩)
  have HB1 := mkH (fun o => F.ups hb1 (hal o))
  have hsl : (∃ a n c, iv = .slice a n c) ∧ (∃ a n c, bv = .slice a n c) ∧ ∃ a n c, ov = .slice a n c := by
    refine ⟨?_, ?_, ?_⟩
    · obtain ⟨a, c, e, _⟩ := hA.1; exact ⟨a, _, c, e⟩
    · obtain ⟨a, c, e, _⟩ := hA.2.1; exact ⟨a, _, c, e⟩
    · obtain ⟨a, c, e, _⟩ := hA.2.2; exact ⟨a, _, c, e⟩
  clear HRU HPA hA hb1 hal
  obtain ⟨⟨ia, im, ic, rfl⟩, ⟨ba, bn, bc, rfl⟩, ⟨oa, on, oc, rfl⟩⟩ := hsl
  go_wp2_with fail
  with_reducible refine (HR.out _).mono ?_
  rintro e w2 ⟨ra2, rc2, rfl, hr2, hb2⟩
  have HBB := mkH (F.ups (HB1.out _) hb2)
  clear hb2
  go_wp2
  go_upto_region 5 with fail
  generalize w1.alloc _ = wb at *
  go_region_held3 (fun _ => True) (trivial) (fail)
  all_goals
    go_wp2
    refine bodyPost_ret (v := .tuple #[.slice ra2 R.length rc2, .bool true]) ?_ rfl ⟨_, _, rfl, hr2.up (Below.refl _ _).drew, HBB.out.drew⟩
    simp [results, Tryz.results11, go_sem]
end Go.Proofs.YtlnkbhbpkmnkaaaGreatDoor
namespace Go.Proofs.YtlnkbhbpkmnkaaaGreatDoor
open Go.RowKit Go.Proofs Go.Lib Go.Joins Go.Proofs.YtlnkbhbpkmnkaaaGreatDoor.Ask
open Go.Proofs.YtlnkbhbpkmnkaaaGreatDoor.Stb (ss)

theorem parts_do_by (w : World) (lv rv : Value) (q : QQ) (cols : List F.Col) (rows : List (List F.V)) (n : List UInt8) (k : Nat) (hq : q.byn = some n) (hk : C.findC cols (bA n) = (k : Int)) (hk6 : k ≤ 1000000)
    (hc : F.SlE 7 C.encC w lv cols) (h1 : 0 < cols.length) (h8 : cols.length ≤ 8) (hr : F.SlR w rv rows) (hl : rows.length ≤ 1000) :
    PartsDo w lv rv q true (F.cutA (F.stC [(k, false)]) [] (ss (F.ltB [(k, false)]) rows)) := by
  intro iv nv ov W hb hi hn ho
  have hnm : namesF q = [bA n] := by unfold namesF; rw [hq]; rfl
  rw [hnm] at hn
  have hfi : ∃ a n c, iv = .slice a n c := by obtain ⟨a, c, e, _⟩ := hi; exact ⟨a, _, c, e⟩
  have hfo : ∃ a n c, ov = .slice a n c := by obtain ⟨a, c, e, _⟩ := ho; exact ⟨a, _, c, e⟩
  constructor
  · obtain ⟨na, nc, rfl, _⟩ := hn.slice
    exact F.together_by iv na _ nc ov _ W (by simp) hfi hfo
  · exact F.parts_by lv rv iv nv ov cols rows [bA n] [k] _ W (hc.up hb) h1 h8 (hr.up hb) hl hn (by simp) rfl (fun j nm m hj hm => by
      cases j with
      | zero => simp at hj hm; subst hj hm; exact hk
      | succ j => simp at hj) (by simp) (fun x hx => by simp at hx; omega) hfi hfo
theorem parts_do_whole (w : World) (lv rv : Value) (q : QQ) (rows : List (List F.V)) (hq : q.byn = none) (hfn : F.hasFn (itsF q) = true) (hil : (itsF q).length ≤ 1000)
    (hlv : ∃ a n c, lv = .slice a n c) (hr : F.SlR w rv rows) :
    PartsDo w lv rv q true [rows] := by
  intro iv nv ov W hb hi hn ho
  have hnm : namesF q = [] := by unfold namesF; rw [hq]; rfl
  rw [hnm] at hn
  have hfo : ∃ a n c, ov = .slice a n c := by obtain ⟨a, c, e, _⟩ := ho; exact ⟨a, _, c, e⟩
  have h0 : 0 < (itsF q).length := by unfold itsF; simp
  obtain ⟨na, nc, rfl, _⟩ := hn.slice
  constructor
  · have := F.together_no iv (itsF q) na nc ov (limN q.lim) W hi h0 hil hfo
    rw [hfn] at this
    exact this
  · exact F.parts_whole lv rv iv ov (itsF q) rows na nc _ W hlv (hr.up hb) hi h0 hil hfn hfo
end Go.Proofs.YtlnkbhbpkmnkaaaGreatDoor
namespace Go.Proofs.YtlnkbhbpkmnkaaaGreatDoor.F
open Go.RowKit Go.Proofs Go.Shelf Go.Joins

def wordsQ : List ByteArray := [⟨#[98, 121]⟩, ⟨#[100, 101, 115, 99]⟩, ⟨#[108, 105, 109, 105, 116]⟩, ⟨#[111, 114, 100, 101, 114]⟩, ⟨#[115, 101, 108, 101, 99, 116]⟩, ⟨#[119, 104, 101, 114, 101]⟩]
def keptC (c : Col) : Bool := wordsQ.any fun y => c.2.1.toList == y.toList
theorem containsB_any (g c : Nat) (names : List ByteArray) (nm : ByteArray) (w : World) (hl : names.length ≤ 1000) (hcell : ∀ (j : Nat) x, names[j]? = some x → w.cell? ⟨g, j, none⟩ = some (.string x)) :
    Calls Tryz.prog 23 #[.slice (some ⟨g, 0, none⟩) names.length c, .string nm] w fun e w' => e = .returned (.bool (names.any fun y => nm.toList == y.toList)) ∧ w' = w := by
  have h := AnyE.slices_Contains Tryz.layHasS Value.string (fun x y => x.toList == y.toList) (EqlAt.string _ _) g 0 names.length c names nm w (Nat.le_refl _) (by omega) (fun j hj => by
    have := hcell j _ (List.getElem?_eq_getElem hj)
    rw [getElem!_pos names j hj]
    rwa [Nat.zero_add])
  rw [List.take_length] at h
  exact h
set_option maxHeartbeats 4000000 in
set_option maxRecDepth 100000 in
theorem kept1_any (w : World) : PredBelow Tryz.prog 22 #[] (fun x : Col => .agg (C.encC x).toArray) keptC w := fun W x hb => by
  obtain ⟨a, nm, b, c, d, e, f⟩ := x
  show Calls Tryz.prog 22 #[.agg #[.int .i64 a, .string nm, .int .i64 b, .bool c, .int .i64 d, .int .i64 e, .string f]] W _
  have HC := mkH (fun g W (hcell : ∀ (j : Nat) x, wordsQ[j]? = some x → W.cell? ⟨g, j, none⟩ = some (.string x)) => containsB_any g 6 wordsQ nm W (by decide) hcell)
  unfold keptC
  simp only
  generalize (wordsQ.any fun y => nm.toList == y.toList) = r at *
  go_enter Tryz.func22, Tryz.ntmps22
  go_wp2_with fail
  have hk := heap_alloc_new (W.alloc (.cells #[.int .i64 a, .string nm, .int .i64 b, .bool c, .int .i64 d, .int .i64 e, .string f] 31)) (.cells #[.string ⟨#[98, 121]⟩, .string ⟨#[100, 101, 115, 99]⟩, .string ⟨#[108, 105, 109, 105, 116]⟩, .string ⟨#[111, 114, 100, 101, 114]⟩, .string ⟨#[115, 101, 108, 101, 99, 116]⟩, .string ⟨#[119, 104, 101, 114, 101]⟩] 9)
  rw [World.size_alloc] at hk
  refine (HC.out (W.heap.size + 1) _ (fun j x hj => ?_)).mono ?_
  · rw [cell_of_block hk j]
    rcases j with _ | _ | _ | _ | _ | _ | j
    all_goals first
      | (simp [wordsQ] at hj; subst hj; rfl)
      | (simp [wordsQ] at hj; done)
  · rintro e w' ⟨rfl, rfl⟩
    go_wp2
    go_ret
    exact ⟨rfl, (hb.alloc hb.size _).alloc (Nat.le_trans hb.size (by simp)) _⟩
set_option maxHeartbeats 4000000 in
set_option maxRecDepth 100000 in
theorem kept_any (lv : Value) (cols : List Col) (w : World) (hc : SlE 7 C.encC w lv cols) (h0 : 0 < cols.length) (hl : cols.length ≤ 1000) :
    Calls Tryz.prog 9 #[lv] w fun e w' => e = .returned (.bool (cols.any keptC)) ∧ Below w.heap.size w w' := by
  have eg : ∀ args w, (callFunc 22 args).run Tryz.prog w = .ok (.enter 22 args) w := enters_of Tryz.func22 (by kernel_rfl) rfl
  letI : Inhabited Col := ⟨(0, ⟨#[]⟩, 0, false, 0, 0, ⟨#[]⟩)⟩
  obtain ⟨g, o, c, rfl, hcp, hb, hcell⟩ := hc.cons h0
  have hq : ∀ (W : World), Below w.heap.size w W → Calls Tryz.prog 21 #[.slice (some ⟨g, o, none⟩) cols.length c, .func (.func 22) #[] #[]] W fun e w' => e = .returned (.bool (cols.any keptC)) ∧ Below W.heap.size W w' := fun W hW => by
    have hcon := AnyQ.slices_ContainsFunc Tryz.layCon 7 Tryz.isAgg31 Tryz.sizeOf31 C.encC C.encC_len keptC 22 #[] eg g o cols.length c cols W (kept1_any W) (Nat.le_refl _) (by omega) (Nat.lt_of_lt_of_le hb hW.size) (fun j hj i u hu => by
      rw [getElem!_pos cols j hj] at hu
      exact (hW.cell (p := ⟨g, o + j * 7 + i, none⟩) hb).trans (hcell j _ (List.getElem?_eq_getElem hj) i u hu))
    rw [List.take_length] at hcon
    exact hcon
  have HQ := mkH hq
  clear hq hcell hcp hc
  have hmf : ∀ (fn : Go.Fn) (first cap : Array Value) (w : World), (Instr.makeFunc fn first cap).run Tryz.prog w = .ok (.func fn first cap) w := fun _ _ _ _ => rfl
  go_enter Tryz.func9, Tryz.ntmps9
  go_wp2_with fail
  with_reducible refine (HQ.out _ (Below.refl _ _)).mono ?_
  rintro e w1 ⟨rfl, hb1⟩
  go_wp2
  go_ret
  exact ⟨rfl, hb1⟩
end Go.Proofs.YtlnkbhbpkmnkaaaGreatDoor.F
namespace Go.Proofs.YtlnkbhbpkmnkaaaGreatDoor.F
open Go.RowKit Go.Proofs Go.Shelf Go.Joins

theorem step_call {ops : Array Oper} {o : Oper} {a : Act} {W : World} {K : Act → World → Prop} {Q : Exit → Act → World → Prop} {E : Prop} (hgd : o.guard = none) (f : Nat) (xs : Array Operand) (ts : Array TypeId)
    (ho : o.op = .call { callee := .value (.func f), args := xs, argTypes := ts }) (args : Array Value) (ha : xs.map a.eval = args) (eg : ∀ args w, (callFunc f args).run Tryz.prog w = .ok (.enter f args) w)
    (R : Ending → World → Prop) (hc : Calls Tryz.prog f args W R) (h : ∀ e w', R e w' → ∃ v, e = .returned v ∧ K (a.put o.dst v) w') :
    if Region.wanted o (yielded ops a.tmps) = true then Oper.wp Tryz.prog o a W K Q else E := by
  have hw : Region.wanted o (yielded ops a.tmps) = true := by simp [Region.wanted, hgd]
  rw [if_pos hw]
  have hrun : (execOp a.eval o).run Tryz.prog W = .ok (.enter f args) W := by
    simp [execOp, ho, resolve, invoke, ha, eg, Act.eval, Deferred.ofValue]
  unfold Oper.wp
  rw [hrun, Oper.upon_enter]
  refine hc.mono fun e w'' hh => ?_
  obtain ⟨v, rfl, hk⟩ := h e w'' hh
  exact hk
theorem step_call1 {ops : Array Oper} {o : Oper} {a : Act} {W : World} {K : Act → World → Prop} {Q : Exit → Act → World → Prop} {E : Prop} (hgd : o.guard = none) (f : Nat) (x : Operand) (t : TypeId)
    (ho : o.op = .call { callee := .value (.func f), args := #[x], argTypes := #[t] }) (u : Value) (hx : a.eval x = u) (eg : ∀ args w, (callFunc f args).run Tryz.prog w = .ok (.enter f args) w)
    (R : Ending → World → Prop) (hc : Calls Tryz.prog f #[u] W R) (h : ∀ e w', R e w' → ∃ v, e = .returned v ∧ K (a.put o.dst v) w') :
    if Region.wanted o (yielded ops a.tmps) = true then Oper.wp Tryz.prog o a W K Q else E :=
  step_call hgd f #[x] #[t] ho #[u] (by simp [hx]) eg R hc h
theorem step_call2 {ops : Array Oper} {o : Oper} {a : Act} {W : World} {K : Act → World → Prop} {Q : Exit → Act → World → Prop} {E : Prop} (hgd : o.guard = none) (f : Nat) (x y : Operand) (t s : TypeId)
    (ho : o.op = .call { callee := .value (.func f), args := #[x, y], argTypes := #[t, s] }) (u v : Value) (hx : a.eval x = u) (hy : a.eval y = v) (eg : ∀ args w, (callFunc f args).run Tryz.prog w = .ok (.enter f args) w)
    (R : Ending → World → Prop) (hc : Calls Tryz.prog f #[u, v] W R) (h : ∀ e w', R e w' → ∃ v, e = .returned v ∧ K (a.put o.dst v) w') :
    if Region.wanted o (yielded ops a.tmps) = true then Oper.wp Tryz.prog o a W K Q else E :=
  step_call hgd f #[x, y] #[t, s] ho #[u, v] (by simp [hx, hy]) eg R hc h
end Go.Proofs.YtlnkbhbpkmnkaaaGreatDoor.F
