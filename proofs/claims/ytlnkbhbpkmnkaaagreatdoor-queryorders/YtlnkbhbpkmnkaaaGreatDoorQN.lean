/- the law's helpers: same (at rows that are the same), version, named -/
import Derived.Test.YtlnkbhbpkmnkaaaGreatDoorFW5
import Derived.ProofKit
import Derived.OpenShut
import Derived.Lib.SmallJoins
import Derived.Deep.Slices
import Derived.Deep.Strs
namespace Go.Proofs.YtlnkbhbpkmnkaaaGreatDoor.F
open Go.RowKit Go.Proofs Go.Shelf Go.Joins

def TellPost (P : Prop) (w : World) (e : Ending) (w' : World) : Prop := ∃ b, e = .returned (.bool b) ∧ (b = true → P) ∧ Below w.heap.size w w'
def ColsFit (l : List Col) : Prop := l.length ≤ 20 ∧ ∀ c ∈ l, c.2.1.size ≤ 60 ∧ c.2.2.2.2.2.2.size ≤ 100
def RowsFit (l : List (List V)) : Prop := l.length ≤ 70 ∧ ∀ r ∈ l, r.length ≤ 20 ∧ ∀ v ∈ r, v.2.2.size ≤ 100
theorem take_fit {α : Type} {P : α → Prop} {l : List α} {k : Nat} (h : ∀ x ∈ l.take k, P x) (hk : l.length ≤ k) : ∀ x ∈ l, P x := by rwa [List.take_of_length_le hk] at h
theorem take_step {α : Type} {P : α → Prop} {l : List α} {k : Nat} {x : α} (h : ∀ x ∈ l.take k, P x) (hx : l[k]? = some x) (hp : P x) : ∀ x ∈ l.take (k + 1), P x := by
  rw [E.take_next hx]
  intro y hy
  rcases List.mem_append.1 hy with hy | hy
  · exact h y hy
  · simp at hy; subst hy; exact hp
set_option maxHeartbeats 4000000 in
set_option maxRecDepth 100000 in
theorem columns_any (lv : Value) (l : List Col) (w : World) (hl : SlE 7 C.encC w lv l) (hms : ∀ c ∈ l, c.2.1.size ≤ maxLen ∧ c.2.2.2.2.2.2.size ≤ maxLen) :
    Calls Tryz.prog 5 #[lv] w (TellPost (ColsFit l) w) := by
  have HL := mkH hl
  obtain ⟨la, lc, rfl, _⟩ := hl.slice
  have HMS := mkH hms
  clear hl hms
  by_cases h20 : l.length ≤ 20
  · have h20' : ¬ (20 : Int) < (l.length : Int) := by omega
    go_enter Tryz.func5, Tryz.ntmps5
    go_wp2
    go_loopw [3] (fun vi wr => ∃ k : Nat, k ≤ l.length ∧ vi = .int .i64 k ∧ Hid (∀ c ∈ l.take k, c.2.1.size ≤ 60 ∧ c.2.2.2.2.2.2.size ≤ 100) ∧ Hid (Below w.heap.size w wr)) (fun vi _ => l.length - (intOf vi).toNat)
    case atStart => exact ⟨0, Nat.zero_le _, rfl, mkH (by simp), mkH (Below.refl _ _)⟩
    case round =>
      obtain ⟨k, hk, rfl, hok, hbR⟩ := hrel
      by_cases hlt : k < l.length
      · obtain ⟨⟨c1, c2, c3, c4, c5, c6, c7⟩, hc⟩ : ∃ c, l[k]? = some c := ⟨_, List.getElem?_eq_getElem hlt⟩
        obtain ⟨lb, lo, lc', el, _, hlb, hlcell⟩ := (HL.out.up hbR.out).cons (by omega)
        injection el with el1 _ el2
        subst el1 el2
        obtain ⟨q0, q1, q2, q3, q4, q5, q6⟩ := cells7 hlcell hc
        obtain ⟨m1, m2⟩ := HMS.out _ (List.mem_of_getElem? hc)
        dsimp only at m1 m2
        have hkl : (k : Int) < (l.length : Int) := by omega
        have HC := mkH hc
        clear hlcell hc
        by_cases a1 : c2.size ≤ 60
        · have a1' : ¬ (60 : Int) < (c2.size : Int) := by omega
          by_cases a2 : c7.size ≤ 100
          · have a2' : ¬ (100 : Int) < (c7.size : Int) := by omega
            have HOK := mkH (take_step hok.out HC.out ⟨a1, a2⟩)
            go_wp2
            exact ⟨⟨k + 1, by omega, by go_num, HOK, hbR⟩, by simp [intOf]; omega⟩
          · have a2' : (100 : Int) < (c7.size : Int) := by omega
            go_wp2
            go_ret
            exact ⟨_, rfl, by simp, hbR.out⟩
        · have a1' : (60 : Int) < (c2.size : Int) := by omega
          go_wp2
          go_ret
          exact ⟨_, rfl, by simp, hbR.out⟩
      · have hkl : ¬ (k : Int) < (l.length : Int) := by omega
        have HR := mkH (take_fit hok.out (by omega))
        go_wp2
        go_ret
        exact ⟨_, rfl, fun _ => ⟨h20, HR.out⟩, hbR.out⟩
  · have h20' : (20 : Int) < (l.length : Int) := by omega
    go_enter Tryz.func5, Tryz.ntmps5
    go_wp2
    go_ret
    exact ⟨_, rfl, by simp, Below.refl _ _⟩
set_option maxHeartbeats 4000000 in
set_option maxRecDepth 100000 in
theorem keepRows_any (rv : Value) (l : List (List V)) (w : World) (hl : SlR w rv l) (hms : ∀ r ∈ l, ∀ v ∈ r, v.2.2.size ≤ maxLen) :
    Calls Tryz.prog 6 #[rv] w (TellPost (RowsFit l) w) := by
  have HL := mkH hl
  obtain ⟨la, lc, rfl, _⟩ := hl.slice
  have HMS := mkH hms
  clear hl hms
  by_cases h70 : l.length ≤ 70
  · have h70' : ¬ (70 : Int) < (l.length : Int) := by omega
    go_enter Tryz.func6, Tryz.ntmps6
    go_wp2
    go_loopw [3] (fun vi wr => ∃ k : Nat, k ≤ l.length ∧ vi = .int .i64 k ∧ Hid (∀ r ∈ l.take k, r.length ≤ 20 ∧ ∀ v ∈ r, v.2.2.size ≤ 100) ∧ Hid (Below w.heap.size w wr)) (fun vi _ => l.length - (intOf vi).toNat)
    case atStart => exact ⟨0, Nat.zero_le _, rfl, mkH (by simp), mkH (Below.refl _ _)⟩
    case round =>
      obtain ⟨k, hk, rfl, hok, hbR⟩ := hrel
      by_cases hlt : k < l.length
      · obtain ⟨r, hr⟩ : ∃ r, l[k]? = some r := ⟨_, List.getElem?_eq_getElem hlt⟩
        obtain ⟨rb, ro, rc', xv, er, hrb, hcell, hSl⟩ := (HL.out.up hbR.out).at hr
        injection er with er1 _ er2
        subst er1 er2
        obtain ⟨xa, xc, rfl, _, hxc⟩ := hSl
        have HXC := mkH hxc
        have hrt := HMS.out r (List.mem_of_getElem? hr)
        have HRT := mkH hrt
        have HR := mkH hr
        have hkl : (k : Int) < (l.length : Int) := by omega
        clear hxc hrt hr
        by_cases a1 : r.length ≤ 20
        · have a1' : ¬ (20 : Int) < (r.length : Int) := by omega
          go_wp2
          rename World => wo
          go_loopw [4] (fun vi wi => ∃ j : Nat, j ≤ r.length ∧ vi = .int .i64 j ∧ Hid (∀ v ∈ r.take j, v.2.2.size ≤ 100) ∧ Hid (Below wo.heap.size wo wi)) (fun vi _ => r.length - (intOf vi).toNat)
          case atStart => exact ⟨0, Nat.zero_le _, rfl, mkH (by simp), mkH (Below.refl _ _)⟩
          case round =>
            obtain ⟨j, hj, rfl, hjk, hbi⟩ := hrel
            have hcell' := cell_up hbi.out hcell
            by_cases hjl : j < r.length
            · obtain ⟨⟨vk, vn, vt⟩, hv⟩ : ∃ x, r[j]? = some x := ⟨_, List.getElem?_eq_getElem hjl⟩
              obtain ⟨xb, xo, rfl, hxb, hxcell⟩ := HXC.out (by intro e; rw [e] at hjl; simp at hjl)
              obtain ⟨y0, y1, y2⟩ := hxcell j _ hv
              replace y0 := cell_up hbi.out y0
              replace y1 := cell_up hbi.out y1
              replace y2 := cell_up hbi.out y2
              have m1 := HRT.out _ (List.mem_of_getElem? hv)
              dsimp only at m1
              have hjr : (j : Int) < (r.length : Int) := by omega
              have HV := mkH hv
              clear hxcell hv
              by_cases a2 : vt.size ≤ 100
              · have a2' : ¬ (100 : Int) < (vt.size : Int) := by omega
                have HOK := mkH (take_step (P := fun v : V => v.2.2.size ≤ 100) hjk.out HV.out a2)
                go_wp2
                exact ⟨⟨j + 1, by omega, by go_num, HOK, hbi⟩, by simp [intOf]; omega⟩
              · have a2' : (100 : Int) < (vt.size : Int) := by omega
                go_wp2
                go_ret
                exact ⟨_, rfl, by simp, ups hbR.out hbi.out⟩
            · have hjr : ¬ (j : Int) < (r.length : Int) := by omega
              have HOK := mkH (take_step (P := fun r : List V => r.length ≤ 20 ∧ ∀ v ∈ r, v.2.2.size ≤ 100) hok.out HR.out ⟨a1, take_fit (P := fun v : V => v.2.2.size ≤ 100) hjk.out (by omega)⟩)
              have HBF := mkH (ups hbR.out hbi.out)
              go_wp2
              exact ⟨⟨k + 1, by omega, by go_num, HOK, HBF⟩, by simp [intOf]; omega⟩
        · have a1' : (20 : Int) < (r.length : Int) := by omega
          go_wp2
          go_ret
          exact ⟨_, rfl, by simp, hbR.out⟩
      · have hkl : ¬ (k : Int) < (l.length : Int) := by omega
        have HR := mkH (take_fit (P := fun r : List V => r.length ≤ 20 ∧ ∀ v ∈ r, v.2.2.size ≤ 100) hok.out (by omega))
        go_wp2
        go_ret
        exact ⟨_, rfl, fun _ => ⟨h70, HR.out⟩, hbR.out⟩
  · have h70' : (70 : Int) < (l.length : Int) := by omega
    go_enter Tryz.func6, Tryz.ntmps6
    go_wp2
    go_ret
    exact ⟨_, rfl, by simp, Below.refl _ _⟩
end Go.Proofs.YtlnkbhbpkmnkaaaGreatDoor.F
namespace Go.Proofs.YtlnkbhbpkmnkaaaGreatDoor.F
open Go.ChangeShapes Go.WideShapes Go.ChangeAt Go.RowKit Go.Joins Go.Deep Go.Proofs

theorem cells3 : Tryz.prog.cellsOf 3 = 1 := by kernel_rfl
theorem cells2 : Tryz.prog.cellsOf 2 = 1 := by kernel_rfl
theorem cells4 : Tryz.prog.cellsOf 4 = 1 := by kernel_rfl
theorem cells9 : Tryz.prog.cellsOf 9 = 1 := by kernel_rfl
theorem cellsV : Tryz.prog.cellsOf 29 = 3 := by kernel_rfl
theorem cellsCol : Tryz.prog.cellsOf 31 = 7 := by kernel_rfl
theorem cellsSl : Tryz.prog.cellsOf 35 = 1 := by kernel_rfl
theorem bounds {n : Int} (h : (Lit.int .i64 n).wf = true) : -9223372036854775808 ≤ n ∧ n ≤ 9223372036854775807 := by
  have e1 : IntKind.i64.min = -9223372036854775808 := rfl
  have e2 : IntKind.i64.max = 9223372036854775807 := rfl
  simp [Lit.wf, e1, e2] at h
  omega
theorem list_cons {α : Type} {l : List α} {n : Nat} (h : l.length = n + 1) : ∃ a t, l = a :: t ∧ t.length = n := by
  cases l with
  | nil => simp at h
  | cons a t => exact ⟨a, t, rfl, by simpa using h⟩
theorem list_nil {α : Type} {l : List α} (h : l.length = 0) : l = [] := List.length_eq_zero_iff.1 h
theorem trod_struct5 {H : Type} {enc : TypeId × Value → H} {P : Program} {w : World} {base : Nat} {spare : Nat → Bool} {held : Bool} {t : TypeId} {f0 f1 f2 f3 f4 : Field} {fuel : Nat} {cs : List Value} {x : DataW H × List MemPlace} (ht : P.underlying t = some (.struct #[f0, f1, f2, f3, f4])) (h : DataW.trod enc P w base spare held fuel t cs = some x) :
    ∃ (y0 y1 y2 y3 y4 : DataW H × List MemPlace) (n : Nat), cs.length = P.cellsOf t ∧ DataW.trod enc P w base spare held n f0.type ((cs.drop f0.offset).take (P.cellsOf f0.type)) = some y0 ∧ DataW.trod enc P w base spare held n f1.type ((cs.drop f1.offset).take (P.cellsOf f1.type)) = some y1 ∧ DataW.trod enc P w base spare held n f2.type ((cs.drop f2.offset).take (P.cellsOf f2.type)) = some y2 ∧ DataW.trod enc P w base spare held n f3.type ((cs.drop f3.offset).take (P.cellsOf f3.type)) = some y3 ∧ DataW.trod enc P w base spare held n f4.type ((cs.drop f4.offset).take (P.cellsOf f4.type)) = some y4 := by
  obtain ⟨xs, n, _, _, hl, hxl, hf⟩ := DataW.trod_struct ht h
  match xs, hxl with
  | [y0, y1, y2, y3, y4], _ => exact ⟨y0, y1, y2, y3, y4, n, hl, hf 0 f0 rfl, hf 1 f1 rfl, hf 2 f2 rfl, hf 3 f3 rfl, hf 4 f4 rfl⟩
set_option maxRecDepth 100000 in
theorem open_one {H : Type} {enc : TypeId × Value → H} {W : World} {base : Nat} {sp : Nat → Bool} {held : Bool} {n : Nat} {cs : List Value} {x : DataW H × List MemPlace} (h : DataW.trod enc Tryz.prog W base sp held n 29 cs = some x) :
    ∃ v : V, cs = [.int .i64 v.1, .int .i64 v.2.1, .string v.2.2] ∧ Ok64 v ∧ v.2.2.size ≤ maxLen := by
  obtain ⟨y0, y1, y2, n1, _, hl, h0, h1, h2⟩ := trod_struct3 Tryz.underlying29 h
  rw [cellsV] at hl
  match cs, hl with
  | [v0, v1, v2], _ =>
    simp only [cells3, cells9, cells2, List.drop_zero, List.drop_succ_cons, List.take_succ_cons, List.take_zero] at h0 h1 h2
    obtain ⟨k, e0, _, _⟩ := DataW.trod_int Tryz.underlying3 h0
    obtain ⟨m, e1, _, wm⟩ := DataW.trod_int Tryz.underlying2 h1
    obtain ⟨t, e2, _, ht⟩ := DataW.trod_string Tryz.underlying9 h2
    simp at e0 e1 e2
    subst e0 e1 e2
    exact ⟨(k, m, t), rfl, ⟨(bounds wm).1, (bounds wm).2⟩, ht⟩
set_option maxRecDepth 100000 in
theorem open_col {H : Type} {enc : TypeId × Value → H} {W : World} {base : Nat} {sp : Nat → Bool} {held : Bool} {n : Nat} {cs : List Value} {x : DataW H × List MemPlace} (h : DataW.trod enc Tryz.prog W base sp held n 31 cs = some x) :
    ∃ c : Col, cs = C.encC c ∧ c.2.1.size ≤ maxLen ∧ c.2.2.2.2.2.2.size ≤ maxLen := by
  obtain ⟨y0, y1, y2, y3, y4, n1, hl, h0, h1, h2, h3, h4⟩ := trod_struct5 Tryz.underlying31 h
  rw [cellsCol] at hl
  obtain ⟨v0, cs1, rfl, hl1⟩ := list_cons (n := 6) hl
  obtain ⟨v1, cs2, rfl, hl2⟩ := list_cons (n := 5) hl1
  obtain ⟨v2, cs3, rfl, hl3⟩ := list_cons (n := 4) hl2
  obtain ⟨v3, cs4, rfl, hl4⟩ := list_cons (n := 3) hl3
  obtain ⟨v4, cs5, rfl, hl5⟩ := list_cons (n := 2) hl4
  obtain ⟨v5, cs6, rfl, hl6⟩ := list_cons (n := 1) hl5
  obtain ⟨v6, cs7, rfl, hl7⟩ := list_cons (n := 0) hl6
  obtain rfl := list_nil hl7
  simp only [cells3, cells9, cells4, cellsV, List.drop_zero, List.drop_succ_cons, List.take_succ_cons, List.take_zero] at h0 h1 h2 h3 h4
  obtain ⟨a1, e0, _, _⟩ := DataW.trod_int Tryz.underlying3 h0
  obtain ⟨a2, e1, _, m2⟩ := DataW.trod_string Tryz.underlying9 h1
  obtain ⟨a3, e2, _, _⟩ := DataW.trod_int Tryz.underlying3 h2
  obtain ⟨a4, e3, _⟩ := DataW.trod_bool Tryz.underlying4 h3
  obtain ⟨z0, z1, z2, n2, _, _, g0, g1, g2⟩ := trod_struct3 Tryz.underlying29 h4
  simp only [cells3, cells9, cells2, List.drop_zero, List.drop_succ_cons, List.take_succ_cons, List.take_zero] at g0 g1 g2
  obtain ⟨a5, e4, _, _⟩ := DataW.trod_int Tryz.underlying3 g0
  obtain ⟨a6, e5, _, _⟩ := DataW.trod_int Tryz.underlying2 g1
  obtain ⟨a7, e6, _, m7⟩ := DataW.trod_string Tryz.underlying9 g2
  simp at e0 e1 e2 e3 e4 e5 e6
  subst e0 e1 e2 e3 e4 e5 e6
  exact ⟨(a1, a2, a3, a4, a5, a6, a7), rfl, m2, m7⟩

/-- A slice whose elements all open lies as a list of them. -/
theorem open_sle {α : Type} [Inhabited α] {H : Type} {enc : TypeId × Value → H} {W : World} {sp : Nat → Bool} {held : Bool} {fuel k : Nat} {T E : TypeId} {en : α → List Value} {P : α → Prop} {cs : List Value} {x : DataW H × List MemPlace} (hk : 0 < k) (hlen : ∀ x, (en x).length = k) (hT : Tryz.prog.underlying T = some (.slice E)) (hE : Tryz.prog.cellsOf E = k)
    (hel : ∀ {n : Nat} {cs : List Value} {x : DataW H × List MemPlace}, DataW.trod enc Tryz.prog W 0 sp held n E cs = some x → ∃ q, cs = en q ∧ P q)
    (h : DataW.trod enc Tryz.prog W 0 sp held fuel T cs = some x) : ∃ v, cs = [v] ∧ ∃ l : List α, SlE k en W v l ∧ ∀ q ∈ l, P q := by
  rcases open_slice hT h with ⟨hcs, _⟩ | ⟨a, len, cap, m, n, D, Pl, hcs, hb, hl, hm, hmm, hx, hel'⟩
  · exact ⟨_, hcs, [], ⟨_, _, rfl, Nat.zero_le _, fun h => absurd rfl h⟩, fun x hx => by simp at hx⟩
  · refine ⟨_, hcs, ?_⟩
    rcases Nat.eq_zero_or_pos len with rfl | hpos
    · exact ⟨[], ⟨_, _, rfl, Nat.zero_le _, fun h => absurd rfl h⟩, fun x hx => by simp at hx⟩
    · have hlm : len ≤ m := by rw [hmm]; split <;> omega
      have hall : ∀ i, i < len → ∃ q : α, W.cells? 0 (a.add (i * k)) k = some (en q) ∧ P q := fun i hi => by
        obtain ⟨cs', h1, h2⟩ := hel' i (by omega)
        obtain ⟨q, rfl, hq⟩ := hel h2
        rw [hE] at h1
        exact ⟨q, h1, hq⟩
      obtain ⟨Q, hQ⟩ := choose_lt hall
      obtain ⟨bl, ol, spot⟩ := a
      have hspot : spot = none := by
        have := (World.cells?_some (hQ 0 hpos).1).2.2 0 hk
        obtain ⟨u, t, hu⟩ := List.exists_cons_of_length_pos (l := en (Q 0)) (by rw [hlen]; exact hk)
        rw [hu] at this
        simpa [Addr.add] using World.cell?_spot this
      subst hspot
      have cell : ∀ j, j < len → ∀ i, i < k → W.cell? ⟨bl, ol + j * k + i, none⟩ = (en (Q j))[i]? := fun j hj i hi => by
        have := (World.cells?_some (hQ j hj).1).2.2 i hi
        rwa [add_plain, add_plain] at this
      have hll : ((List.range len).map Q).length = len := by simp
      refine ⟨(List.range len).map Q, ⟨some ⟨bl, ol, none⟩, cap, by rw [hll], by rw [hll]; exact hl, fun _ => ⟨bl, ol, rfl, ?_, fun j x hj i u hu => ?_⟩⟩, fun x hx => ?_⟩
      · obtain ⟨u, t, hu⟩ := List.exists_cons_of_length_pos (l := en (Q 0)) (by rw [hlen]; exact hk)
        exact block_lt_of_cell ((cell 0 hpos 0 hk).trans (by rw [hu]; rfl))
      · have hj2 : j < len := by have := lt_of_some hj; rwa [hll] at this
        have hx : x = Q j := by
          rw [List.getElem?_map, List.getElem?_range hj2] at hj
          exact (Option.some.inj hj).symm
        subst hx
        have hi : i < k := by have := lt_of_some hu; rwa [hlen] at this
        rw [cell j hj2 i hi, hu]
      · simp only [List.mem_map, List.mem_range] at hx
        obtain ⟨j, hj, rfl⟩ := hx
        exact (hQ j hj).2
def encV3 (v : V) : List Value := [.int .i64 v.1, .int .i64 v.2.1, .string v.2.2]
theorem sl_of_e {w : World} {v : Value} {l : List V} (h : SlE 3 encV3 w v l) : E.Sl w v l := by
  obtain ⟨a, c, e, hc, hl⟩ := h
  refine ⟨a, c, e, hc, fun hn => ?_⟩
  obtain ⟨b, off, ea, hb, hcell⟩ := hl hn
  exact ⟨b, off, ea, hb, fun j x hx => ⟨hcell j x hx 0 _ rfl, hcell j x hx 1 _ rfl, hcell j x hx 2 _ rfl⟩⟩
set_option maxRecDepth 100000 in
theorem open_cols {H : Type} {enc : TypeId × Value → H} {W : World} {b0 : Nat} {v : Value} {d : DataW H} {p : List MemPlace} (hv : Value.okWide Tryz.prog W .any b0 22 v) (h : DataW.Trod enc Tryz.prog W 0 (fun _ => true) true 22 v d p) :
    ∃ l : List Col, SlE 7 C.encC W v l ∧ ∀ c ∈ l, c.2.1.size ≤ maxLen ∧ c.2.2.2.2.2.2.size ≤ maxLen := by
  obtain ⟨a0, len, cap, rfl⟩ := okWide_slice Tryz.underlying22 hv
  obtain ⟨fuel, hf⟩ := h
  obtain ⟨v', e, l, hl, hp⟩ := open_sle (k := 7) (en := C.encC) (P := fun c : Col => c.2.1.size ≤ maxLen ∧ c.2.2.2.2.2.2.size ≤ maxLen) (by decide) (fun _ => rfl) Tryz.underlying22 cellsCol (fun h => open_col h) hf
  have e' : v' = .slice a0 len cap := by simpa [Value.cells] using e.symm
  subst e'
  exact ⟨l, hl, hp⟩
set_option maxRecDepth 100000 in
theorem open_rows {H : Type} {enc : TypeId × Value → H} {W : World} {b0 : Nat} {v : Value} {d : DataW H} {p : List MemPlace} (hv : Value.okWide Tryz.prog W .any b0 23 v) (h : DataW.Trod enc Tryz.prog W 0 (fun _ => true) true 23 v d p) :
    ∃ l : List (List V), SlR W v l ∧ ∀ r ∈ l, ∀ x ∈ r, Ok64 x ∧ x.2.2.size ≤ maxLen := by
  obtain ⟨a0, len, cap, rfl⟩ := okWide_slice Tryz.underlying23 hv
  obtain ⟨fuel, hf⟩ := h
  obtain ⟨v', e, l, hl, hp⟩ := open_sle (α := Value × List V) (k := 1) (en := fun q => [q.1]) (P := fun q => E.Sl W q.1 q.2 ∧ ∀ x ∈ q.2, Ok64 x ∧ x.2.2.size ≤ maxLen) (by decide) (fun _ => rfl) Tryz.underlying23 cellsSl (fun h => by
    obtain ⟨u, e, r, hr, hq⟩ := open_sle (k := 3) (en := encV3) (P := fun x : V => Ok64 x ∧ x.2.2.size ≤ maxLen) (by decide) (fun _ => rfl) Tryz.underlying35 cellsV (fun h => open_one h) h
    exact ⟨(u, r), e, sl_of_e hr, hq⟩) hf
  have e' : v' = .slice a0 len cap := by simpa [Value.cells] using e.symm
  subst e'
  obtain ⟨a, c, ea, hc, hcell⟩ := hl
  refine ⟨l.map (·.2), ⟨l.map (·.1), ⟨a, c, by rw [List.length_map]; exact ea, by rw [List.length_map]; exact hc, fun hn => ?_⟩, by simp, fun j x r hx hr => ?_⟩, fun r hr => ?_⟩
  · obtain ⟨b, off, e1, hb, hcc⟩ := hcell (by intro h0; exact hn (by rw [h0]; rfl))
    refine ⟨b, off, e1, hb, fun j x hx i u hu => ?_⟩
    rw [List.getElem?_map] at hx
    obtain ⟨q, hq, rfl⟩ := Option.map_eq_some_iff.1 hx
    exact hcc j q hq i u hu
  · rw [List.getElem?_map] at hx hr
    obtain ⟨q, hq, rfl⟩ := Option.map_eq_some_iff.1 hx
    rw [hq] at hr
    simp at hr
    subst hr
    exact (hp q (List.mem_of_getElem? hq)).1
  · obtain ⟨q, hq, rfl⟩ := List.mem_map.1 hr
    exact (hp q hq).2
end Go.Proofs.YtlnkbhbpkmnkaaaGreatDoor.F
namespace Go.Proofs.YtlnkbhbpkmnkaaaGreatDoor.F
open Go.RowKit Go.Proofs Go.Shelf Go.Joins

theorem own_forms {w : World} {base : Nat} {e : TypeId} {size : Nat} {v : Value} {n : Nat} {xs : List Value} (h : w.ownsRow base e size v n xs) : (v = .slice none 0 0 ∧ n = 0) ∨ ∃ g c, v = .slice (some ⟨g, 0, none⟩) n c ∧ base ≤ g ∧ g < w.heap.size ∧ n ≤ c ∧ c ≤ maxLen := by
  rcases h.2 with ⟨h1, h2⟩ | ⟨g, c, cur, hv, hb, hg, h1, h2, _⟩
  · exact .inl ⟨h1, h2⟩
  · exact .inr ⟨g, c, hv, hb, E.blk_lt hg, h1, h2⟩
theorem own_slice {w : World} {base : Nat} {e : TypeId} {z : Nat} {v : Value} {n : Nat} {xs : List Value} (h : w.ownsRow base e z v n xs) : ∃ a c, v = .slice a n c ∧ n ≤ c := by
  rcases own_forms h with ⟨h1, h2⟩ | ⟨g, c, h1, _, _, h2, _⟩
  · subst h2; exact ⟨none, 0, h1, Nat.le_refl _⟩
  · exact ⟨_, c, h1, h2⟩
set_option maxHeartbeats 4000000 in
theorem same1_any (v1 v2 : Value) (r : List V) (w : World) (h1 : E.Sl w v1 r) (h2 : E.Sl w v2 r) (hr : r.length ≤ 1000) :
    Calls Tryz.prog 31 #[v1, v2] w fun e w' => e = .returned (.bool true) ∧ Below w.heap.size w w' := by
  have HE := mkH (E.equal_any v1 v2 r r w h1 h2 hr hr)
  rw [decide_eq_true rfl] at HE
  clear h1 h2
  go_enter Tryz.func31, Tryz.ntmps31
  go_wp2_with fail
  refine HE.out.mono ?_
  rintro e w1 ⟨rfl, hb⟩
  go_wp2
  go_ret
  exact ⟨rfl, hb⟩
set_option maxHeartbeats 4000000 in
set_option maxRecDepth 100000 in
theorem equalR_any (v1 v2 : Value) (l : List (List V)) (w : World) (h1 : SlR w v1 l) (h2 : SlR w v2 l) (hl : l.length ≤ 1000000) (hr : ∀ r ∈ l, r.length ≤ 1000) :
    Calls Tryz.prog 30 #[v1, v2, .func (.func 31) #[] #[]] w fun e w' => e = .returned (.bool true) ∧ Below w.heap.size w w' := by
  have H1 := mkH h1
  have H2 := mkH h2
  have HR := mkH hr
  obtain ⟨a1, c1, rfl, _⟩ := h1.slice
  obtain ⟨a2, c2, rfl, _⟩ := h2.slice
  clear h1 h2 hr
  go_enter Tryz.func30, Tryz.ntmps30
  go_wp2
  go_loopw [17] (fun vi wr => ∃ k : Nat, k ≤ l.length ∧ vi = .int .i64 k ∧ Hid (Below w.heap.size w wr)) (fun vi _ => l.length - (intOf vi).toNat)
  case atStart => exact ⟨0, Nat.zero_le _, rfl, mkH (Below.refl _ _)⟩
  case round =>
    obtain ⟨k, hk, rfl, hbR⟩ := hrel
    by_cases hlt : k < l.length
    · obtain ⟨r, hr⟩ : ∃ r, l[k]? = some r := ⟨_, List.getElem?_eq_getElem hlt⟩
      obtain ⟨b1, o1, d1, x1, e1, _, p1, s1⟩ := (H1.out.up hbR.out).at hr
      obtain ⟨b2, o2, d2, x2, e2, _, p2, s2⟩ := (H2.out.up hbR.out).at hr
      injection e1 with e11 _ e13
      injection e2 with e21 _ e23
      subst e11 e13 e21 e23
      have HSM := mkH (same1_any x1 x2 r wr s1 s2 (HR.out r (List.mem_of_getElem? hr)))
      obtain ⟨xa, xc, rfl, _⟩ := id s1
      obtain ⟨ya, yc, rfl, _⟩ := id s2
      have hkn : (k : Int) < (l.length : Int) := by omega
      clear hr s1 s2
      go_wp2_with fail
      refine HSM.out.mono ?_
      rintro e w1 ⟨rfl, hb1⟩
      have hbf := ups hbR.out hb1
      go_wp2
      exact ⟨⟨k + 1, by omega, by go_num, mkH hbf⟩, by simp [intOf]; omega⟩
    · have hkn : ¬ (k : Int) < (l.length : Int) := by omega
      go_wp2
      go_ret
      exact ⟨rfl, hbR.out⟩
set_option maxHeartbeats 4000000 in
theorem keepSame_any (v1 v2 : Value) (l : List (List V)) (w : World) (h1 : SlR w v1 l) (h2 : SlR w v2 l) (hl : l.length ≤ 1000000) (hr : ∀ r ∈ l, r.length ≤ 1000) :
    Calls Tryz.prog 14 #[v1, v2] w fun e w' => e = .returned (.bool true) ∧ Below w.heap.size w w' := by
  have HE := mkH (equalR_any v1 v2 l w h1 h2 hl hr)
  clear h1 h2 hr hl
  go_enter Tryz.func14, Tryz.ntmps14
  go_wp2_with fail
  refine HE.out.mono ?_
  rintro e w1 ⟨rfl, hb⟩
  go_wp2
  go_ret
  exact ⟨rfl, hb⟩
/-- Who does the how many-th. -/
def nmB (i : Nat) : ByteArray := ⟨#[116, UInt8.ofNat (97 + i % 26), UInt8.ofNat (97 + i / 26 % 26)]⟩
theorem u8_back {x : Nat} (h : x < 256) : ((UInt8.ofNat x).toNat : Int) = (x : Int) := by
  rw [UInt8.toNat_ofNat']
  omega
theorem convN (i : Nat) (w : World) : (convert 41 9 (.slice (some ⟨w.heap.size, 0, none⟩) 2 2)).run Tryz.prog (w.alloc (.cells #[.int .u8 (97 + (i : Int) % 26), .int .u8 (97 + (i : Int) / 26 % 26)] 5)) = .ok (.string ⟨#[UInt8.ofNat (97 + i % 26), UInt8.ofNat (97 + i / 26 % 26)]⟩) (w.alloc (.cells #[.int .u8 (97 + (i : Int) % 26), .int .u8 (97 + (i : Int) / 26 % 26)] 5)) :=
  run_convert_bytes_back _ 41 9 5 ⟨w.heap.size, 0, none⟩ 2 [UInt8.ofNat (97 + i % 26), UInt8.ofNat (97 + i / 26 % 26)] Tryz.underlying41 Tryz.underlying5 Tryz.underlying9 (fun j hj => by
    have h1 := u8_back (x := 97 + i % 26) (by omega)
    have h2 := u8_back (x := 97 + i / 26 % 26) (by omega)
    match j, hj with
    | 0, _ => simp [Addr.add, World.cell?_alloc_at]; push_cast at h1; omega
    | 1, _ => simp [Addr.add, World.cell?_alloc_at]; push_cast at h2; omega)
/-- No two of them are called the same. -/
theorem nmB_inj {i j : Nat} (hi : i < 676) (hj : j < 676) (h : nmB i = nmB j) : i = j := by
  unfold nmB at h
  have h' := congrArg ByteArray.data h
  have h'' := congrArg Array.toList h'
  simp only [List.cons.injEq, and_true, true_and] at h''
  have e1 := congrArg UInt8.toNat h''.1
  have e2 := congrArg UInt8.toNat h''.2
  rw [UInt8.toNat_ofNat', UInt8.toNat_ofNat'] at e1 e2
  omega
end Go.Proofs.YtlnkbhbpkmnkaaaGreatDoor.F
