/- What the list of the rows QueryParts and QueryOrders gives: the two lists of words, the marks, the two errors of package strconv, the handle of the type error. -/
import Derived.Test.YtlnkbhbpkmnkaaaGreatDoorCards
import Derived.Test.YtlnkbhbpkmnkaaaGreatDoorTie
import Derived.Test.YtlnkbhbpkmnkaaaGreatDoorYUn
import Derived.OpenShut
import Derived.Lib.SmallJoins
import Derived.Deep.DeepHandedRow
import Derived.Lib.LaidTab
import Derived.LaidMore
import Derived.Lay
import Derived.MakeChecks
import Derived.LaidHandle
import Derived.Stop.LaidErr
namespace Go.Proofs.YtlnkbhbpkmnkaaaGreatDoor.qcard
open Go.ChangeShapes Go.WideShapes Go.ChangeAt Go.RowKit Go.Joins Go.Proofs Go.Proofs.YtlnkbhbpkmnkaaaGreatDoor.Ask
open Go.ChangeMaps (open_string shut_string)

theorem own : ownKnob Tryz.prog.godebug = none := by kernel_rfl
theorem laidOut : laidOutB Tryz.prog = true := by kernel_rfl
theorem gNc : Tryz.prog.globalNamed "millpond/schema.notColumns" = some 3 := by kernel_rfl
theorem gNcType : (Tryz.prog.globals[3]?).map (·.type) = some 215 := by kernel_rfl
theorem cells5 : Tryz.prog.cellsOf 215 = 5 := by kernel_rfl
theorem gNn : Tryz.prog.globalNamed "millpond/ask.notNames" = some 2 := by kernel_rfl
theorem gNnType : (Tryz.prog.globals[2]?).map (·.type) = some 208 := by kernel_rfl
theorem cells11 : Tryz.prog.cellsOf 208 = 11 := by kernel_rfl
theorem size9 : Tryz.prog.cellsOf 9 = 1 := by kernel_rfl
theorem sizeI : Tryz.prog.cellsOf 3 = 1 := by kernel_rfl
theorem gMk : Tryz.prog.globalNamed "millpond/ask.marks" = some 1 := by kernel_rfl
theorem gMkType : (Tryz.prog.globals[1]?).map (·.type) = some 206 := by kernel_rfl
theorem cellsS : Tryz.prog.cellsOf 205 = 2 := by kernel_rfl
theorem cellsM : Tryz.prog.cellsOf 206 = 20 := by kernel_rfl
/-- The row's variables but for the handle. -/
def dataL : List (String × DataW Unit) := [("math/bits.deBruijn32tab", Rows.laid_math_bits_deBruijn32tab), ("math/bits.deBruijn64tab", Rows.laid_math_bits_deBruijn64tab), ("internal/strconv.uint64pow10", Rows.laid_internal_strconv_uint64pow10), ("strconv.ErrRange", Rows.laid_strconv_ErrRange), ("strconv.ErrSyntax", Rows.laid_strconv_ErrSyntax), ("millpond/schema.notColumns", Rows.laid_millpond_schema_notColumns), ("millpond/ask.notNames", Rows.laid_millpond_ask_notNames), ("millpond/ask.marks", Rows.laid_millpond_ask_marks)]
theorem gEt : Tryz.prog.globalNamed "errors.errorType" = some 0 := by kernel_rfl
theorem rt : (Tryz.prog.cutTypes.find? (·.1 == "internal/reflectlite.rtype")).map (·.2) = some 217 := by kernel_rfl
theorem tsize : Tryz.prog.types.size + 100 = 403 := by kernel_rfl
theorem oneRow : ((List.range (403 - 100)).filter fun t => Tryz.prog.rowNamed t [101, 114, 114, 111, 114]) = [51] := by kernel_rfl
/-- The handle of the type error. -/
theorem handle {W : World} (h : handlesMet Tryz.prog [("errors.errorType", Rows.laid_errors_errorType)] W) : C.EtB W := by
  obtain ⟨name, u, ty, e1, e2, e3, e4, e5⟩ := h _ (List.mem_singleton.2 rfl)
  have en : name = [101, 114, 114, 111, 114] := (Option.some.inj e1).symm
  subst en
  obtain rfl := Option.some.inj (rt.symm.trans e2)
  have hm : ty ∈ (List.range (403 - 100)).filter fun t => Tryz.prog.rowNamed t [101, 114, 114, 111, 114] := List.mem_filter.2 ⟨List.mem_range.2 (by have := tsize; omega), e4⟩
  rw [oneRow] at hm
  obtain rfl := List.mem_singleton.1 hm
  have hh : typeHandle Tryz.prog 51 = .pointer (some ⟨10, 51, none⟩) := by kernel_rfl
  rw [hh] at e5
  exact World.var?_cell gEt e5 0
/-- An array of texts that reads as a list of texts holds them, cell for cell. -/
theorem cells_of_strs {H : Type} {enc : TypeId × Value → H} {P : Program} {w : World} {base : Nat} {sp : Nat → Bool} {held : Bool} {fuel : Nat} {t e : TypeId} {n : Nat} {cs : List Value} {zs : List (List UInt8)} {p : List MemPlace}
    (ht : P.underlying t = some (.array n e)) (he : P.underlying e = some .string) (hce : P.cellsOf e = 1) (hct : P.cellsOf t = n)
    (h : DataW.trod enc P w base sp held fuel t cs = some (DataW.agg (zs.map fun z => DataW.lit (Lit.string z)), p)) : ∀ (i : Nat) (z : List UInt8), zs[i]? = some z → cs[i]? = some (Value.string ⟨z.toArray⟩) := by
  cases fuel with
  | zero => simp [DataW.trod] at h
  | succ fuel =>
    simp only [DataW.trod, ht, hce, hct, Nat.mul_one] at h
    split at h
    · rename_i hl
      obtain ⟨xs, hm, hx⟩ := Option.map_eq_some_iff.1 h
      have hxs : xs.map (·.1) = zs.map fun z => (DataW.lit (.string z) : DataW H) := by
        have := congrArg Prod.fst hx
        simpa using this
      have hxl : xs.length = n := by simpa using Lib.mapM_length hm
      have hzl : zs.length = n := by
        have := congrArg List.length hxs
        simp at this
        omega
      intro i z hz
      have hi : i < n := by
        rcases Nat.lt_or_ge i n with h' | h'
        · exact h'
        · rw [List.getElem?_eq_none (by omega)] at hz; cases hz
      obtain ⟨b, hb, hf⟩ := Lib.mapM_at hm i i (by simp [hi])
      obtain ⟨s, hc, rfl, _⟩ := DataW.trod_string he hf
      have h1 : cs[i]? = some (.string s) := by
        have := congrArg (·[0]?) hc
        simpa [List.getElem?_take, List.getElem?_drop] using this
      have h2 : (xs.map (·.1))[i]? = some (DataW.lit (.string s.data.toList) : DataW H) := by simp [hb]
      rw [hxs, List.getElem?_map, hz] at h2
      simp only [Option.map_some, Option.some.injEq, DataW.lit.injEq, Lit.string.injEq] at h2
      rw [h1, h2]
    · cases h

/-- The words that are no columns. -/
theorem words {W : World} (h : laidMet Tryz.prog dataL W) : C.NcB W := by
  obtain ⟨ps, ⟨g', t', cs, fuel, p, q, hg', ht', hvar, hd, _, _⟩, _⟩ := laidMet.tail (laidMet.tail (laidMet.tail (laidMet.tail (laidMet.tail h))))
  obtain rfl := Option.some.inj (gNc.symm.trans hg')
  obtain rfl := Option.some.inj (gNcType.symm.trans ht')
  have hc := cells_of_strs (zs := [[97, 110, 100], [105, 115], [110, 111, 116], [110, 117, 108, 108], [111, 114]]) Tryz.underlying215 Tryz.underlying9 size9 cells5 hd
  have hcell : ∀ (i : Nat) (z : List UInt8), ([[97, 110, 100], [105, 115], [110, 111, 116], [110, 117, 108, 108], [111, 114]] : List (List UInt8))[i]? = some z → W.cell? ⟨3, i, none⟩ = some (Value.string ⟨z.toArray⟩) := fun i z hz => by
    have h1 := World.var?_cell gNc hvar i
    have h2 := hc i z hz
    rw [h1]
    simpa using h2
  exact ⟨hcell 0 _ rfl, hcell 1 _ rfl, hcell 2 _ rfl, hcell 3 _ rfl, hcell 4 _ rfl⟩
/-- The words that are no names. -/
theorem names {W : World} (h : laidMet Tryz.prog dataL W) : NnB W := by
  obtain ⟨ps, ⟨g', t', cs, fuel, p, q, hg', ht', hvar, hd, _, _⟩, _⟩ := laidMet.tail (laidMet.tail (laidMet.tail (laidMet.tail (laidMet.tail (laidMet.tail h)))))
  obtain rfl := Option.some.inj (gNn.symm.trans hg')
  obtain rfl := Option.some.inj (gNnType.symm.trans ht')
  have hc := cells_of_strs (zs := [[97, 110, 100], [105, 115], [110, 111, 116], [110, 117, 108, 108], [111, 114], [98, 121], [100, 101, 115, 99], [108, 105, 109, 105, 116], [111, 114, 100, 101, 114], [115, 101, 108, 101, 99, 116], [119, 104, 101, 114, 101]]) Tryz.underlying208 Tryz.underlying9 size9 cells11 hd
  have hcell : ∀ (i : Nat) (z : List UInt8), ([[97, 110, 100], [105, 115], [110, 111, 116], [110, 117, 108, 108], [111, 114], [98, 121], [100, 101, 115, 99], [108, 105, 109, 105, 116], [111, 114, 100, 101, 114], [115, 101, 108, 101, 99, 116], [119, 104, 101, 114, 101]] : List (List UInt8))[i]? = some z → W.cell? ⟨2, i, none⟩ = some (Value.string ⟨z.toArray⟩) := fun i z hz => by
    have h1 := World.var?_cell gNn hvar i
    have h2 := hc i z hz
    rw [h1]
    simpa using h2
  exact ⟨hcell 0 _ rfl, hcell 1 _ rfl, hcell 2 _ rfl, hcell 3 _ rfl, hcell 4 _ rfl, hcell 5 _ rfl, hcell 6 _ rfl, hcell 7 _ rfl, hcell 8 _ rfl, hcell 9 _ rfl, hcell 10 _ rfl⟩
set_option maxRecDepth 100000 in
/-- A sign that reads as a text and a number lies in two cells. -/
theorem cells_of_sign {H : Type} {enc : TypeId × Value → H} {w : World} {base : Nat} {sp : Nat → Bool} {held : Bool} {fuel : Nat} {cs : List Value} {z : List UInt8} {n : Int} {p : List MemPlace}
    (h : DataW.trod enc Tryz.prog w base sp held fuel 205 cs = some (DataW.agg [DataW.lit (Lit.string z), DataW.lit (Lit.int .i64 n)], p)) : cs = [.string ⟨z.toArray⟩, .int .i64 n] := by
  cases fuel with
  | zero => simp [DataW.trod] at h
  | succ fuel =>
    simp only [DataW.trod, Tryz.underlying205, cellsS] at h
    split at h
    · rename_i hl
      obtain ⟨xs, hm, hx⟩ := Option.map_eq_some_iff.1 h
      obtain ⟨b0, q0, f0⟩ := Lib.mapM_at hm 0 _ rfl
      obtain ⟨b1, q1, f1⟩ := Lib.mapM_at hm 1 _ rfl
      simp only [size9, sizeI] at f0 f1
      obtain ⟨s, e0, rfl, _⟩ := DataW.trod_string Tryz.underlying9 f0
      obtain ⟨m, e1, rfl, _⟩ := DataW.trod_int Tryz.underlying3 f1
      have hxs : xs.map (·.1) = [DataW.lit (Lit.string z), DataW.lit (Lit.int .i64 n)] := by
        have := congrArg Prod.fst hx
        simpa using this
      have g0 : (xs.map (·.1))[0]? = some (DataW.lit (Lit.string s.data.toList)) := by simp [q0]
      have g1 : (xs.map (·.1))[1]? = some (DataW.lit (Lit.int .i64 m)) := by simp [q1]
      rw [hxs] at g0 g1
      simp at g0 g1
      match cs, hl, e0, e1 with
      | [a, b], _, e0, e1 =>
        simp at e0 e1
        rw [e0, e1, g0, g1]
    · cases h
set_option maxRecDepth 100000 in
theorem cells_of_signs {H : Type} {enc : TypeId × Value → H} {w : World} {base : Nat} {sp : Nat → Bool} {held : Bool} {fuel : Nat} {cs : List Value} {zs : List (List UInt8 × Int)} {p : List MemPlace}
    (h : DataW.trod enc Tryz.prog w base sp held fuel 206 cs = some (DataW.agg (zs.map fun z => DataW.agg [DataW.lit (Lit.string z.1), DataW.lit (Lit.int .i64 z.2)]), p)) : cs.length = 20 ∧ ∀ (i : Nat) (z : List UInt8 × Int), zs[i]? = some z → cs[i * 2]? = some (Value.string ⟨z.1.toArray⟩) ∧ cs[i * 2 + 1]? = some (Value.int .i64 z.2) := by
  cases fuel with
  | zero => simp [DataW.trod] at h
  | succ fuel =>
    simp only [DataW.trod, Tryz.underlying206, cellsS, cellsM] at h
    split at h
    · rename_i hl
      refine ⟨hl, ?_⟩
      obtain ⟨xs, hm, hx⟩ := Option.map_eq_some_iff.1 h
      have hxs : xs.map (·.1) = zs.map fun z => (DataW.agg [DataW.lit (Lit.string z.1), DataW.lit (Lit.int .i64 z.2)] : DataW H) := by
        have := congrArg Prod.fst hx
        simpa using this
      have hxl : xs.length = 10 := by simpa using Lib.mapM_length hm
      have hzl : zs.length = 10 := by
        have := congrArg List.length hxs
        simp at this
        omega
      intro i z hz
      have hi : i < 10 := by
        rcases Nat.lt_or_ge i 10 with h' | h'
        · exact h'
        · rw [List.getElem?_eq_none (by omega)] at hz; cases hz
      obtain ⟨b, hb, hf⟩ := Lib.mapM_at hm i i (by simp [hi])
      have h2 : (xs.map (·.1))[i]? = some b.1 := by simp [hb]
      rw [hxs, List.getElem?_map, hz] at h2
      simp only [Option.map_some, Option.some.injEq] at h2
      have hf' : DataW.trod enc Tryz.prog w base sp held fuel 205 ((cs.drop (i * 2)).take 2) = some (DataW.agg [DataW.lit (Lit.string z.1), DataW.lit (Lit.int .i64 z.2)], b.2) := by
        rw [hf, h2]
      have hc := cells_of_sign hf'
      have g0 := congrArg (·[0]?) hc
      have g1 := congrArg (·[1]?) hc
      simp [List.getElem?_drop] at g0 g1
      exact ⟨g0, g1⟩
    · cases h
/-- .. the marks. -/
theorem signs {W : World} (h : laidMet Tryz.prog dataL W) : MkB W := by
  obtain ⟨ps, ⟨g', t', cs, fuel, p, q, hg', ht', hvar, hd, _, _⟩, _⟩ := laidMet.tail (laidMet.tail (laidMet.tail (laidMet.tail (laidMet.tail (laidMet.tail (laidMet.tail h))))))
  obtain rfl := Option.some.inj (gMk.symm.trans hg')
  obtain rfl := Option.some.inj (gMkType.symm.trans ht')
  obtain ⟨hl, hc⟩ := cells_of_signs (zs := [([60, 62], 2), ([60, 61], 4), ([62, 61], 6), ([61], 1), ([60], 3), ([62], 5), ([40], 0), ([41], 0), ([44], 0), ([42], 0)]) hd
  have he : cs = mksA := by
    apply Array.ext'
    apply List.ext_getElem?
    intro i
    match i with
    | 0 => exact (hc 0 _ rfl).1
    | 1 => exact (hc 0 _ rfl).2
    | 2 => exact (hc 1 _ rfl).1
    | 3 => exact (hc 1 _ rfl).2
    | 4 => exact (hc 2 _ rfl).1
    | 5 => exact (hc 2 _ rfl).2
    | 6 => exact (hc 3 _ rfl).1
    | 7 => exact (hc 3 _ rfl).2
    | 8 => exact (hc 4 _ rfl).1
    | 9 => exact (hc 4 _ rfl).2
    | 10 => exact (hc 5 _ rfl).1
    | 11 => exact (hc 5 _ rfl).2
    | 12 => exact (hc 6 _ rfl).1
    | 13 => exact (hc 6 _ rfl).2
    | 14 => exact (hc 7 _ rfl).1
    | 15 => exact (hc 7 _ rfl).2
    | 16 => exact (hc 8 _ rfl).1
    | 17 => exact (hc 8 _ rfl).2
    | 18 => exact (hc 9 _ rfl).1
    | 19 => exact (hc 9 _ rfl).2
    | i + 20 => rw [List.getElem?_eq_none (by omega), List.getElem?_eq_none (by simp [mksA])]
  subst he
  simp only [World.var?, gMk, Option.bind_some] at hvar
  split at hvar
  · rename_i c t fr hk
    cases hvar
    exact ⟨t, fr, hk⟩
  · cases hvar
theorem gEr : Tryz.prog.globalNamed "strconv.ErrRange" = some 5 := by kernel_rfl
theorem gErType : (Tryz.prog.globals[5]?).map (·.type) = some 51 := by kernel_rfl
theorem gEs : Tryz.prog.globalNamed "strconv.ErrSyntax" = some 4 := by kernel_rfl
theorem gEsType : (Tryz.prog.globals[4]?).map (·.type) = some 51 := by kernel_rfl
theorem star : "*" ++ "errors.errorString" = "*errors.errorString" := by decide
theorem errRow (u : TypeId) (h : Tryz.prog.typeName? 3 u = some "*errors.errorString") : u = 262 :=
  typeName_ptr_named (nm := "errors.errorString") (by rw [star]; kernel_rfl) (by kernel_rfl) (by decide) u (by rw [star]; exact h)
/-- .. the two errors of package strconv. -/
theorem sentinels {W : World} (h : laidMet Tryz.prog dataL W) : ErrB W := by
  have h4 := laidMet.tail (laidMet.tail (laidMet.tail h))
  obtain ⟨a1, s1, hv1, _⟩ := laid_sentinel (tp := 262) (te := 264) (ts := 9) h4 gEr gErType Tryz.underlying51 errRow Tryz.underlying262 Tryz.underlying264 rfl rfl Tryz.underlying9 (by kernel_rfl) (by kernel_rfl)
  obtain ⟨a2, s2, hv2, _⟩ := laid_sentinel (tp := 262) (te := 264) (ts := 9) (laidMet.tail h4) gEs gEsType Tryz.underlying51 errRow Tryz.underlying262 Tryz.underlying264 rfl rfl Tryz.underlying9 (by kernel_rfl) (by kernel_rfl)
  exact ⟨⟨_, _, by simpa using World.var?_cell gEs hv2 0⟩, _, _, by simpa using World.var?_cell gEr hv1 0⟩
theorem laidMet_from {P : Program} {w0 : World} {laid : List (String × DataW Unit)} (args : Array Value) (hf : w0.layFits P laid [] = true) (hi : w0.layIfaces P laid (w0.layVars P laid) = true) : laidMet P laid ((w0.layVars P laid).forCall (fun _ _ => 0) ⟨#[], args, []⟩).memory := by
  have e1 : (laid.filter fun x => (laid.map (·.1)).contains x.1) = laid := List.filter_eq_self.2 fun x hx => List.contains_iff_mem.2 (List.mem_map.2 ⟨x, hx, rfl⟩)
  have e2 : (laid.filter fun x => !(laid.map (·.1)).contains x.1) = [] := List.filter_eq_nil_iff.2 fun x hx => by rw [List.contains_iff_mem.2 (List.mem_map.2 ⟨x, hx, rfl⟩)]; simp
  have h : laidMet P laid (w0.layVars P laid) := laidMet_layVars (w0 := w0) (laid.map (·.1)) [] (by rw [e1]) (by rw [e1]; exact hf) (by rw [e1]; exact hi) (by rw [e2]; exact LaidIn.none)
  exact h.of_heap (by simp [World.memory, World.forCall, Input.heap])
/-- A heap with the handle in its place. -/
noncomputable def w00 (os : Os) : World := (World.holding Tryz.prog os ⟨#[], #[], []⟩).setCell ⟨0, 0, none⟩ (.iface 217 (.agg #[.pointer (some ⟨10, 51, none⟩)]))
noncomputable def wit (os : Os) : World := (w00 os).layVars Tryz.prog dataL
theorem wit_os (os : Os) : (wit os).os = os := World.layVars_os _ _ _
theorem gLast : Tryz.prog.globalNamed "math/bits.deBruijn64tab" = some 9 := by kernel_rfl
/-- All the program's variables are there. -/
theorem big {W : World} (h : laidMet Tryz.prog dataL W) : 10 ≤ W.heap.size := by
  obtain ⟨ps, ⟨g', t', cs, fuel, p, q, hg', ht', hvar, hd, _, _⟩, _⟩ := laidMet.tail h
  simp only [World.var?, gLast, Option.bind_some] at hvar
  split at hvar
  · rename_i c t fr hk
    have := (Array.getElem?_eq_some_iff.mp hk).1
    omega
  · cases hvar
end Go.Proofs.YtlnkbhbpkmnkaaaGreatDoor.qcard
