/- WHAT IS WRITTEN ASKS JUST WHAT IT ASKED, proved: at every text and every two values millpondkeep.AskBack returns true and leaves its arguments as they were, over this commit's program; its condition: the program's lists of words that are no names and of marks, the library's tables and the two errors of its package strconv start as the program's own text lays them. -/
import Derived.Test.YtfokdpddcgaafaaGreatDoorCards
import Derived.Test.YtfokdpddcgaafaaGreatDoorTie
import Derived.Test.YtfokdpddcgaafaaGreatDoorBF
import Derived.OpenShut
import Derived.Lib.SmallJoins
import Derived.Deep.DeepHandedRow
import Derived.Lib.LaidTab
import Derived.LaidMore
import Derived.Lay
import Derived.MakeChecks
import Derived.LaidHandle
import Derived.Stop.LaidErr
namespace Go.Proofs.YtfokdpddcgaafaaGreatDoor.askBack
open Go.ChangeShapes Go.WideShapes Go.ChangeAt Go.RowKit Go.Joins Go.Proofs
open Go.ChangeMaps (open_string shut_string)

theorem own : ownKnob Tryz.prog.godebug = none := by kernel_rfl
theorem laidOut : laidOutB Tryz.prog = true := by kernel_rfl
theorem gNc : Tryz.prog.globalNamed "millpond/ask.notNames" = some 5 := by kernel_rfl
theorem gNcType : (Tryz.prog.globals[5]?).map (·.type) = some 130 := by kernel_rfl
theorem gPw : Tryz.prog.globalNamed "internal/strconv.uint64pow10" = some 4 := by kernel_rfl
theorem gPwType : (Tryz.prog.globals[4]?).map (·.type) = some 126 := by kernel_rfl
theorem cells11 : Tryz.prog.cellsOf 130 = 11 := by kernel_rfl
theorem cells20 : Tryz.prog.cellsOf 126 = 20 := by kernel_rfl
theorem size9 : Tryz.prog.cellsOf 9 = 1 := by kernel_rfl
theorem sizeI : Tryz.prog.cellsOf 3 = 1 := by kernel_rfl
theorem cellsV : Tryz.prog.cellsOf 23 = 3 := by kernel_rfl
theorem gMk : Tryz.prog.globalNamed "millpond/ask.marks" = some 0 := by kernel_rfl
theorem gMkType : (Tryz.prog.globals[0]?).map (·.type) = some 87 := by kernel_rfl
theorem cellsS : Tryz.prog.cellsOf 86 = 2 := by kernel_rfl
theorem cellsM : Tryz.prog.cellsOf 87 = 20 := by kernel_rfl
theorem cellsU : Tryz.prog.cellsOf 116 = 1 := by kernel_rfl

/-- An array of texts that reads as a list of texts holds them, cell for cell. -/
theorem cells_of_strs {H : Type} {enc : TypeId × Value → H} {P : Program} {w : World} {base : Nat} {sp : Nat → Bool} {held : Bool} {fuel : Nat} {t e : TypeId} {n : Nat} {cs : List Value} {zs : List (List UInt8)} {p : List MemPlace}
    (ht : P.underlying t = some (.array n e)) (he : P.underlying e = some .string) (hce : P.cellsOf e = 1) (hct : P.cellsOf t = n)
    (h : DataW.trod enc P w base sp held fuel t cs = some (DataW.agg (zs.map fun z => DataW.lit (Lit.string z)), p)) : ∀ (i : Nat) (z : List UInt8), zs[i]? = some z → cs[i]? = some (Value.string ⟨z.toArray⟩) := by
  cases fuel with
  | zero => simp [DataW.trod] at h
  | succ fuel =>
    simp only [DataW.trod, ht, hce, hct, Nat.mul_one] at h
    split at h
    · rename_i hl
      obtain ⟨xs, hm, hx⟩ := Option.map_eq_some_iff.1 h
      have hxs : xs.map (·.1) = zs.map fun z => (DataW.lit (.string z) : DataW H) := by
        have := congrArg Prod.fst hx
        simpa using this
      have hxl : xs.length = n := by simpa using Lib.mapM_length hm
      have hzl : zs.length = n := by
        have := congrArg List.length hxs
        simp at this
        omega
      intro i z hz
      have hi : i < n := by
        rcases Nat.lt_or_ge i n with h' | h'
        · exact h'
        · rw [List.getElem?_eq_none (by omega)] at hz; cases hz
      obtain ⟨b, hb, hf⟩ := Lib.mapM_at hm i i (by simp [hi])
      obtain ⟨s, hc, rfl, _⟩ := DataW.trod_string he hf
      have h1 : cs[i]? = some (.string s) := by
        have := congrArg (·[0]?) hc
        simpa [List.getElem?_take, List.getElem?_drop] using this
      have h2 : (xs.map (·.1))[i]? = some (DataW.lit (.string s.data.toList) : DataW H) := by simp [hb]
      rw [hxs, List.getElem?_map, hz] at h2
      simp only [Option.map_some, Option.some.injEq, DataW.lit.injEq, Lit.string.injEq] at h2
      rw [h1, h2]
    · cases h

/-- WHAT THE ROW's LIST GIVES: the words that are no names. -/
theorem words {W : World} (h : laidMetH Tryz.prog Rows.askBackRow.laid W) : NnB W := by
  have h' : laidMet Tryz.prog [("math/bits.deBruijn32tab", Rows.laid_math_bits_deBruijn32tab), ("math/bits.deBruijn64tab", Rows.laid_math_bits_deBruijn64tab), ("internal/strconv.uint64pow10", Rows.laid_internal_strconv_uint64pow10), ("unicode/utf8.acceptRanges", Rows.laid_unicode_utf8_acceptRanges), ("strconv.ErrRange", Rows.laid_strconv_ErrRange), ("strconv.ErrSyntax", Rows.laid_strconv_ErrSyntax), ("millpond/ask.notNames", Rows.laid_millpond_ask_notNames), ("millpond/ask.marks", Rows.laid_millpond_ask_marks), ("unicode/utf8.first", Rows.laid_unicode_utf8_first)] W := h
  obtain ⟨ps, ⟨g', t', cs, fuel, p, q, hg', ht', hvar, hd, _, _⟩, _⟩ := laidMet.tail (laidMet.tail (laidMet.tail (laidMet.tail (laidMet.tail (laidMet.tail h')))))
  obtain rfl := Option.some.inj (gNc.symm.trans hg')
  obtain rfl := Option.some.inj (gNcType.symm.trans ht')
  have hc := cells_of_strs (zs := [[97, 110, 100], [105, 115], [110, 111, 116], [110, 117, 108, 108], [111, 114], [98, 121], [100, 101, 115, 99], [108, 105, 109, 105, 116], [111, 114, 100, 101, 114], [115, 101, 108, 101, 99, 116], [119, 104, 101, 114, 101]]) Tryz.underlying130 Tryz.underlying9 size9 cells11 hd
  have hcell : ∀ (i : Nat) (z : List UInt8), ([[97, 110, 100], [105, 115], [110, 111, 116], [110, 117, 108, 108], [111, 114], [98, 121], [100, 101, 115, 99], [108, 105, 109, 105, 116], [111, 114, 100, 101, 114], [115, 101, 108, 101, 99, 116], [119, 104, 101, 114, 101]] : List (List UInt8))[i]? = some z → W.cell? ⟨5, i, none⟩ = some (Value.string ⟨z.toArray⟩) := fun i z hz => by
    have h1 := World.var?_cell gNc hvar i
    have h2 := hc i z hz
    rw [h1]
    simpa using h2
  exact ⟨hcell 0 _ rfl, hcell 1 _ rfl, hcell 2 _ rfl, hcell 3 _ rfl, hcell 4 _ rfl, hcell 5 _ rfl, hcell 6 _ rfl, hcell 7 _ rfl, hcell 8 _ rfl, hcell 9 _ rfl, hcell 10 _ rfl⟩
set_option maxRecDepth 100000 in
/-- A sign that reads as a text and a number lies in two cells. -/
theorem cells_of_sign {H : Type} {enc : TypeId × Value → H} {w : World} {base : Nat} {sp : Nat → Bool} {held : Bool} {fuel : Nat} {cs : List Value} {z : List UInt8} {n : Int} {p : List MemPlace}
    (h : DataW.trod enc Tryz.prog w base sp held fuel 86 cs = some (DataW.agg [DataW.lit (Lit.string z), DataW.lit (Lit.int .i64 n)], p)) : cs = [.string ⟨z.toArray⟩, .int .i64 n] := by
  cases fuel with
  | zero => simp [DataW.trod] at h
  | succ fuel =>
    simp only [DataW.trod, Tryz.underlying86, cellsS] at h
    split at h
    · rename_i hl
      obtain ⟨xs, hm, hx⟩ := Option.map_eq_some_iff.1 h
      obtain ⟨b0, q0, f0⟩ := Lib.mapM_at hm 0 _ rfl
      obtain ⟨b1, q1, f1⟩ := Lib.mapM_at hm 1 _ rfl
      simp only [size9, sizeI] at f0 f1
      obtain ⟨s, e0, rfl, _⟩ := DataW.trod_string Tryz.underlying9 f0
      obtain ⟨m, e1, rfl, _⟩ := DataW.trod_int Tryz.underlying3 f1
      have hxs : xs.map (·.1) = [DataW.lit (Lit.string z), DataW.lit (Lit.int .i64 n)] := by
        have := congrArg Prod.fst hx
        simpa using this
      have g0 : (xs.map (·.1))[0]? = some (DataW.lit (Lit.string s.data.toList)) := by simp [q0]
      have g1 : (xs.map (·.1))[1]? = some (DataW.lit (Lit.int .i64 m)) := by simp [q1]
      rw [hxs] at g0 g1
      simp at g0 g1
      match cs, hl, e0, e1 with
      | [a, b], _, e0, e1 =>
        simp at e0 e1
        rw [e0, e1, g0, g1]
    · cases h
set_option maxRecDepth 100000 in
theorem cells_of_signs {H : Type} {enc : TypeId × Value → H} {w : World} {base : Nat} {sp : Nat → Bool} {held : Bool} {fuel : Nat} {cs : List Value} {zs : List (List UInt8 × Int)} {p : List MemPlace}
    (h : DataW.trod enc Tryz.prog w base sp held fuel 87 cs = some (DataW.agg (zs.map fun z => DataW.agg [DataW.lit (Lit.string z.1), DataW.lit (Lit.int .i64 z.2)]), p)) : cs.length = 20 ∧ ∀ (i : Nat) (z : List UInt8 × Int), zs[i]? = some z → cs[i * 2]? = some (Value.string ⟨z.1.toArray⟩) ∧ cs[i * 2 + 1]? = some (Value.int .i64 z.2) := by
  cases fuel with
  | zero => simp [DataW.trod] at h
  | succ fuel =>
    simp only [DataW.trod, Tryz.underlying87, cellsS, cellsM] at h
    split at h
    · rename_i hl
      refine ⟨hl, ?_⟩
      obtain ⟨xs, hm, hx⟩ := Option.map_eq_some_iff.1 h
      have hxs : xs.map (·.1) = zs.map fun z => (DataW.agg [DataW.lit (Lit.string z.1), DataW.lit (Lit.int .i64 z.2)] : DataW H) := by
        have := congrArg Prod.fst hx
        simpa using this
      have hxl : xs.length = 10 := by simpa using Lib.mapM_length hm
      have hzl : zs.length = 10 := by
        have := congrArg List.length hxs
        simp at this
        omega
      intro i z hz
      have hi : i < 10 := by
        rcases Nat.lt_or_ge i 10 with h' | h'
        · exact h'
        · rw [List.getElem?_eq_none (by omega)] at hz; cases hz
      obtain ⟨b, hb, hf⟩ := Lib.mapM_at hm i i (by simp [hi])
      have h2 : (xs.map (·.1))[i]? = some b.1 := by simp [hb]
      rw [hxs, List.getElem?_map, hz] at h2
      simp only [Option.map_some, Option.some.injEq] at h2
      have hf' : DataW.trod enc Tryz.prog w base sp held fuel 86 ((cs.drop (i * 2)).take 2) = some (DataW.agg [DataW.lit (Lit.string z.1), DataW.lit (Lit.int .i64 z.2)], b.2) := by
        rw [hf, h2]
      have hc := cells_of_sign hf'
      have g0 := congrArg (·[0]?) hc
      have g1 := congrArg (·[1]?) hc
      simp [List.getElem?_drop] at g0 g1
      exact ⟨g0, g1⟩
    · cases h
/-- .. the marks. -/
theorem signs {W : World} (h : laidMetH Tryz.prog Rows.askBackRow.laid W) : MkB W := by
  have h' : laidMet Tryz.prog [("math/bits.deBruijn32tab", Rows.laid_math_bits_deBruijn32tab), ("math/bits.deBruijn64tab", Rows.laid_math_bits_deBruijn64tab), ("internal/strconv.uint64pow10", Rows.laid_internal_strconv_uint64pow10), ("unicode/utf8.acceptRanges", Rows.laid_unicode_utf8_acceptRanges), ("strconv.ErrRange", Rows.laid_strconv_ErrRange), ("strconv.ErrSyntax", Rows.laid_strconv_ErrSyntax), ("millpond/ask.notNames", Rows.laid_millpond_ask_notNames), ("millpond/ask.marks", Rows.laid_millpond_ask_marks), ("unicode/utf8.first", Rows.laid_unicode_utf8_first)] W := h
  obtain ⟨ps, ⟨g', t', cs, fuel, p, q, hg', ht', hvar, hd, _, _⟩, _⟩ := laidMet.tail (laidMet.tail (laidMet.tail (laidMet.tail (laidMet.tail (laidMet.tail (laidMet.tail h'))))))
  obtain rfl := Option.some.inj (gMk.symm.trans hg')
  obtain rfl := Option.some.inj (gMkType.symm.trans ht')
  obtain ⟨hl, hc⟩ := cells_of_signs (zs := [([60, 62], 2), ([60, 61], 4), ([62, 61], 6), ([61], 1), ([60], 3), ([62], 5), ([40], 0), ([41], 0), ([44], 0), ([42], 0)]) hd
  have he : cs = mksA := by
    apply Array.ext'
    apply List.ext_getElem?
    intro i
    match i with
    | 0 => exact (hc 0 _ rfl).1
    | 1 => exact (hc 0 _ rfl).2
    | 2 => exact (hc 1 _ rfl).1
    | 3 => exact (hc 1 _ rfl).2
    | 4 => exact (hc 2 _ rfl).1
    | 5 => exact (hc 2 _ rfl).2
    | 6 => exact (hc 3 _ rfl).1
    | 7 => exact (hc 3 _ rfl).2
    | 8 => exact (hc 4 _ rfl).1
    | 9 => exact (hc 4 _ rfl).2
    | 10 => exact (hc 5 _ rfl).1
    | 11 => exact (hc 5 _ rfl).2
    | 12 => exact (hc 6 _ rfl).1
    | 13 => exact (hc 6 _ rfl).2
    | 14 => exact (hc 7 _ rfl).1
    | 15 => exact (hc 7 _ rfl).2
    | 16 => exact (hc 8 _ rfl).1
    | 17 => exact (hc 8 _ rfl).2
    | 18 => exact (hc 9 _ rfl).1
    | 19 => exact (hc 9 _ rfl).2
    | i + 20 => rw [List.getElem?_eq_none (by omega), List.getElem?_eq_none (by simp [mksA])]
  subst he
  simp only [World.var?, gMk, Option.bind_some] at hvar
  split at hvar
  · rename_i c t fr hk
    cases hvar
    exact ⟨t, fr, hk⟩
  · cases hvar
theorem table {W : World} (h : laidMetH Tryz.prog Rows.askBackRow.laid W) : TabB W := by
  have h' : laidMet Tryz.prog [("math/bits.deBruijn32tab", Rows.laid_math_bits_deBruijn32tab), ("math/bits.deBruijn64tab", Rows.laid_math_bits_deBruijn64tab), ("internal/strconv.uint64pow10", Rows.laid_internal_strconv_uint64pow10), ("unicode/utf8.acceptRanges", Rows.laid_unicode_utf8_acceptRanges), ("strconv.ErrRange", Rows.laid_strconv_ErrRange), ("strconv.ErrSyntax", Rows.laid_strconv_ErrSyntax), ("millpond/ask.notNames", Rows.laid_millpond_ask_notNames), ("millpond/ask.marks", Rows.laid_millpond_ask_marks), ("unicode/utf8.first", Rows.laid_unicode_utf8_first)] W := h
  exact Lib.tabIs_of_head (rest := [("unicode/utf8.acceptRanges", Rows.laid_unicode_utf8_acceptRanges), ("strconv.ErrRange", Rows.laid_strconv_ErrRange), ("strconv.ErrSyntax", Rows.laid_strconv_ErrSyntax), ("millpond/ask.notNames", Rows.laid_millpond_ask_notNames), ("millpond/ask.marks", Rows.laid_millpond_ask_marks), ("unicode/utf8.first", Rows.laid_unicode_utf8_first)]) (zs := Lib.pow10Tab) gPw gPwType Tryz.underlying126 Tryz.underlying116 cellsU cells20 (laidMet.tail (laidMet.tail h'))

theorem gEr : Tryz.prog.globalNamed "strconv.ErrRange" = some 9 := by kernel_rfl
theorem gErType : (Tryz.prog.globals[9]?).map (·.type) = some 28 := by kernel_rfl
theorem gEs : Tryz.prog.globalNamed "strconv.ErrSyntax" = some 8 := by kernel_rfl
theorem gEsType : (Tryz.prog.globals[8]?).map (·.type) = some 28 := by kernel_rfl
theorem star : "*" ++ "errors.errorString" = "*errors.errorString" := by decide
theorem errRow (u : TypeId) (h : Tryz.prog.typeName? 3 u = some "*errors.errorString") : u = 151 :=
  typeName_ptr_named (nm := "errors.errorString") (by rw [star]; kernel_rfl) (by kernel_rfl) (by decide) u (by rw [star]; exact h)
/-- .. the two errors of package strconv. -/
theorem sentinels {W : World} (h : laidMetH Tryz.prog Rows.askBackRow.laid W) : ErrB W := by
  have h' : laidMet Tryz.prog [("math/bits.deBruijn32tab", Rows.laid_math_bits_deBruijn32tab), ("math/bits.deBruijn64tab", Rows.laid_math_bits_deBruijn64tab), ("internal/strconv.uint64pow10", Rows.laid_internal_strconv_uint64pow10), ("unicode/utf8.acceptRanges", Rows.laid_unicode_utf8_acceptRanges), ("strconv.ErrRange", Rows.laid_strconv_ErrRange), ("strconv.ErrSyntax", Rows.laid_strconv_ErrSyntax), ("millpond/ask.notNames", Rows.laid_millpond_ask_notNames), ("millpond/ask.marks", Rows.laid_millpond_ask_marks), ("unicode/utf8.first", Rows.laid_unicode_utf8_first)] W := h
  have h4 := laidMet.tail (laidMet.tail (laidMet.tail (laidMet.tail h')))
  obtain ⟨a1, s1, hv1, _⟩ := laid_sentinel (tp := 151) (te := 153) (ts := 9) h4 gEr gErType Tryz.underlying28 errRow Tryz.underlying151 Tryz.underlying153 rfl rfl Tryz.underlying9 (by kernel_rfl) (by kernel_rfl)
  obtain ⟨a2, s2, hv2, _⟩ := laid_sentinel (tp := 151) (te := 153) (ts := 9) (laidMet.tail h4) gEs gEsType Tryz.underlying28 errRow Tryz.underlying151 Tryz.underlying153 rfl rfl Tryz.underlying9 (by kernel_rfl) (by kernel_rfl)
  exact ⟨⟨_, _, by simpa using World.var?_cell gEs hv2 0⟩, _, _, by simpa using World.var?_cell gEr hv1 0⟩
set_option maxRecDepth 100000 in
theorem open_value {H : Type} {enc : TypeId × Value → H} {W : World} {b0 : Nat} {v : Value} {d : DataW H} {p : List MemPlace} (hv : Value.okWide Tryz.prog W .any b0 23 v) (h : DataW.Trod enc Tryz.prog W 0 (fun _ => true) true 23 v d p) :
    ∃ (k n : Int) (t : ByteArray), v = .agg #[.int .i64 k, .int .i64 n, .string t] ∧ d = .agg [.lit (.int .i64 k), .lit (.int .i64 n), .lit (.string t.data.toList)] ∧ p = [] ∧ (Lit.int .i64 k).wf = true ∧ (Lit.int .i64 n).wf = true ∧ t.size ≤ maxLen := by
  obtain ⟨v0, v1, v2, y0, y1, y2, m, rfl, rfl, rfl, g0, g1, g2⟩ := open_agg3 Tryz.underlying23 (by kernel_rfl) cellsV hv h
  obtain ⟨k, e0, rfl, wk⟩ := DataW.trod_int Tryz.underlying3 g0
  obtain ⟨n, e1, rfl, wn⟩ := DataW.trod_int Tryz.underlying2 g1
  obtain ⟨t, e2, rfl, wt⟩ := DataW.trod_string Tryz.underlying9 g2
  simp at e0 e1 e2
  subst e0 e1 e2
  exact ⟨k, n, t, rfl, rfl, rfl, wk, wn, wt⟩
set_option maxRecDepth 100000 in
/-- WHAT THE WALKS GIVE, FOR EVERY ARGUMENT AND EVERY WORLD THAT HOLDS THE VARIABLES. -/
theorem contract (H : Type) (enc : TypeId × Value → H) (W : World) (base : Nat) (args : Array Value) (ds gs : List (DataW H)) (before : List MemPlace)
    (hval : ∀ (j : Nat) t v, Tryz.f3.params[j]? = some t → args[j]? = some v → Value.okWide Tryz.prog W .any base t v)
    (hW : DataW.Whole enc Tryz.prog Tryz.f3.params.toList Rows.askBackSpec.vars false W args.toList ds gs before) (hL : laidMetH Tryz.prog Rows.askBackRow.laid W) :
    Calls Tryz.prog 3 args W fun e W' => ∃ v, e = .returned v ∧ Rows.askBackSpec.post enc Tryz.prog Tryz.f3 false true false false W args v W' := by
  have hW' := hW
  obtain ⟨p, q, hA0, hV, rfl, hfz, hnd⟩ := hW
  have hA : DataW.TrodAll enc Tryz.prog W 0 (fun _ => true) true Tryz.f3.params.toList args.toList ds p := hA0
  rw [Tryz.params3] at hA hval
  obtain ⟨v0, v1, v2, d0, d1, d2, p0, p1, p2, rfl, rfl, rfl, h0, h1, h2⟩ := trodAll_three hA
  obtain ⟨rfl, rfl⟩ := trodVars_none hV
  clear hA0
  simp only [List.append_nil] at hW'
  have hlt : ∀ x ∈ p0 ++ p1 ++ p2, x.block < W.heap.size := fun x hx => hW'.lt x (by simpa using hx)
  obtain ⟨s, rfl, _, _, hs⟩ := open_string Tryz.underlying9 (hval 0 9 v0 rfl rfl) h0
  obtain ⟨ka, na, ta, rfl, _, _, _, _, wta⟩ := open_value (hval 1 23 v1 rfl rfl) h1
  obtain ⟨kb, nb, tb, rfl, _, _, _, _, wtb⟩ := open_value (hval 2 23 v2 rfl rfl) h2
  have hE := sentinels hL
  have hlast : 10 ≤ W.heap.size := by
    obtain ⟨_, _, _, e⟩ := hE
    have := cell_lt e
    omega
  refine (back_law s ka na ta kb nb tb W hs wta wtb (signs hL) ⟨words hL, hE⟩ (table hL) hlast).mono fun e W' ⟨he, hb⟩ => ?_
  subst he
  refine ⟨_, rfl, _, _, _, [], p0 ++ p1 ++ p2, [], hW', ?_, ?_, rfl, hb.frame _, fun h => by cases h⟩
  · exact trodAll_mk1 (shut_bool Tryz.underlying4 _)
  · have hall := trodAll_mk3 (Below.trod laidOut (by kernel_rfl) (of_decide_eq_true (by kernel_rfl)) h0 hb (fun x hx => hlt x (by simp [hx]))) (Below.trod laidOut (by kernel_rfl) (of_decide_eq_true (by kernel_rfl)) h1 hb (fun x hx => hlt x (by simp [hx]))) (Below.trod laidOut (by kernel_rfl) (of_decide_eq_true (by kernel_rfl)) h2 hb (fun x hx => hlt x (by simp [hx])))
    first
      | exact hall
      | (rw [List.append_assoc]; exact hall)
      | (rw [← List.append_assoc] at hall; exact hall)

/-- THE WITNESS: an empty text and two values that are nothing, in the heap that the program's own laying of its variables leaves. -/
theorem laid_met (os : Os) : laidMetH Tryz.prog Rows.askBackRow.laid ((World.laidAll Tryz.prog os Rows.askBackRow.laid).forCall (fun _ _ => 0) ⟨#[], #[.string ⟨#[]⟩, .agg #[.int .i64 0, .int .i64 0, .string ⟨#[]⟩], .agg #[.int .i64 0, .int .i64 0, .string ⟨#[]⟩]], []⟩).memory :=
  by rw [MakeChecks.laidMetH_plain _ _ _ (by kernel_rfl)]; exact laidMet_laidAll _ (by kernel_rfl) (by kernel_rfl)
theorem reads (os : Os) {H : Type} (enc : TypeId × Value → H) : ∃ ds places, DataW.whole enc Tryz.prog ((World.laidAll Tryz.prog os Rows.askBackRow.laid).forCall (fun _ _ => 0) ⟨#[], #[.string ⟨#[]⟩, .agg #[.int .i64 0, .int .i64 0, .string ⟨#[]⟩], .agg #[.int .i64 0, .int .i64 0, .string ⟨#[]⟩]], []⟩).memory Tryz.f3.params.toList Rows.askBackSpec.vars false #[Value.string ⟨#[]⟩, .agg #[.int .i64 0, .int .i64 0, .string ⟨#[]⟩], .agg #[.int .i64 0, .int .i64 0, .string ⟨#[]⟩]].toList 8 = some (ds, [], places) :=
  ⟨[.lit (.string []), .agg [.lit (.int .i64 0), .lit (.int .i64 0), .lit (.string [])], .agg [.lit (.int .i64 0), .lit (.int .i64 0), .lit (.string [])]], [], by kernel_rfl⟩

set_option maxRecDepth 100000 in
/-- THE STEP FROM THE CALL TO THE ROW. -/
theorem lifted (os : Os) (started : os.Started) (H : Type) (enc : TypeId × Value → H) (F : Stop.Interp) :
    ReturnsInHanded {} Tryz.checked os 3 .any ((OpenSpec.ofChange Rows.askBackSpec).preRow enc Tryz.prog Tryz.f3 Rows.askBackRow.domain false Rows.askBackRow.laid) (((OpenSpec.ofChange Rows.askBackSpec).at F).post enc Tryz.prog Tryz.f3 false true false false) := by
  obtain ⟨ds, places, hx⟩ := reads os enc
  refine returnsInHanded_of_row (C := Tryz.checked) (s := OpenSpec.ofChange Rows.askBackSpec) own started (by kernel_rfl) Tryz.func3
    (witness_row_at (enc := enc) (C := Tryz.checked) false (World.laidAll Tryz.prog os Rows.askBackRow.laid) #[.string ⟨#[]⟩, .agg #[.int .i64 0, .int .i64 0, .string ⟨#[]⟩], .agg #[.int .i64 0, .int .i64 0, .string ⟨#[]⟩]] (World.laidAll_os _ _ _) (by kernel_rfl) (by kernel_rfl) (by kernel_rfl)
      (OpenSpec.preRow_of_cond 8 hx (by kernel_rfl) (fun k hk => by cases hk) (by kernel_rfl) (laid_met os))) ?_
  intro W base args ds gs before hval hW _ _ _ hL _ _
  exact contract H enc W base args ds gs before hval hW hL

theorem said : Rows.AskBackSaid :=
  OpenClaim.holds_of_cond 3 Tryz.f3 rfl rfl rfl rfl rfl rfl rfl ⟨rfl, rfl, rfl, rfl, rfl⟩ rfl rfl rfl rfl rfl (by kernel_rfl) Tryz.func3 (by kernel_rfl)
    (of_decide_eq_true (by kernel_rfl)) (by unfold Func.isWrapper; first | (rw [if_pos (by decide +kernel)]; kernel_rfl) | (rw [if_neg (by decide +kernel)]; exact ⟨rfl, rfl⟩))
    (fun os started H enc _ F => by rw [OpenClaim.pre_eq_preRow]; exact lifted os started H enc F)

theorem plain (f : FuncId) (fn : Func) (hf : Tryz.pinned.checked.prog.funcNamed "millpond/millpondkeep.AskBack" = some f) (hfn : Tryz.pinned.checked.prog.funcs[f]? = some fn) :
    true = Tryz.pinned.checked.prog.looks [] ∧ ∀ (j : Nat) t, fn.params[j]? = some t → Tryz.pinned.checked.prog.wantsStandIn t = false := by
  obtain rfl : f = 3 := Option.some.inj ((show Tryz.prog.funcNamed "millpond/millpondkeep.AskBack" = some 3 by kernel_rfl).symm.trans hf) |>.symm
  obtain rfl : fn = Tryz.f3 := (Option.some.inj (Tryz.func3.symm.trans hfn)).symm
  refine ⟨by kernel_rfl, fun j t ht => ?_⟩
  rw [Tryz.params3] at ht
  have hm : t ∈ [9, 23, 23] := by simpa using Array.mem_of_getElem? ht
  have hall : ([9, 23, 23].all fun u => !Tryz.prog.wantsStandIn u) = true := by kernel_rfl
  exact (show Tryz.prog.wantsStandIn t = false by simpa using List.all_eq_true.1 hall t hm)
end Go.Proofs.YtfokdpddcgaafaaGreatDoor.askBack
namespace Go.Proofs.YtfokdpddcgaafaaGreatDoor
/-- THE CARD. -/
theorem askBack_card : Rows.AskBackCardSaid :=
  Claim7.holds_tied_plain_at .later [] _ _ _ _ askBack.said (fun _ h => by cases h) (by kernel_rfl) (fun _ h => by cases h) askBack_row_tie rfl ⟨rfl, rfl⟩ (by kernel_rfl) rfl askBack.plain (by kernel_rfl)
#print axioms askBack_card
end Go.Proofs.YtfokdpddcgaafaaGreatDoor
