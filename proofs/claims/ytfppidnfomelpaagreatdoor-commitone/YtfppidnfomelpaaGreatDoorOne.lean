/- A VERSION IS WRITTEN ONCE, proved: at every list of turns and every list of faults millpondkeep.CommitOne returns true and leaves its arguments as they were, over this commit's program; its condition: the program's list of words that are no names, the library's tables, the two errors of its package strconv and the package errors' own handle of the type error start as the program's own text lays them. -/
import Derived.Test.YtfppidnfomelpaaGreatDoorCards
import Derived.Test.YtfppidnfomelpaaGreatDoorTie
import Derived.Test.YtfppidnfomelpaaGreatDoorCL
import Derived.Test.YtfppidnfomelpaaGreatDoorO1
import Derived.Deep.DeepHandedRow
import Derived.Lib.LaidTab
import Derived.LaidMore
import Derived.Lay
import Derived.MakeChecks
import Derived.LaidHandle
import Derived.Stop.LaidErr
namespace Go.Proofs.YtfppidnfomelpaaGreatDoor.commitOne
open Go.ChangeShapes Go.WideShapes Go.ChangeAt Go.RowKit Go.Joins Go.Proofs
open Go.ChangeMaps (open_string shut_string)

theorem own : ownKnob Tryz.prog.godebug = none := by kernel_rfl
theorem laidOut : laidOutB Tryz.prog = true := by kernel_rfl
theorem gNc : Tryz.prog.globalNamed "millpond/schema.notColumns" = some 2 := by kernel_rfl
theorem gNcType : (Tryz.prog.globals[2]?).map (·.type) = some 220 := by kernel_rfl
theorem gPw : Tryz.prog.globalNamed "internal/strconv.uint64pow10" = some 3 := by kernel_rfl
theorem gPwType : (Tryz.prog.globals[3]?).map (·.type) = some 224 := by kernel_rfl
theorem cells5 : Tryz.prog.cellsOf 220 = 5 := by kernel_rfl
theorem cells20 : Tryz.prog.cellsOf 224 = 20 := by kernel_rfl
theorem cellsU : Tryz.prog.cellsOf 166 = 1 := by kernel_rfl

/-- The row's variables but for the handle. -/
def dataL : List (String × DataW Unit) := [("math/bits.deBruijn32tab", Rows.laid_math_bits_deBruijn32tab), ("math/bits.deBruijn64tab", Rows.laid_math_bits_deBruijn64tab), ("internal/strconv.uint64pow10", Rows.laid_internal_strconv_uint64pow10), ("unicode/utf8.acceptRanges", Rows.laid_unicode_utf8_acceptRanges), ("strconv.ErrRange", Rows.laid_strconv_ErrRange), ("strconv.ErrSyntax", Rows.laid_strconv_ErrSyntax), ("millpond/schema.notColumns", Rows.laid_millpond_schema_notColumns), ("unicode/utf8.first", Rows.laid_unicode_utf8_first)]
theorem gEt : Tryz.prog.globalNamed "errors.errorType" = some 0 := by kernel_rfl
theorem rt : (Tryz.prog.cutTypes.find? (·.1 == "internal/reflectlite.rtype")).map (·.2) = some 184 := by kernel_rfl
theorem tsize : Tryz.prog.types.size + 100 = 394 := by kernel_rfl
theorem oneRow : ((List.range (394 - 100)).filter fun t => Tryz.prog.rowNamed t [101, 114, 114, 111, 114]) = [28] := by kernel_rfl
/-- WHAT THE ROW's LIST GIVES: the handle of the type error. -/
theorem handle {W : World} (h : laidMetH Tryz.prog Rows.commitOneRow.laid W) : B.EtB W := by
  have h' : laidMet Tryz.prog dataL W ∧ handlesMet Tryz.prog [("errors.errorType", Rows.laid_errors_errorType)] W := h
  obtain ⟨name, u, ty, e1, e2, e3, e4, e5⟩ := h'.2 _ (List.mem_singleton.2 rfl)
  have en : name = [101, 114, 114, 111, 114] := (Option.some.inj e1).symm
  subst en
  obtain rfl := Option.some.inj (rt.symm.trans e2)
  have hm : ty ∈ (List.range (394 - 100)).filter fun t => Tryz.prog.rowNamed t [101, 114, 114, 111, 114] := List.mem_filter.2 ⟨List.mem_range.2 (by have := tsize; omega), e4⟩
  rw [oneRow] at hm
  obtain rfl := List.mem_singleton.1 hm
  have hh : typeHandle Tryz.prog 28 = .pointer (some ⟨10, 28, none⟩) := by kernel_rfl
  rw [hh] at e5
  exact World.var?_cell gEt e5 0
/-- An array of texts that reads as a list of texts holds them, cell for cell. -/
theorem cells_of_strs {H : Type} {enc : TypeId × Value → H} {P : Program} {w : World} {base : Nat} {sp : Nat → Bool} {held : Bool} {fuel : Nat} {t e : TypeId} {n : Nat} {cs : List Value} {zs : List (List UInt8)} {p : List MemPlace}
    (ht : P.underlying t = some (.array n e)) (he : P.underlying e = some .string) (hce : P.cellsOf e = 1) (hct : P.cellsOf t = n)
    (h : DataW.trod enc P w base sp held fuel t cs = some (DataW.agg (zs.map fun z => DataW.lit (Lit.string z)), p)) : ∀ (i : Nat) (z : List UInt8), zs[i]? = some z → cs[i]? = some (Value.string ⟨z.toArray⟩) := by
  cases fuel with
  | zero => simp [DataW.trod] at h
  | succ fuel =>
    simp only [DataW.trod, ht, hce, hct, Nat.mul_one] at h
    split at h
    · rename_i hl
      obtain ⟨xs, hm, hx⟩ := Option.map_eq_some_iff.1 h
      have hxs : xs.map (·.1) = zs.map fun z => (DataW.lit (.string z) : DataW H) := by
        have := congrArg Prod.fst hx
        simpa using this
      have hxl : xs.length = n := by simpa using Lib.mapM_length hm
      have hzl : zs.length = n := by
        have := congrArg List.length hxs
        simp at this
        omega
      intro i z hz
      have hi : i < n := by
        rcases Nat.lt_or_ge i n with h' | h'
        · exact h'
        · rw [List.getElem?_eq_none (by omega)] at hz; cases hz
      obtain ⟨b, hb, hf⟩ := Lib.mapM_at hm i i (by simp [hi])
      obtain ⟨s, hc, rfl, _⟩ := DataW.trod_string he hf
      have h1 : cs[i]? = some (.string s) := by
        have := congrArg (·[0]?) hc
        simpa [List.getElem?_take, List.getElem?_drop] using this
      have h2 : (xs.map (·.1))[i]? = some (DataW.lit (.string s.data.toList) : DataW H) := by simp [hb]
      rw [hxs, List.getElem?_map, hz] at h2
      simp only [Option.map_some, Option.some.injEq, DataW.lit.injEq, Lit.string.injEq] at h2
      rw [h1, h2]
    · cases h

/-- WHAT THE ROW's LIST GIVES: the words that are no names. -/
theorem words {W : World} (h : laidMetH Tryz.prog Rows.commitOneRow.laid W) : NcB W := by
  have h' : laidMet Tryz.prog dataL W := (show laidMet Tryz.prog dataL W ∧ handlesMet Tryz.prog [("errors.errorType", Rows.laid_errors_errorType)] W from h).1
  obtain ⟨ps, ⟨g', t', cs, fuel, p, q, hg', ht', hvar, hd, _, _⟩, _⟩ := laidMet.tail (laidMet.tail (laidMet.tail (laidMet.tail (laidMet.tail (laidMet.tail h')))))
  obtain rfl := Option.some.inj (gNc.symm.trans hg')
  obtain rfl := Option.some.inj (gNcType.symm.trans ht')
  have hc := cells_of_strs (zs := [[97, 110, 100], [105, 115], [110, 111, 116], [110, 117, 108, 108], [111, 114]]) Tryz.underlying220 Tryz.underlying9 size9 cells5 hd
  have hcell : ∀ (i : Nat) (z : List UInt8), ([[97, 110, 100], [105, 115], [110, 111, 116], [110, 117, 108, 108], [111, 114]] : List (List UInt8))[i]? = some z → W.cell? ⟨2, i, none⟩ = some (Value.string ⟨z.toArray⟩) := fun i z hz => by
    have h1 := World.var?_cell gNc hvar i
    have h2 := hc i z hz
    rw [h1]
    simpa using h2
  exact ⟨hcell 0 _ rfl, hcell 1 _ rfl, hcell 2 _ rfl, hcell 3 _ rfl, hcell 4 _ rfl⟩
theorem table {W : World} (h : laidMetH Tryz.prog Rows.commitOneRow.laid W) : TabB W := by
  have h' : laidMet Tryz.prog dataL W := (show laidMet Tryz.prog dataL W ∧ handlesMet Tryz.prog [("errors.errorType", Rows.laid_errors_errorType)] W from h).1
  exact Lib.tabIs_of_head (rest := [("unicode/utf8.acceptRanges", Rows.laid_unicode_utf8_acceptRanges), ("strconv.ErrRange", Rows.laid_strconv_ErrRange), ("strconv.ErrSyntax", Rows.laid_strconv_ErrSyntax), ("millpond/schema.notColumns", Rows.laid_millpond_schema_notColumns), ("unicode/utf8.first", Rows.laid_unicode_utf8_first)]) (zs := Lib.pow10Tab) gPw gPwType Tryz.underlying224 Tryz.underlying166 cellsU cells20 (laidMet.tail (laidMet.tail h'))

theorem gEr : Tryz.prog.globalNamed "strconv.ErrRange" = some 5 := by kernel_rfl
theorem gErType : (Tryz.prog.globals[5]?).map (·.type) = some 28 := by kernel_rfl
theorem gEs : Tryz.prog.globalNamed "strconv.ErrSyntax" = some 4 := by kernel_rfl
theorem gEsType : (Tryz.prog.globals[4]?).map (·.type) = some 28 := by kernel_rfl
theorem star : "*" ++ "errors.errorString" = "*errors.errorString" := by decide
theorem errRow (u : TypeId) (h : Tryz.prog.typeName? 3 u = some "*errors.errorString") : u = 254 :=
  typeName_ptr_named (nm := "errors.errorString") (by rw [star]; kernel_rfl) (by kernel_rfl) (by decide) u (by rw [star]; exact h)
/-- .. the two errors of package strconv. -/
theorem sentinels {W : World} (h : laidMetH Tryz.prog Rows.commitOneRow.laid W) : ErrB W := by
  have h' : laidMet Tryz.prog dataL W := (show laidMet Tryz.prog dataL W ∧ handlesMet Tryz.prog [("errors.errorType", Rows.laid_errors_errorType)] W from h).1
  have h4 := laidMet.tail (laidMet.tail (laidMet.tail (laidMet.tail h')))
  obtain ⟨a1, s1, hv1, _⟩ := laid_sentinel (tp := 254) (te := 256) (ts := 9) h4 gEr gErType Tryz.underlying28 errRow Tryz.underlying254 Tryz.underlying256 rfl rfl Tryz.underlying9 (by kernel_rfl) (by kernel_rfl)
  obtain ⟨a2, s2, hv2, _⟩ := laid_sentinel (tp := 254) (te := 256) (ts := 9) (laidMet.tail h4) gEs gEsType Tryz.underlying28 errRow Tryz.underlying254 Tryz.underlying256 rfl rfl Tryz.underlying9 (by kernel_rfl) (by kernel_rfl)
  exact ⟨⟨_, _, by simpa using World.var?_cell gEs hv2 0⟩, _, _, by simpa using World.var?_cell gEr hv1 0⟩
set_option maxRecDepth 100000 in
/-- WHAT THE WALKS GIVE, FOR EVERY ARGUMENT AND EVERY WORLD THAT HOLDS THE VARIABLES. -/
theorem contract (H : Type) (enc : TypeId × Value → H) (W : World) (base : Nat) (args : Array Value) (ds gs : List (DataW H)) (before : List MemPlace)
    (hval : ∀ (j : Nat) t v, Tryz.f4.params[j]? = some t → args[j]? = some v → Value.okWide Tryz.prog W .any base t v)
    (hW : DataW.Whole enc Tryz.prog Tryz.f4.params.toList Rows.commitOneSpec.vars false W args.toList ds gs before) (hL : laidMetH Tryz.prog Rows.commitOneRow.laid W) :
    Calls Tryz.prog 4 args W fun e W' => ∃ v, e = .returned v ∧ Rows.commitOneSpec.post enc Tryz.prog Tryz.f4 false true false false W args v W' := by
  have hW' := hW
  obtain ⟨p, q, hA0, hV, rfl, hfz, hnd⟩ := hW
  have hA : DataW.TrodAll enc Tryz.prog W 0 (fun _ => true) true Tryz.f4.params.toList args.toList ds p := hA0
  rw [Tryz.params4] at hA hval
  obtain ⟨v0, v1, d0, d1, p0, p1, rfl, rfl, rfl, h0, h1⟩ := trodAll_two hA
  obtain ⟨rfl, rfl⟩ := trodVars_none hV
  clear hA0
  simp only [List.append_nil] at hW'
  have hlt : ∀ x ∈ p0 ++ p1, x.block < W.heap.size := fun x hx => hW'.lt x (by simpa using hx)
  obtain ⟨ta, tn, tc, rfl, l, hl, hln⟩ := open_turns (hval 0 37 v0 rfl rfl) h0
  obtain ⟨fa, fn, fc, rfl, fs, hf, hfl⟩ := open_faults (hval 1 38 v1 rfl rfl) h1
  refine (one_law ta tn tc l fa fn fc fs W hl hln hf hfl (sentinels hL) (words hL) (table hL) (handle hL)).mono fun e W' ⟨he, hb⟩ => ?_
  subst he
  refine ⟨_, rfl, _, _, _, [], p0 ++ p1, [], hW', ?_, ?_, rfl, hb.frame _, fun h => by cases h⟩
  · exact trodAll_mk1 (shut_bool Tryz.underlying4 _)
  · exact trodAll_mk2 (Below.trod laidOut (by kernel_rfl) (of_decide_eq_true (by kernel_rfl)) h0 hb (fun x hx => hlt x (by simp [hx]))) (Below.trod laidOut (by kernel_rfl) (of_decide_eq_true (by kernel_rfl)) h1 hb (fun x hx => hlt x (by simp [hx])))

theorem laidMet_from {P : Program} {w0 : World} {laid : List (String × DataW Unit)} (args : Array Value) (hf : w0.layFits P laid [] = true) (hi : w0.layIfaces P laid (w0.layVars P laid) = true) : laidMet P laid ((w0.layVars P laid).forCall (fun _ _ => 0) ⟨#[], args, []⟩).memory := by
  have e1 : (laid.filter fun x => (laid.map (·.1)).contains x.1) = laid := List.filter_eq_self.2 fun x hx => List.contains_iff_mem.2 (List.mem_map.2 ⟨x, hx, rfl⟩)
  have e2 : (laid.filter fun x => !(laid.map (·.1)).contains x.1) = [] := List.filter_eq_nil_iff.2 fun x hx => by rw [List.contains_iff_mem.2 (List.mem_map.2 ⟨x, hx, rfl⟩)]; simp
  have h : laidMet P laid (w0.layVars P laid) := laidMet_layVars (w0 := w0) (laid.map (·.1)) [] (by rw [e1]) (by rw [e1]; exact hf) (by rw [e1]; exact hi) (by rw [e2]; exact LaidIn.none)
  exact h.of_heap (by simp [World.memory, World.forCall, Input.heap])
/-- A heap with the handle in its place. -/
noncomputable def w00 (os : Os) : World := (World.holding Tryz.prog os ⟨#[], #[], []⟩).setCell ⟨0, 0, none⟩ (.iface 184 (.agg #[.pointer (some ⟨10, 28, none⟩)]))
noncomputable def wit (os : Os) : World := (w00 os).layVars Tryz.prog dataL
theorem wit_os (os : Os) : (wit os).os = os := World.layVars_os _ _ _
/-- THE WITNESS: no turns and no faults, in a heap that holds the variables. -/
theorem laid_met (os : Os) : laidMetH Tryz.prog Rows.commitOneRow.laid ((wit os).forCall (fun _ _ => 0) ⟨#[], #[.slice none 0 0, .slice none 0 0], []⟩).memory :=
  laidMetH_of_parts (laidMet_from (w0 := w00 os) (laid := dataL) _ (by kernel_rfl) (by kernel_rfl)) (by kernel_rfl)
theorem reads (os : Os) {H : Type} (enc : TypeId × Value → H) : ∃ ds places, DataW.whole enc Tryz.prog ((wit os).forCall (fun _ _ => 0) ⟨#[], #[.slice none 0 0, .slice none 0 0], []⟩).memory Tryz.f4.params.toList Rows.commitOneSpec.vars false #[Value.slice none 0 0, .slice none 0 0].toList 8 = some (ds, [], places) :=
  ⟨[.nil, .nil], [], by kernel_rfl⟩

set_option maxRecDepth 100000 in
/-- THE STEP FROM THE CALL TO THE ROW. -/
theorem lifted (os : Os) (started : os.Started) (H : Type) (enc : TypeId × Value → H) (F : Stop.Interp) :
    ReturnsInHanded {} Tryz.checked os 4 .any ((OpenSpec.ofChange Rows.commitOneSpec).preRow enc Tryz.prog Tryz.f4 Rows.commitOneRow.domain false Rows.commitOneRow.laid) (((OpenSpec.ofChange Rows.commitOneSpec).at F).post enc Tryz.prog Tryz.f4 false true false false) := by
  obtain ⟨ds, places, hx⟩ := reads os enc
  refine returnsInHanded_of_row (C := Tryz.checked) (s := OpenSpec.ofChange Rows.commitOneSpec) own started (by kernel_rfl) Tryz.func4
    (witness_row_at (enc := enc) (C := Tryz.checked) false (wit os) #[.slice none 0 0, .slice none 0 0] (wit_os os) (by kernel_rfl) (by kernel_rfl) (by kernel_rfl)
      (OpenSpec.preRow_of_cond 8 hx (by kernel_rfl) (fun k hk => by cases hk) (by kernel_rfl) (laid_met os))) ?_
  intro W base args ds gs before hval hW _ _ _ hL _ _
  exact contract H enc W base args ds gs before hval hW hL

theorem said : Rows.CommitOneSaid :=
  OpenClaim.holds_of_cond 4 Tryz.f4 rfl rfl rfl rfl rfl rfl rfl ⟨rfl, rfl, rfl, rfl, rfl⟩ rfl rfl rfl rfl rfl (by kernel_rfl) Tryz.func4 (by kernel_rfl)
    (of_decide_eq_true (by kernel_rfl)) (by unfold Func.isWrapper; first | (rw [if_pos (by decide +kernel)]; kernel_rfl) | (rw [if_neg (by decide +kernel)]; exact ⟨rfl, rfl⟩))
    (fun os started H enc _ F => by rw [OpenClaim.pre_eq_preRow]; exact lifted os started H enc F)

theorem plain (f : FuncId) (fn : Func) (hf : Tryz.pinned.checked.prog.funcNamed "millpond/millpondkeep.CommitOne" = some f) (hfn : Tryz.pinned.checked.prog.funcs[f]? = some fn) :
    true = Tryz.pinned.checked.prog.looks [] ∧ ∀ (j : Nat) t, fn.params[j]? = some t → Tryz.pinned.checked.prog.wantsStandIn t = false := by
  obtain rfl : f = 4 := Option.some.inj ((show Tryz.prog.funcNamed "millpond/millpondkeep.CommitOne" = some 4 by kernel_rfl).symm.trans hf) |>.symm
  obtain rfl : fn = Tryz.f4 := (Option.some.inj (Tryz.func4.symm.trans hfn)).symm
  refine ⟨by kernel_rfl, fun j t ht => ?_⟩
  rw [Tryz.params4] at ht
  have hm : t ∈ [37, 38] := by simpa using Array.mem_of_getElem? ht
  have hall : ([37, 38].all fun u => !Tryz.prog.wantsStandIn u) = true := by kernel_rfl
  exact (show Tryz.prog.wantsStandIn t = false by simpa using List.all_eq_true.1 hall t hm)
end Go.Proofs.YtfppidnfomelpaaGreatDoor.commitOne
namespace Go.Proofs.YtfppidnfomelpaaGreatDoor
/-- THE CARD. -/
theorem commitOne_card : Rows.CommitOneCardSaid :=
  Claim7.holds_tied_plain_at .later [] _ _ _ _ commitOne.said (fun _ h => by cases h) (by kernel_rfl) (fun _ h => by cases h) commitOne_row_tie rfl ⟨rfl, rfl⟩ (by kernel_rfl) rfl commitOne.plain (by kernel_rfl)
#print axioms commitOne_card
end Go.Proofs.YtfppidnfomelpaaGreatDoor
