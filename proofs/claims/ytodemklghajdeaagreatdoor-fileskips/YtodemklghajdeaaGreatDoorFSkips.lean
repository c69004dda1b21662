/- WHAT IS PASSED BY IS NOT MISSED, proved: at every list of columns, rows and parts of a condition millpondkeep.FileSkips returns true and leaves its arguments as they were, over this commit's program; its condition: the program's list of words that are no names, its list of opposites, the package errors' own handle of the type error, and the library's three tables start as the program's own text lays them. -/
import Derived.Test.YtodemklghajdeaaGreatDoorCards
import Derived.Test.YtodemklghajdeaaGreatDoorTie
import Derived.Test.YtodemklghajdeaaGreatDoorFZC
import Derived.Test.YtodemklghajdeaaGreatDoorFK6
import Derived.Test.YtodemklghajdeaaGreatDoorSL7
import Derived.Test.YtodemklghajdeaaGreatDoorFZO
import Derived.Deep.DeepHandedRow
import Derived.Lib.LaidTab
import Derived.LaidMore
import Derived.LaidHandle
import Derived.Stop.LaidErr
namespace Go.Proofs.YtodemklghajdeaaGreatDoor.fileSkips
open Go.ChangeShapes Go.WideShapes Go.ChangeAt Go.RowKit Go.Joins Go.Proofs
open Go.ChangeMaps (open_string shut_string)

theorem own : ownKnob Tryz.prog.godebug = none := by kernel_rfl
theorem laidOut : laidOutB Tryz.prog = true := by kernel_rfl
theorem gNc : Tryz.prog.globalNamed "millpond/schema.notColumns" = some 0 := by kernel_rfl
theorem gNcType : (Tryz.prog.globals[0]?).map (·.type) = some 132 := by kernel_rfl
theorem gEt : Tryz.prog.globalNamed "errors.errorType" = some 1 := by kernel_rfl
theorem rt : (Tryz.prog.cutTypes.find? (·.1 == "internal/reflectlite.rtype")).map (·.2) = some 176 := by kernel_rfl
theorem tsize : Tryz.prog.types.size + 100 = 355 := by kernel_rfl
theorem oneRow : ((List.range (355 - 100)).filter fun t => Tryz.prog.rowNamed t [101, 114, 114, 111, 114]) = [31] := by kernel_rfl
theorem cells5 : Tryz.prog.cellsOf 132 = 5 := by kernel_rfl

/-- An array of texts that reads as a list of texts holds them, cell for cell. -/
theorem cells_of_strs {H : Type} {enc : TypeId × Value → H} {P : Program} {w : World} {base : Nat} {sp : Nat → Bool} {held : Bool} {fuel : Nat} {t e : TypeId} {n : Nat} {cs : List Value} {zs : List (List UInt8)} {p : List MemPlace}
    (ht : P.underlying t = some (.array n e)) (he : P.underlying e = some .string) (hce : P.cellsOf e = 1) (hct : P.cellsOf t = n)
    (h : DataW.trod enc P w base sp held fuel t cs = some (DataW.agg (zs.map fun z => DataW.lit (Lit.string z)), p)) : ∀ (i : Nat) (z : List UInt8), zs[i]? = some z → cs[i]? = some (Value.string ⟨z.toArray⟩) := by
  cases fuel with
  | zero => simp [DataW.trod] at h
  | succ fuel =>
    simp only [DataW.trod, ht, hce, hct, Nat.mul_one] at h
    split at h
    · rename_i hl
      obtain ⟨xs, hm, hx⟩ := Option.map_eq_some_iff.1 h
      have hxs : xs.map (·.1) = zs.map fun z => (DataW.lit (.string z) : DataW H) := by
        have := congrArg Prod.fst hx
        simpa using this
      have hxl : xs.length = n := by simpa using Lib.mapM_length hm
      have hzl : zs.length = n := by
        have := congrArg List.length hxs
        simp at this
        omega
      intro i z hz
      have hi : i < n := by
        rcases Nat.lt_or_ge i n with h' | h'
        · exact h'
        · rw [List.getElem?_eq_none (by omega)] at hz; cases hz
      obtain ⟨b, hb, hf⟩ := Lib.mapM_at hm i i (by simp [hi])
      obtain ⟨s, hc, rfl, _⟩ := DataW.trod_string he hf
      have h1 : cs[i]? = some (.string s) := by
        have := congrArg (·[0]?) hc
        simpa [List.getElem?_take, List.getElem?_drop] using this
      have h2 : (xs.map (·.1))[i]? = some (DataW.lit (.string s.data.toList) : DataW H) := by simp [hb]
      rw [hxs, List.getElem?_map, hz] at h2
      simp only [Option.map_some, Option.some.injEq, DataW.lit.injEq, Lit.string.injEq] at h2
      rw [h1, h2]
    · cases h

/-- WHAT THE ROW's LIST GIVES: the words that are no names, and the handle of the type error. -/
theorem words {W : World} (h : laidMetH Tryz.prog Rows.fileSkipsRow.laid W) : C.NcB W := by
  have h' : laidMet Tryz.prog [("math/bits.deBruijn32tab", Rows.laid_math_bits_deBruijn32tab), ("math/bits.deBruijn64tab", Rows.laid_math_bits_deBruijn64tab), ("internal/strconv.uint64pow10", Rows.laid_internal_strconv_uint64pow10), ("millpond/schema.notColumns", Rows.laid_millpond_schema_notColumns), ("millpond/stats.opposites", Rows.laid_millpond_stats_opposites)] W ∧ handlesMet Tryz.prog [("errors.errorType", Rows.laid_errors_errorType)] W := h
  obtain ⟨ps, ⟨g', t', cs, fuel, p, q, hg', ht', hvar, hd, _, _⟩, _⟩ := laidMet.tail (laidMet.tail (laidMet.tail h'.1))
  obtain rfl := Option.some.inj (gNc.symm.trans hg')
  obtain rfl := Option.some.inj (gNcType.symm.trans ht')
  have hc := cells_of_strs (zs := [[97, 110, 100], [105, 115], [110, 111, 116], [110, 117, 108, 108], [111, 114]]) Tryz.underlying132 Tryz.underlying9 cells9 cells5 hd
  have hcell : ∀ (i : Nat) (z : List UInt8), ([[97, 110, 100], [105, 115], [110, 111, 116], [110, 117, 108, 108], [111, 114]] : List (List UInt8))[i]? = some z → W.cell? ⟨0, i, none⟩ = some (Value.string ⟨z.toArray⟩) := fun i z hz => by
    have h1 := World.var?_cell gNc hvar i
    have h2 := hc i z hz
    rw [h1]
    simpa using h2
  exact ⟨hcell 0 _ rfl, hcell 1 _ rfl, hcell 2 _ rfl, hcell 3 _ rfl, hcell 4 _ rfl⟩
theorem handle {W : World} (h : laidMetH Tryz.prog Rows.fileSkipsRow.laid W) : C.EtB W := by
  have h' : laidMet Tryz.prog [("math/bits.deBruijn32tab", Rows.laid_math_bits_deBruijn32tab), ("math/bits.deBruijn64tab", Rows.laid_math_bits_deBruijn64tab), ("internal/strconv.uint64pow10", Rows.laid_internal_strconv_uint64pow10), ("millpond/schema.notColumns", Rows.laid_millpond_schema_notColumns), ("millpond/stats.opposites", Rows.laid_millpond_stats_opposites)] W ∧ handlesMet Tryz.prog [("errors.errorType", Rows.laid_errors_errorType)] W := h
  obtain ⟨name, u, ty, e1, e2, e3, e4, e5⟩ := h'.2 _ (List.mem_singleton.2 rfl)
  have en : name = [101, 114, 114, 111, 114] := (Option.some.inj e1).symm
  subst en
  obtain rfl := Option.some.inj (rt.symm.trans e2)
  have hm : ty ∈ (List.range (355 - 100)).filter fun t => Tryz.prog.rowNamed t [101, 114, 114, 111, 114] := List.mem_filter.2 ⟨List.mem_range.2 (by have := tsize; omega), e4⟩
  rw [oneRow] at hm
  obtain rfl := List.mem_singleton.1 hm
  have hh : typeHandle Tryz.prog 31 = .pointer (some ⟨6, 31, none⟩) := by kernel_rfl
  rw [hh] at e5
  have := World.var?_cell gEt e5 0
  exact this

theorem gTabType : (Tryz.prog.globals[2]?).map (·.type) = some 208 := by kernel_rfl
theorem cells91 : Tryz.prog.cellsOf 208 = 9 := by kernel_rfl
theorem table {W : World} (h : laidMetH Tryz.prog Rows.fileSkipsRow.laid W) : S.OppB W := by
  have h' : laidMet Tryz.prog [("math/bits.deBruijn32tab", Rows.laid_math_bits_deBruijn32tab), ("math/bits.deBruijn64tab", Rows.laid_math_bits_deBruijn64tab), ("internal/strconv.uint64pow10", Rows.laid_internal_strconv_uint64pow10), ("millpond/schema.notColumns", Rows.laid_millpond_schema_notColumns), ("millpond/stats.opposites", Rows.laid_millpond_stats_opposites)] W ∧ handlesMet Tryz.prog [("errors.errorType", Rows.laid_errors_errorType)] W := h
  exact Lib.tabIs_of_head (rest := []) (zs := S.oppTab) S.gOpp gTabType Tryz.underlying208 Tryz.underlying3 cells3 cells91 (laidMet.tail (laidMet.tail (laidMet.tail (laidMet.tail h'.1))))
set_option maxRecDepth 100000 in
/-- What cond makes of parts that came in. -/
theorem cond_came {H : Type} {enc : TypeId × Value → H} {W : World} {b0 : Nat} {v : Value} {d : DataW H} {p : List MemPlace} (hv : Value.okWide Tryz.prog W .any b0 59 v) (h : DataW.Trod enc Tryz.prog W 0 (fun _ => true) true 59 v d p) :
    ∃ xa xn xc, v = .slice xa xn xc ∧ CondS W (.slice xa xn xc) := by
  rcases S.open_parts hv h with ⟨ao, cap, rfl⟩ | ⟨bl, ol, L, cap, P, rfl, hL, hcap, hT, hbl, q0, q1, q2, q3, q4⟩
  · exact ⟨ao, 0, cap, rfl, fun W' hb => S.cond_zero ao cap W'⟩
  · refine ⟨_, L, cap, rfl, fun W' hb => ?_⟩
    have hbl' : bl < W'.heap.size := Nat.lt_of_lt_of_le hbl hb.size
    exact S.cond_some bl ol L cap (fun j => (P j).c) (fun j => (P j).k) (fun j => (P j).m) (fun j => (P j).l) (fun j => (P j).t) W' hL hcap hT hbl'
      (fun j hj => (hb.cell (p := ⟨bl, ol + j * 5, none⟩) hbl).trans (q0 j hj)) (fun j hj => (hb.cell (p := ⟨bl, ol + j * 5 + 1, none⟩) hbl).trans (q1 j hj)) (fun j hj => (hb.cell (p := ⟨bl, ol + j * 5 + 2, none⟩) hbl).trans (q2 j hj))
      (fun j hj => (hb.cell (p := ⟨bl, ol + j * 5 + 3, none⟩) hbl).trans (q3 j hj)) (fun j hj => (hb.cell (p := ⟨bl, ol + j * 5 + 4, none⟩) hbl).trans (q4 j hj))

set_option maxRecDepth 100000 in
/-- WHAT THE WALKS GIVE, FOR EVERY ARGUMENT AND EVERY WORLD THAT HOLDS THE TWO VARIABLES. -/
theorem contract (H : Type) (enc : TypeId × Value → H) (W : World) (base : Nat) (args : Array Value) (ds gs : List (DataW H)) (before : List MemPlace)
    (hval : ∀ (j : Nat) t v, Tryz.f5.params[j]? = some t → args[j]? = some v → Value.okWide Tryz.prog W .any base t v)
    (hW : DataW.Whole enc Tryz.prog Tryz.f5.params.toList Rows.fileSkipsSpec.vars false W args.toList ds gs before) (hL : laidMetH Tryz.prog Rows.fileSkipsRow.laid W) :
    Calls Tryz.prog 5 args W fun e W' => ∃ v, e = .returned v ∧ Rows.fileSkipsSpec.post enc Tryz.prog Tryz.f5 false true false false W args v W' := by
  have hW' := hW
  obtain ⟨p, q, hA0, hV, rfl, hfz, hnd⟩ := hW
  have hA : DataW.TrodAll enc Tryz.prog W 0 (fun _ => true) true Tryz.f5.params.toList args.toList ds p := hA0
  rw [Tryz.params5] at hA hval
  obtain ⟨v0, v1, v2, d0, d1, d2, p0, p1, p2, rfl, rfl, rfl, h0, h1, h2⟩ := trodAll_three hA
  obtain ⟨rfl, rfl⟩ := trodVars_none hV
  clear hA0
  simp only [List.append_nil] at hW'
  have hlt : ∀ x ∈ p0 ++ p1 ++ p2, x.block < W.heap.size := fun x hx => hW'.lt x (by simpa using hx)
  obtain ⟨l, hSl, hms⟩ := open_cols (hval 0 22 v0 rfl rfl) h0
  obtain ⟨rows, hSr, hrs⟩ := open_rows (hval 1 23 v1 rfl rfl) h1
  obtain ⟨xa, xn, xc, rfl, hSx⟩ := cond_came (hval 2 59 v2 rfl rfl) h2
  refine (fileSkips_any filed_any v0 v1 xa xn xc l rows W hSl hSr hSx hms (fun r hr v hv => (hrs r hr v hv).2) (fun r hr v hv => (hrs r hr v hv).1) (words hL) (handle hL) (table hL)).mono fun e W' ⟨he, hb⟩ => ?_
  subst he
  refine ⟨_, rfl, _, _, _, [], p0 ++ p1 ++ p2, [], hW', ?_, ?_, rfl, hb.frame _, fun h => by cases h⟩
  · exact trodAll_mk1 (shut_bool Tryz.underlying4 _)
  · have hall := trodAll_mk3 (Below.trod laidOut (by kernel_rfl) (of_decide_eq_true (by kernel_rfl)) h0 hb (fun x hx => hlt x (by simp [hx]))) (Below.trod laidOut (by kernel_rfl) (of_decide_eq_true (by kernel_rfl)) h1 hb (fun x hx => hlt x (by simp [hx]))) (Below.trod laidOut (by kernel_rfl) (of_decide_eq_true (by kernel_rfl)) h2 hb (fun x hx => hlt x (by simp [hx])))
    first
      | exact hall
      | (rw [List.append_assoc]; exact hall)
      | (rw [← List.append_assoc] at hall; exact hall)

/-- THE WITNESS: nothing, in the heap that the program's own laying of its variables leaves. -/
theorem laid_met (os : Os) : laidMetH Tryz.prog Rows.fileSkipsRow.laid ((World.doorLaid Tryz.prog 400 os).forCall (fun _ _ => 0) ⟨#[], #[.slice none 0 0, .slice none 0 0, .slice none 0 0], []⟩).memory :=
  laidMetH_of_parts (laidMet_of_run' 8 (by kernel_rfl) (by kernel_rfl)) (by kernel_rfl)
theorem reads (os : Os) {H : Type} (enc : TypeId × Value → H) : ∃ ds places, DataW.whole enc Tryz.prog ((World.doorLaid Tryz.prog 400 os).forCall (fun _ _ => 0) ⟨#[], #[.slice none 0 0, .slice none 0 0, .slice none 0 0], []⟩).memory Tryz.f5.params.toList Rows.fileSkipsSpec.vars false #[Value.slice none 0 0, .slice none 0 0, .slice none 0 0].toList 8 = some (ds, [], places) :=
  ⟨[.nil, .nil, .nil], [], by kernel_rfl⟩

set_option maxRecDepth 100000 in
/-- THE STEP FROM THE CALL TO THE ROW. -/
theorem lifted (os : Os) (started : os.Started) (H : Type) (enc : TypeId × Value → H) (F : Stop.Interp) :
    ReturnsInHanded {} Tryz.checked os 5 .any ((OpenSpec.ofChange Rows.fileSkipsSpec).preRow enc Tryz.prog Tryz.f5 Rows.fileSkipsRow.domain false Rows.fileSkipsRow.laid) (((OpenSpec.ofChange Rows.fileSkipsSpec).at F).post enc Tryz.prog Tryz.f5 false true false false) := by
  obtain ⟨ds, places, hx⟩ := reads os enc
  refine returnsInHanded_of_row (C := Tryz.checked) (s := OpenSpec.ofChange Rows.fileSkipsSpec) own started (by kernel_rfl) Tryz.func5
    (witness_row_at (enc := enc) (C := Tryz.checked) false (World.doorLaid Tryz.prog 400 os) #[.slice none 0 0, .slice none 0 0, .slice none 0 0] rfl (by kernel_rfl) (by kernel_rfl) (by kernel_rfl)
      (OpenSpec.preRow_of_cond 8 hx (by kernel_rfl) (fun k hk => by cases hk) (by kernel_rfl) (laid_met os))) ?_
  intro W base args ds gs before hval hW _ _ _ hL _ _
  exact contract H enc W base args ds gs before hval hW hL

theorem said : Rows.FileSkipsSaid :=
  OpenClaim.holds_of_cond 5 Tryz.f5 rfl rfl rfl rfl rfl rfl rfl ⟨rfl, rfl, rfl, rfl, rfl⟩ rfl rfl rfl rfl rfl (by kernel_rfl) Tryz.func5 (by kernel_rfl)
    (of_decide_eq_true (by kernel_rfl)) (by unfold Func.isWrapper; first | (rw [if_pos (by decide +kernel)]; kernel_rfl) | (rw [if_neg (by decide +kernel)]; exact ⟨rfl, rfl⟩))
    (fun os started H enc _ F => by rw [OpenClaim.pre_eq_preRow]; exact lifted os started H enc F)

theorem plain (f : FuncId) (fn : Func) (hf : Tryz.pinned.checked.prog.funcNamed "millpond/millpondkeep.FileSkips" = some f) (hfn : Tryz.pinned.checked.prog.funcs[f]? = some fn) :
    true = Tryz.pinned.checked.prog.looks [] ∧ ∀ (j : Nat) t, fn.params[j]? = some t → Tryz.pinned.checked.prog.wantsStandIn t = false := by
  obtain rfl : f = 5 := Option.some.inj ((show Tryz.prog.funcNamed "millpond/millpondkeep.FileSkips" = some 5 by kernel_rfl).symm.trans hf) |>.symm
  obtain rfl : fn = Tryz.f5 := (Option.some.inj (Tryz.func5.symm.trans hfn)).symm
  refine ⟨by kernel_rfl, fun j t ht => ?_⟩
  rw [Tryz.params5] at ht
  have hm : t ∈ [22, 23, 59] := by simpa using Array.mem_of_getElem? ht
  have hall : ([22, 23, 59].all fun u => !Tryz.prog.wantsStandIn u) = true := by kernel_rfl
  exact (show Tryz.prog.wantsStandIn t = false by simpa using List.all_eq_true.1 hall t hm)
end Go.Proofs.YtodemklghajdeaaGreatDoor.fileSkips
namespace Go.Proofs.YtodemklghajdeaaGreatDoor
/-- THE CARD. -/
theorem fileSkips_card : Rows.FileSkipsCardSaid :=
  Claim7.holds_tied_plain_at .later [] _ _ _ _ fileSkips.said (fun _ h => by cases h) (by kernel_rfl) (fun _ h => by cases h) fileSkips_row_tie rfl ⟨rfl, rfl⟩ (by kernel_rfl) rfl fileSkips.plain (by kernel_rfl)
#print axioms fileSkips_card
end Go.Proofs.YtodemklghajdeaaGreatDoor
