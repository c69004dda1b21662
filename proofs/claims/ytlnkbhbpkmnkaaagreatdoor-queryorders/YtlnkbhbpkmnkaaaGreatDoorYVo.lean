/- IN ORDER, AND NO MORE, proved: at every list of columns, rows and two numbers millpondkeep.QueryOrders returns true and leaves its arguments as they were, over the program of this commit; its condition: the lists, the tables of the library, the two errors of strconv and the handle of the type error that the row names start as the text of the program lays them. -/
import Derived.Test.YtlnkbhbpkmnkaaaGreatDoorCards
import Derived.Test.YtlnkbhbpkmnkaaaGreatDoorTie
import Derived.Test.YtlnkbhbpkmnkaaaGreatDoorYWz
import Derived.Test.YtlnkbhbpkmnkaaaGreatDoorYVa
import Derived.Test.YtlnkbhbpkmnkaaaGreatDoorYVoL
namespace Go.Proofs.YtlnkbhbpkmnkaaaGreatDoor.queryOrders
open Go.ChangeShapes Go.WideShapes Go.ChangeAt Go.RowKit Go.Joins Go.Proofs Go.Proofs.YtlnkbhbpkmnkaaaGreatDoor.Ask Go.Proofs.YtlnkbhbpkmnkaaaGreatDoor.qcard
open Go.ChangeMaps (open_string shut_string)

/-- What the row's list is: the variables, and the handle. -/
theorem parts_of {W : World} (h : laidMetH Tryz.prog Rows.queryOrdersRow.laid W) : laidMet Tryz.prog dataL W ∧ handlesMet Tryz.prog [("errors.errorType", Rows.laid_errors_errorType)] W := h
set_option maxRecDepth 100000 in
/-- WHAT THE WALKS GIVE, FOR EVERY ARGUMENT AND EVERY WORLD THAT HOLDS THE VARIABLES. -/
theorem contract (H : Type) (enc : TypeId × Value → H) (W : World) (base : Nat) (args : Array Value) (ds gs : List (DataW H)) (before : List MemPlace)
    (hval : ∀ (j : Nat) t v, Tryz.f4.params[j]? = some t → args[j]? = some v → Value.okWide Tryz.prog W .any base t v)
    (hW : DataW.Whole enc Tryz.prog Tryz.f4.params.toList Rows.queryOrdersSpec.vars false W args.toList ds gs before) (hL : laidMetH Tryz.prog Rows.queryOrdersRow.laid W) :
    Calls Tryz.prog 4 args W fun e W' => ∃ v, e = .returned v ∧ Rows.queryOrdersSpec.post enc Tryz.prog Tryz.f4 false true false false W args v W' := by
  have hW' := hW
  obtain ⟨p, q, hA0, hV, rfl, hfz, hnd⟩ := hW
  have hA : DataW.TrodAll enc Tryz.prog W 0 (fun _ => true) true Tryz.f4.params.toList args.toList ds p := hA0
  rw [Tryz.params4] at hA hval
  obtain ⟨v0, v1, v2, v3, d0, d1, d2, d3, p0, p1, p2, p3, rfl, rfl, rfl, h0, h1, h2, h3⟩ := trodAll_four hA
  obtain ⟨rfl, rfl⟩ := trodVars_none hV
  clear hA0
  simp only [List.append_nil] at hW'
  have hlt : ∀ x ∈ p0 ++ p1 ++ p2 ++ p3, x.block < W.heap.size := fun x hx => hW'.lt x (by simpa using hx)
  obtain ⟨l, hSl, hms⟩ := F.open_cols (hval 0 22 v0 rfl rfl) h0
  obtain ⟨rows, hSr, hrs⟩ := F.open_rows (hval 1 23 v1 rfl rfl) h1
  obtain ⟨a, rfl, rfl, rfl, wa⟩ := open_int Tryz.underlying3 (hval 2 3 v2 rfl rfl) h2
  obtain ⟨b, rfl, rfl, rfl, wb⟩ := open_int Tryz.underlying3 (hval 3 3 v3 rfl rfl) h3
  obtain ⟨hd, hh⟩ := parts_of hL
  have hE := sentinels hd
  have hlast : 10 ≤ W.heap.size := big hd
  refine (orders_law v0 v1 l rows a b W hSl hSr hms hrs (signs hd) ⟨names hd, hE⟩ hlast (words hd) (handle hh)).mono fun e W' ⟨he, hb⟩ => ?_
  subst he
  refine ⟨_, rfl, _, _, _, [], p0 ++ p1, [], hW', ?_, ?_, rfl, hb.frame _, fun h => by cases h⟩
  · exact trodAll_mk1 (shut_bool Tryz.underlying4 _)
  · have hall := trodAll_mk4 (Below.trod laidOut (by kernel_rfl) (of_decide_eq_true (by kernel_rfl)) h0 hb (fun x hx => hlt x (by simp [hx]))) (Below.trod laidOut (by kernel_rfl) (of_decide_eq_true (by kernel_rfl)) h1 hb (fun x hx => hlt x (by simp [hx]))) (shut_int Tryz.underlying3 wa) (shut_int Tryz.underlying3 wb)
    simp only [List.append_nil] at hall
    exact hall

/-- THE WITNESS: no columns, no rows, and 0 twice, in a heap that holds the variables. -/
theorem laid_met (os : Os) : laidMetH Tryz.prog Rows.queryOrdersRow.laid ((wit os).forCall (fun _ _ => 0) ⟨#[], #[.slice none 0 0, .slice none 0 0, .int .i64 0, .int .i64 0], []⟩).memory :=
  laidMetH_of_parts (laidMet_from (w0 := w00 os) (laid := dataL) _ (by kernel_rfl) (by kernel_rfl)) (by kernel_rfl)
theorem reads (os : Os) {H : Type} (enc : TypeId × Value → H) : ∃ ds places, DataW.whole enc Tryz.prog ((wit os).forCall (fun _ _ => 0) ⟨#[], #[.slice none 0 0, .slice none 0 0, .int .i64 0, .int .i64 0], []⟩).memory Tryz.f4.params.toList Rows.queryOrdersSpec.vars false #[Value.slice none 0 0, .slice none 0 0, .int .i64 0, .int .i64 0].toList 8 = some (ds, [], places) :=
  ⟨[.nil, .nil, .lit (.int .i64 0), .lit (.int .i64 0)], [], by kernel_rfl⟩

set_option maxRecDepth 100000 in
/-- THE STEP FROM THE CALL TO THE ROW. -/
theorem lifted (os : Os) (started : os.Started) (H : Type) (enc : TypeId × Value → H) (F : Stop.Interp) :
    ReturnsInHanded {} Tryz.checked os 4 .any ((OpenSpec.ofChange Rows.queryOrdersSpec).preRow enc Tryz.prog Tryz.f4 Rows.queryOrdersRow.domain false Rows.queryOrdersRow.laid) (((OpenSpec.ofChange Rows.queryOrdersSpec).at F).post enc Tryz.prog Tryz.f4 false true false false) := by
  obtain ⟨ds, places, hx⟩ := reads os enc
  refine returnsInHanded_of_row (C := Tryz.checked) (s := OpenSpec.ofChange Rows.queryOrdersSpec) own started (by kernel_rfl) Tryz.func4
    (witness_row_at (enc := enc) (C := Tryz.checked) false (wit os) #[.slice none 0 0, .slice none 0 0, .int .i64 0, .int .i64 0] (wit_os os) (by kernel_rfl) (by kernel_rfl) (by kernel_rfl)
      (OpenSpec.preRow_of_cond 8 hx (by kernel_rfl) (fun k hk => by cases hk) (by kernel_rfl) (laid_met os))) ?_
  intro W base args ds gs before hval hW _ _ _ hL _ _
  exact contract H enc W base args ds gs before hval hW hL

theorem s1 : Tryz.pinned.checked.prog.funcNamed Rows.queryOrdersRow.func = some 4 := by kernel_rfl
theorem s2 : Tryz.f4.isWrapper Tryz.pinned.checked.prog Rows.queryOrdersRow.wrapper Rows.queryOrdersRow.mainSum := by
  unfold Func.isWrapper
  first | (rw [if_pos (by decide +kernel)]; kernel_rfl) | (rw [if_neg (by decide +kernel)]; exact ⟨rfl, rfl⟩)
theorem s3 : Tryz.f4.isInstance Tryz.pinned.checked.prog Rows.queryOrdersRow.origin Rows.queryOrdersRow.targs := of_decide_eq_true (by kernel_rfl)
theorem said : Rows.QueryOrdersSaid :=
  OpenClaim.holds_of_cond 4 Tryz.f4 rfl rfl rfl rfl rfl rfl rfl ⟨rfl, rfl, rfl, rfl, rfl⟩ rfl rfl rfl rfl rfl s1 Tryz.func4 closed s3 s2
    (fun os started H enc _ F => by rw [OpenClaim.pre_eq_preRow]; exact lifted os started H enc F)

theorem plain (f : FuncId) (fn : Func) (hf : Tryz.pinned.checked.prog.funcNamed "millpond/millpondkeep.QueryOrders" = some f) (hfn : Tryz.pinned.checked.prog.funcs[f]? = some fn) :
    true = Tryz.pinned.checked.prog.looks [] ∧ ∀ (j : Nat) t, fn.params[j]? = some t → Tryz.pinned.checked.prog.wantsStandIn t = false := by
  obtain rfl : f = 4 := Option.some.inj ((show Tryz.prog.funcNamed "millpond/millpondkeep.QueryOrders" = some 4 by kernel_rfl).symm.trans hf) |>.symm
  obtain rfl : fn = Tryz.f4 := (Option.some.inj (Tryz.func4.symm.trans hfn)).symm
  refine ⟨by kernel_rfl, fun j t ht => ?_⟩
  rw [Tryz.params4] at ht
  have hm : t ∈ [22, 23, 3, 3] := by simpa using Array.mem_of_getElem? ht
  have hall : ([22, 23, 3, 3].all fun u => !Tryz.prog.wantsStandIn u) = true := by kernel_rfl
  exact (show Tryz.prog.wantsStandIn t = false by simpa using List.all_eq_true.1 hall t hm)
end Go.Proofs.YtlnkbhbpkmnkaaaGreatDoor.queryOrders
namespace Go.Proofs.YtlnkbhbpkmnkaaaGreatDoor
/-- THE CARD. -/
theorem queryOrders_card : Rows.QueryOrdersCardSaid :=
  Claim7.holds_tied_plain_at .later [] _ _ _ _ queryOrders.said (fun _ h => by cases h) (by kernel_rfl) (fun _ h => by cases h) queryOrders_row_tie rfl ⟨rfl, rfl⟩ (by kernel_rfl) rfl queryOrders.plain (by kernel_rfl)
end Go.Proofs.YtlnkbhbpkmnkaaaGreatDoor
