/- WHAT IS NOT KNOWN STAYS UNKNOWN, proved: at every two lists of parts and every two values millpondkeep.ValueLogic returns true and leaves its arguments as they were, over this commit's program; its condition: the library's three tables of numbers start as the program's own text lays them (the given tie). -/
import Derived.Test.YtmghdphafepifaaDoorCards
import Derived.Test.YtmghdphafepifaaDoorTie
import Derived.Test.YtmghdphafepifaaDoorL6
import Derived.Test.YtmghdphafepifaaDoorL7
import Derived.Deep.DeepHandedRow
import Derived.Lib.LaidTab
import Derived.LaidMore
import Derived.Stop.LaidErr
namespace Go.Proofs.YtmghdphafepifaaDoor.valueLogic
open Go.ChangeShapes Go.WideShapes Go.ChangeAt Go.RowKit Go.Joins Go.Proofs

set_option maxHeartbeats 2000000 in
set_option maxRecDepth 100000 in
theorem vl_long (lv mv : Value) (ka na kb nb : Int) (ta tb : ByteArray) (w : World) (hta : ta.size ≤ 2 ^ 48) (htb : tb.size ≤ 2 ^ 48) (hlen : (200 : Int) < (ta.size : Int) + tb.size) :
    Calls Tryd.prog 4 #[lv, mv, .agg #[.int .i64 ka, .int .i64 na, .string ta], .agg #[.int .i64 kb, .int .i64 nb, .string tb]] w fun e w' => e = .returned (.bool true) ∧ Below w.heap.size w w' := by
  go_enter Tryd.func4, Tryd.ntmps4
  go_wp2
  go_ret
  exact ⟨rfl, below2 w _ _⟩

theorem any (lv mv : Value) (ka na kb nb : Int) (ta tb : ByteArray) (w : World) (hta : ta.size ≤ 2 ^ 48) (htb : tb.size ≤ 2 ^ 48) (htab : TabB w)
    (hcl : ∀ W, Below w.heap.size w W → Calls Tryd.prog 12 #[lv] W fun e w' => ∃ v T, e = .returned v ∧ InC w' T v ∧ depthT T ≤ 14 ∧ Below W.heap.size W w')
    (hcm : ∀ W, Below w.heap.size w W → Calls Tryd.prog 12 #[mv] W fun e w' => ∃ v T, e = .returned v ∧ InC w' T v ∧ depthT T ≤ 14 ∧ Below W.heap.size W w') :
    Calls Tryd.prog 4 #[lv, mv, .agg #[.int .i64 ka, .int .i64 na, .string ta], .agg #[.int .i64 kb, .int .i64 nb, .string tb]] w fun e w' => e = .returned (.bool true) ∧ Below w.heap.size w w' := by
  by_cases hlen : (200 : Int) < (ta.size : Int) + tb.size
  · exact vl_long lv mv ka na kb nb ta tb w hta htb hlen
  have la : ta.size ≤ maxLen := by unfold maxLen; omega
  have lb : tb.size ≤ maxLen := by unfold maxLen; omega
  cases hok : ok2 ka na kb nb ta tb with
  | false => exact vl_wrong lv mv ka na kb nb ta tb w la lb htab (by omega) hcl hcm hok
  | true => exact vl_right lv mv ka na kb nb ta tb w la lb htab (by omega) hcl hcm hok

theorem own : ownKnob Tryd.prog.godebug = none := by kernel_rfl
theorem laidOut : laidOutB Tryd.prog = true := by kernel_rfl
theorem gTab : Tryd.prog.globalNamed "internal/strconv.uint64pow10" = some 0 := by kernel_rfl
theorem gTabType : (Tryd.prog.globals[0]?).map (·.type) = some 87 := by kernel_rfl
theorem cells65 : Tryd.prog.cellsOf 79 = 1 := by kernel_rfl
theorem cells72 : Tryd.prog.cellsOf 87 = 20 := by kernel_rfl

/-- WHAT THE ROW's LIST GIVES: the third table's cells hold the powers of ten. -/
theorem table {W : World} (h : laidMetH Tryd.prog Rows.valueLogicRow.laid W) : TabB W :=
  Lib.tabIs_of_head (rest := []) (zs := Lib.pow10Tab) gTab gTabType Tryd.underlying87 Tryd.underlying79 cells65 cells72 (laidMet.tail (laidMet.tail h))

theorem open_value {H : Type} {enc : TypeId × Value → H} {W : World} {b0 : Nat} {v : Value} {d : DataW H} {p : List MemPlace} (hv : Value.okWide Tryd.prog W .any b0 23 v) (h : DataW.Trod enc Tryd.prog W 0 (fun _ => true) true 23 v d p) :
    ∃ (k n : Int) (t : ByteArray), v = .agg #[.int .i64 k, .int .i64 n, .string t] ∧ d = .agg [.lit (.int .i64 k), .lit (.int .i64 n), .lit (.string t.data.toList)] ∧ p = [] ∧ (Lit.int .i64 k).wf = true ∧ (Lit.int .i64 n).wf = true ∧ t.size ≤ maxLen := by
  obtain ⟨v0, v1, v2, y0, y1, y2, m, rfl, rfl, rfl, g0, g1, g2⟩ := open_agg3 Tryd.underlying23 (by kernel_rfl) cellsV hv h
  obtain ⟨k, e0, rfl, wk⟩ := DataW.trod_int Tryd.underlying3 g0
  obtain ⟨n, e1, rfl, wn⟩ := DataW.trod_int Tryd.underlying2 g1
  obtain ⟨t, e2, rfl, wt⟩ := DataW.trod_string Tryd.underlying9 g2
  simp at e0 e1 e2
  subst e0 e1 e2
  exact ⟨k, n, t, rfl, rfl, rfl, wk, wn, wt⟩
theorem shut_value {H : Type} (enc : TypeId × Value → H) (W : World) {k n : Int} {t : ByteArray} (sp : Nat → Bool) (hd : Bool) (base : Nat) (wk : (Lit.int .i64 k).wf = true) (wn : (Lit.int .i64 n).wf = true) (wt : t.size ≤ maxLen) :
    DataW.Trod enc Tryd.prog W base sp hd 23 (.agg #[.int .i64 k, .int .i64 n, .string t]) (.agg [.lit (.int .i64 k), .lit (.int .i64 n), .lit (.string t.data.toList)]) [] :=
  shut_agg3 (y0 := (.lit (.int .i64 k), [])) (y1 := (.lit (.int .i64 n), [])) (y2 := (.lit (.string t.data.toList), [])) Tryd.underlying23 (by kernel_rfl) cellsV
    ⟨1, by simp [DataW.trod, Tryd.underlying3, wk]⟩ ⟨1, by simp [DataW.trod, Tryd.underlying2, wn]⟩ ⟨1, by simp [DataW.trod, Tryd.underlying9, wt]⟩

theorem sized_value {H : Type} {ts : List TypeId} {ds : List (DataW H)} (h : (DataW.weightsEach Tryd.prog ts ds).all (· ≤ reachBytes) = true) {j : Nat} {k n : Int} {t : ByteArray} (ht : ts[j]? = some 23)
    (hd : ds[j]? = some (.agg [.lit (.int .i64 k), .lit (.int .i64 n), .lit (.string t.data.toList)])) : t.size ≤ 2 ^ 48 := by
  have := List.all_eq_true.1 h _ (DataW.weights_mem_each ht hd t.data.toList.length (by simp [DataW.weights, DataW.weightsEach, Tryd.underlying23]))
  have e : t.size = t.data.toList.length := by rw [Array.length_toList]; rfl
  have r := reachBytes_lt
  simp only [decide_eq_true_eq] at this
  omega

/-- A list of parts that came in: what cond makes of it, in every later world. -/
theorem cond_in {H : Type} {enc : TypeId × Value → H} {W : World} {b0 : Nat} {v : Value} {d : DataW H} {p : List MemPlace} (hv : Value.okWide Tryd.prog W .any b0 31 v) (h : DataW.Trod enc Tryd.prog W 0 (fun _ => true) true 31 v d p) :
    ∀ W', Below W.heap.size W W' → Calls Tryd.prog 12 #[v] W' fun e w' => ∃ v T, e = .returned v ∧ InC w' T v ∧ depthT T ≤ 14 ∧ Below W'.heap.size W' w' := by
  intro W' hb
  rcases open_parts hv h with ⟨ao, cap, rfl⟩ | ⟨bl, ol, L, cap, P, rfl, hL, hcap, hT, hbl, q0, q1, q2, q3, q4⟩
  · exact cond_zero ao cap W'
  · have hbl' : bl < W'.heap.size := Nat.lt_of_lt_of_le hbl hb.size
    exact cond_some bl ol L cap (fun j => (P j).c) (fun j => (P j).k) (fun j => (P j).m) (fun j => (P j).l) (fun j => (P j).t) W' hL hcap hT hbl'
      (fun j hj => (hb.cell (p := ⟨bl, ol + j * 5, none⟩) hbl).trans (q0 j hj)) (fun j hj => (hb.cell (p := ⟨bl, ol + j * 5 + 1, none⟩) hbl).trans (q1 j hj)) (fun j hj => (hb.cell (p := ⟨bl, ol + j * 5 + 2, none⟩) hbl).trans (q2 j hj))
      (fun j hj => (hb.cell (p := ⟨bl, ol + j * 5 + 3, none⟩) hbl).trans (q3 j hj)) (fun j hj => (hb.cell (p := ⟨bl, ol + j * 5 + 4, none⟩) hbl).trans (q4 j hj))

/-- WHAT THE WALKS GIVE, FOR EVERY ARGUMENT AND EVERY WORLD THAT HOLDS THE TABLE. -/
theorem contract (H : Type) (enc : TypeId × Value → H) (W : World) (base : Nat) (args : Array Value) (ds gs : List (DataW H)) (before : List MemPlace)
    (hval : ∀ (j : Nat) t v, Tryd.f4.params[j]? = some t → args[j]? = some v → Value.okWide Tryd.prog W .any base t v)
    (hW : DataW.Whole enc Tryd.prog Tryd.f4.params.toList Rows.valueLogicSpec.vars false W args.toList ds gs before) (hL : laidMetH Tryd.prog Rows.valueLogicRow.laid W)
    (hz : (DataW.weightsEach Tryd.prog (Tryd.f4.params.toList ++ Rows.valueLogicSpec.plain.varTypes Tryd.prog) (ds ++ gs)).all (· ≤ reachBytes) = true) :
    Calls Tryd.prog 4 args W fun e W' => ∃ v, e = .returned v ∧ Rows.valueLogicSpec.post enc Tryd.prog Tryd.f4 false true false false W args v W' := by
  have hW' := hW
  obtain ⟨p, q, hA0, hV, rfl, hfz, hnd⟩ := hW
  have hA : DataW.TrodAll enc Tryd.prog W 0 (fun _ => true) true Tryd.f4.params.toList args.toList ds p := hA0
  rw [Tryd.params4] at hA hval hz
  obtain ⟨v0, v1, v2, v3, d0, d1, d2, d3, p0, p1, p2, p3, rfl, rfl, rfl, h0, h1, h2, h3⟩ := trodAll_four hA
  obtain ⟨rfl, rfl⟩ := trodVars_none hV
  obtain ⟨ka, na, ta, rfl, rfl, rfl, wka, wna, wta⟩ := open_value (hval 2 23 v2 rfl rfl) h2
  obtain ⟨kb, nb, tb, rfl, rfl, rfl, wkb, wnb, wtb⟩ := open_value (hval 3 23 v3 rfl rfl) h3
  clear hA0
  simp only [List.append_nil] at hW'
  have hlt0 : ∀ x ∈ p0, x.block < W.heap.size := fun x hx => hW'.lt x (by simp [hx])
  have hlt1 : ∀ x ∈ p1, x.block < W.heap.size := fun x hx => hW'.lt x (by simp [hx])
  refine (any v0 v1 ka na kb nb ta tb W (sized_value hz (j := 2) rfl rfl) (sized_value hz (j := 3) rfl rfl) (table hL) (cond_in (hval 0 31 v0 rfl rfl) h0) (cond_in (hval 1 31 v1 rfl rfl) h1)).mono fun e W' ⟨he, hb⟩ => ?_
  subst he
  refine ⟨_, rfl, _, _, _, [], p0 ++ p1, [], hW', ?_, ?_, rfl, hb.frame _, fun h => by cases h⟩
  · exact trodAll_mk1 (shut_bool Tryd.underlying4 _)
  · have hall := trodAll_mk4 (Below.trod laidOut (by kernel_rfl) (of_decide_eq_true (by kernel_rfl)) h0 hb hlt0) (Below.trod laidOut (by kernel_rfl) (of_decide_eq_true (by kernel_rfl)) h1 hb hlt1) (shut_value enc W' _ _ _ wka wna wta) (shut_value enc W' _ _ _ wkb wnb wtb)
    simp only [List.append_nil] at hall
    exact hall

/-- THE WITNESS: no parts and twice nothing, in the heap that the program's own laying of its tables leaves. -/
theorem laid_met (os : Os) : laidMet Tryd.prog Rows.valueLogicRow.laid ((World.doorLaid Tryd.prog 24 os).forCall (fun _ _ => 0) ⟨#[], #[.slice none 0 0, .slice none 0 0, .agg #[.int .i64 0, .int .i64 0, .string ⟨#[]⟩], .agg #[.int .i64 0, .int .i64 0, .string ⟨#[]⟩]], []⟩).memory :=
  laidMet_of_run' 8 (by kernel_rfl) (by kernel_rfl)
theorem reads (os : Os) {H : Type} (enc : TypeId × Value → H) : ∃ ds places, DataW.whole enc Tryd.prog ((World.doorLaid Tryd.prog 24 os).forCall (fun _ _ => 0) ⟨#[], #[.slice none 0 0, .slice none 0 0, .agg #[.int .i64 0, .int .i64 0, .string ⟨#[]⟩], .agg #[.int .i64 0, .int .i64 0, .string ⟨#[]⟩]], []⟩).memory Tryd.f4.params.toList Rows.valueLogicSpec.vars false #[Value.slice none 0 0, .slice none 0 0, .agg #[.int .i64 0, .int .i64 0, .string ⟨#[]⟩], .agg #[.int .i64 0, .int .i64 0, .string ⟨#[]⟩]].toList 8 = some (ds, [], places) :=
  ⟨[.nil, .nil, .agg [.lit (.int .i64 0), .lit (.int .i64 0), .lit (.string [])], .agg [.lit (.int .i64 0), .lit (.int .i64 0), .lit (.string [])]], [], by kernel_rfl⟩

set_option maxRecDepth 100000 in
/-- THE STEP FROM THE CALL TO THE ROW. -/
theorem lifted (os : Os) (started : os.Started) (H : Type) (enc : TypeId × Value → H) (F : Stop.Interp) :
    ReturnsInHanded {} Tryd.checked os 4 .any ((OpenSpec.ofChange Rows.valueLogicSpec).preRow enc Tryd.prog Tryd.f4 Rows.valueLogicRow.domain false Rows.valueLogicRow.laid) (((OpenSpec.ofChange Rows.valueLogicSpec).at F).post enc Tryd.prog Tryd.f4 false true false false) := by
  obtain ⟨ds, places, hx⟩ := reads os enc
  refine returnsInHanded_of_row (C := Tryd.checked) (s := OpenSpec.ofChange Rows.valueLogicSpec) own started (by kernel_rfl) Tryd.func4
    (witness_row_at (enc := enc) (C := Tryd.checked) false (World.doorLaid Tryd.prog 24 os) #[.slice none 0 0, .slice none 0 0, .agg #[.int .i64 0, .int .i64 0, .string ⟨#[]⟩], .agg #[.int .i64 0, .int .i64 0, .string ⟨#[]⟩]] rfl (by kernel_rfl) (by kernel_rfl) (by kernel_rfl)
      (OpenSpec.preRow_of_cond 8 hx (by kernel_rfl) (fun k hk => by cases hk) (by kernel_rfl) (laid_met os))) ?_
  intro W base args ds gs before hval hW _ _ hz hL _ _
  exact contract H enc W base args ds gs before hval hW hL hz

theorem said : Rows.ValueLogicSaid :=
  OpenClaim.holds_of_cond 4 Tryd.f4 rfl rfl rfl rfl rfl rfl rfl ⟨rfl, rfl, rfl, rfl, rfl⟩ rfl rfl rfl rfl rfl (by kernel_rfl) Tryd.func4 (by kernel_rfl)
    (of_decide_eq_true (by kernel_rfl)) (by unfold Func.isWrapper; first | (rw [if_pos (by decide +kernel)]; kernel_rfl) | (rw [if_neg (by decide +kernel)]; exact ⟨rfl, rfl⟩))
    (fun os started H enc _ F => by rw [OpenClaim.pre_eq_preRow]; exact lifted os started H enc F)

theorem plain (f : FuncId) (fn : Func) (hf : Tryd.pinned.checked.prog.funcNamed "millpond/millpondkeep.ValueLogic" = some f) (hfn : Tryd.pinned.checked.prog.funcs[f]? = some fn) :
    false = Tryd.pinned.checked.prog.looks [] ∧ ∀ (j : Nat) t, fn.params[j]? = some t → Tryd.pinned.checked.prog.wantsStandIn t = false := by
  obtain rfl : f = 4 := Option.some.inj ((show Tryd.prog.funcNamed "millpond/millpondkeep.ValueLogic" = some 4 by kernel_rfl).symm.trans hf) |>.symm
  obtain rfl : fn = Tryd.f4 := (Option.some.inj (Tryd.func4.symm.trans hfn)).symm
  refine ⟨by kernel_rfl, fun j t ht => ?_⟩
  rw [Tryd.params4] at ht
  have hm : t ∈ [31, 31, 23, 23] := by simpa using Array.mem_of_getElem? ht
  have hall : ([31, 31, 23, 23].all fun u => !Tryd.prog.wantsStandIn u) = true := by kernel_rfl
  exact (show Tryd.prog.wantsStandIn t = false by simpa using List.all_eq_true.1 hall t hm)
end Go.Proofs.YtmghdphafepifaaDoor.valueLogic
namespace Go.Proofs.YtmghdphafepifaaDoor
/-- THE CARD. -/
theorem valueLogic_card : Rows.ValueLogicCardSaid :=
  Claim7.holds_tied_plain_at .later [] _ _ _ _ valueLogic.said (fun _ h => by cases h) (by kernel_rfl) (fun _ h => by cases h) valueLogic_row_tie rfl ⟨rfl, rfl⟩ (by kernel_rfl) rfl valueLogic.plain (by kernel_rfl)
#print axioms valueLogic_card
end Go.Proofs.YtmghdphafepifaaDoor
