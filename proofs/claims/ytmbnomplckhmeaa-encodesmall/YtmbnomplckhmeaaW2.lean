/- What encode.appendValue does, said of every call. -/
import Derived.Test.YtmbnomplckhmeaaW1
namespace Go.Proofs.Ytmbnomplckhmeaa
open Go.RowKit Go.Proofs

theorem step_append_str {P : Program} {w : World} {ops : Array Oper} {o : Oper} {a : Act} {K : Act → World → Prop} {Q : Exit → Act → World → Prop} {E : Prop} (hgd : o.guard = none) (sl x : Operand) (t u : TypeId)
    (ho : o.op = .call { callee := .builtin .append, args := #[sl, x], argTypes := #[t, u] })
    (base : Nat) (e : TypeId) (i : TypeInfo) (ht : P.underlying t = some (.slice e)) (hu : P.underlying u = some .string) (hi : P.info? e = some i) (hz : i.zero = some (.int .u8 0))
    (hsize : i.size = 1) (hby : i.bytes = 1)
    (v : Value) (n : Nat) (xs : List Value) (hs : a.eval sl = v) (hown : w.ownsRow base e 1 v n xs) (s : ByteArray) (hx : a.eval x = .string s)
    (h63 : n + s.size ≤ maxLen) (hbytes : n + s.size ≤ 140737488355328) (hbase : base ≤ w.heap.size)
    (h : ∀ v' w', w'.ownsRow base e 1 v' (n + s.size) (xs ++ Lib.strCells s) → w.grownBy w' v.ownBlock → K (a.put o.dst v') w') :
    if Region.wanted o (yielded ops a.tmps) = true then Oper.wp P o a w K Q else E := by
  have hw : Region.wanted o (yielded ops a.tmps) = true := by simp [Region.wanted, hgd]
  rw [if_pos hw]
  obtain ⟨v', w', hr, h2, h3, h4⟩ := Lib.run_append_own_string (P := P) w base t u o.type e i ht hu hi hz hsize hby v n xs hown s h63 hbytes hbase
  unfold Oper.wp execOp
  simp only [ho, resolve, invoke, builtin, Sem.run_bind, Sem.run_pure, Result.andThen_ok, List.map_toArray, List.map_cons, List.map_nil, hs, hx, hr]
  exact h v' w' h2 h3

theorem byteCells_app (a b : List UInt8) : Lib.byteCells (a ++ b) = Lib.byteCells a ++ Lib.byteCells b := Lib.byteCells_append a b
theorem strCells_bytes (t : ByteArray) : Lib.strCells t = Lib.byteCells t.data.toList := rfl
theorem cell_of_wr {B : Nat} {w w' : World} (h : Wr B w w') {b : Nat} {cs : Array Value} {T : TypeId} {fr : Nat × Nat} (hb : w.heap[b]? = some (.cells cs T fr)) (hT : T ≠ 5) : w'.heap[b]? = some (.cells cs T fr) := by
  rw [h.2 b (by
    rcases Nat.lt_or_ge b w.heap.size with h' | h'
    · exact h'
    · rw [Array.getElem?_eq_none h'] at hb; cases hb) (fun cur fr' e => by rw [hb] at e; injection e with e; injection e with _ e; exact hT e)]
  exact hb

theorem blk_grown {w w' : World} {v : Value} {B n b : Nat} {xs : List Value} {cs : Array Value} {T : TypeId} {fr : Nat × Nat} (hg : w.grownBy w' v.ownBlock) (hb : w.heap[b]? = some (.cells cs T fr)) (ho : w.ownsRow B 5 1 v n xs) (hT : T ≠ 5 := by decide) : w'.heap[b]? = some (.cells cs T fr) := by
  rw [hg.block b (by
    rcases Nat.lt_or_ge b w.heap.size with h' | h'
    · exact h'
    · rw [Array.getElem?_eq_none h'] at hb; cases hb) (fun e => by
    rcases ho.2 with ⟨rfl, _⟩ | ⟨g, cap, cur, rfl, _, hh, _⟩
    · cases e
    · cases e; rw [hb] at hh; injection hh with hh; injection hh with _ hh; exact hT hh)]
  exact hb

set_option maxHeartbeats 8000000 in
set_option maxRecDepth 100000 in
theorem appendValue_any (B n : Nat) (k x : Int) (t : ByteArray) (h0 : -9223372036854775808 ≤ x) (h1 : x ≤ 9223372036854775807) (ht : t.size ≤ 1000000) (sv : Value) (xs : List Value) (w : World) (hown : w.ownsRow B 5 1 sv n xs) (hBw : B ≤ w.heap.size) (hlim : n ≤ 1000000) :
    Calls Try.prog 49 #[sv, .agg #[.int .i64 k, .int .i64 x, .string t]] w fun e w' => ∃ v', e = .returned v' ∧ w'.ownsRow B 5 1 v' (n + (valB (k, x, t)).length) (xs ++ Lib.byteCells (valB (k, x, t))) ∧ Wr B w w' := by
  obtain ⟨i0, hi, hz0, hz1, hz2⟩ := info_parts info5
  have HI := mkHid (And.intro hi (And.intro hz0 (And.intro hz1 hz2)))
  clear hi hz0 hz1 hz2
  have HO := mkHid hown
  clear hown
  by_cases hk : k = 1
  · have HV : Hid (valB (k, x, t) = Lib.uvarint (Lib.zigzag x)) := by unfold valB; rw [if_pos hk]; exact rfl
    have hb : (k == 1) = true := by simpa using hk
    have HC : Hid (∀ o, Calls Try.prog 51 #[sv, .int .i64 x] (w.alloc o) fun e w' => ∃ v', e = .returned v' ∧ w'.ownsRow B 5 1 v' (n + (Lib.uvarint (Lib.zigzag x)).length) (xs ++ Lib.byteCells (Lib.uvarint (Lib.zigzag x))) ∧ Wr B w w') := fun o =>
      (appendSigned_any B n x h0 h1 sv xs (w.alloc o) (HO.out.alloc o) (by simp; omega) (by omega)).mono fun e w' ⟨v', he, h2, h3⟩ => ⟨v', he, h2, ((Wr.refl B w).alloc hBw o).trans h3⟩
    clear hk
    rw [HV.out]
    go_enter Try.func49, Try.ntmps49
    go_wp2_with (go_at_call 51; refine (HC.out _).mono ?_; rintro e w1 ⟨v', rfl, ho, hb⟩)
    go_ret
    exact ⟨v', rfl, ho, hb⟩
  · have HV : Hid (valB (k, x, t) = Lib.uvarint t.size ++ t.data.toList) := by unfold valB; rw [if_neg hk]; exact rfl
    have hb : (k == 1) = false := by simpa using hk
    have HC : Hid (∀ W, W.heap[w.heap.size]? = some (.cells #[.int .i64 k, .int .i64 x, .string t] 32) → Wr B w W → W.ownsRow B 5 1 sv n xs → Calls Try.prog 16 #[sv, .int .u64 (IntKind.u64.wrap (t.size : Int))] W fun e w' => ∃ v', e = .returned v' ∧ w'.ownsRow B 5 1 v' (n + (Lib.uvarint t.size).length) (xs ++ Lib.byteCells (Lib.uvarint t.size)) ∧ Wr B w w' ∧ w'.heap[w.heap.size]? = some (.cells #[.int .i64 k, .int .i64 x, .string t] 32)) := fun W hh hw ho => by
      rw [show IntKind.u64.wrap (t.size : Int) = ((t.size : Nat) : Int) by rw [IntKind.wrap_u64]; omega]
      exact (append_any B n t.size (by omega) sv xs W ho (by have := hw.1.size; omega) (by omega)).mono fun e w' ⟨v', he, h2, h3⟩ => ⟨v', he, h2, hw.trans h3, cell_of_wr h3 hh (by decide)⟩
    have HK : Hid (∀ W : World, W.heap[w.heap.size]? = some (.cells #[.int .i64 k, .int .i64 x, .string t] 32) → W.cell? ⟨w.heap.size, 2, none⟩ = some (.string t)) := fun W h => by simp [World.cell?, h]
    have hul : (Lib.uvarint t.size).length ≤ 10 := Lib.uvarint_length64 (by omega)
    clear hk
    rw [HV.out]
    go_enter Try.func49, Try.ntmps49
    go_wp2_with fail
    go_region_held3 (fun w' => w'.cell? ⟨w.heap.size, 2, none⟩ = some (.string t))
      (first
        | (go_keep; done)
        | exact HK.out _ h2b
        | exact HK.out _ (h2b2))
      (first
        | (go_at_call 16; refine (HC.out _ ?_ ?_ ?_).mono ?_; exact heap_alloc_new _ _; exact ((Wr.refl B w).alloc hBw _).drew; exact HO.out.alloc _; rintro e w1 ⟨v1, rfl, ho1, hw1, h2b⟩)
        | (refine step_append_str (by rfl) (.tmp 17) (.tmp 19) 46 9 (by rfl) B 5 i0 Try.underlying46 Try.underlying9 HI.out.1 HI.out.2.1 HI.out.2.2.1 HI.out.2.2.2 v1 _ _ (by rfl) ho1 t (by rfl) (by unfold maxLen; omega) (by omega) (by have := hw1.1.size; omega) ?_; intro v2 w2 ho2 hg2; have h2b2 := blk_grown hg2 h2b ho1))
    go_wp2
    go_ret
    rw [List.length_append, ← Nat.add_assoc, byteCells_app, ← List.append_assoc]
    exact ⟨v2, rfl, ho2, hw1.grown ho1 hg2 (by have := hw1.1.size; omega)⟩
end Go.Proofs.Ytmbnomplckhmeaa
