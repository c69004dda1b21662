/- What log.line does, said of every call. -/
import Derived.Test.YtfppidnfomelpaaGreatDoorP5
namespace Go.Proofs.YtfppidnfomelpaaGreatDoor
open Go.RowKit Go.Proofs Go.Lib Go.Joins

/-- A column whose numbers and texts are not too great to be written. -/
structure ColOk (c : Col) : Prop where
  id : I64 c.1
  name : c.2.1.size ≤ 100
  kind : I64 c.2.2.1
  num : I64 c.2.2.2.2.2.1
  text : c.2.2.2.2.2.2.size ≤ 100
theorem ColOk.size {c : Col} (h : ColOk c) : (columnB c).size ≤ 600 := columnB_size h.id h.name h.kind h.num h.text
theorem column_col (c : Col) (w : World) (h : ColOk c) (ht : TabB w) : Calls Tryz.prog 58 #[.agg (encC c).toArray] w fun e w' => e = .returned (.string (columnB c)) ∧ Below w.heap.size w w' :=
  column_any c.1 c.2.1 c.2.2.1 c.2.2.2.1 c.2.2.2.2.1 c.2.2.2.2.2.1 c.2.2.2.2.2.2 w h.id h.kind h.num h.name h.text ht

set_option maxHeartbeats 1000000 in
set_option maxRecDepth 100000 in
theorem joinedC_any (v : Value) (l : List Col) (sep : ByteArray) (w : World) (h : LiC w v l) (hl : l.length ≤ 100) (hn : ∀ x ∈ l, ColOk x) (hs : sep.size ≤ 1) (ht : TabB w) :
    Calls Tryz.prog 57 #[v, .string sep, .func (.func 58) #[] #[]] w fun e w' => e = .returned (.string (joinB (l.map columnB) sep)) ∧ Below w.heap.size w w' := by
  have e48 : ∀ args w, (callFunc 58 args).run Tryz.prog w = .ok (.enter 58 args) w := enters_of Tryz.func58 (by kernel_rfl) rfl
  have HJ : Hid (∀ (W : World) (tv : Value), W.ownsRow w.heap.size 9 1 tv l.length ((l.map columnB).map (.string ·)) → Calls Tryz.prog 89 #[tv, .string sep] W fun e w' => e = .returned (.string (joinB (l.map columnB) sep)) ∧ Below W.heap.size W w') := fun W tv hW => join_own _ tv (l.map columnB) sep W (by rw [List.length_map]; exact hW) (by simp; omega) (by
      have := joinB_size (b := 600) (xs := l.map columnB) (sep := sep) (by intro x hx; obtain ⟨y, hy, rfl⟩ := List.mem_map.1 hx; exact (hn y hy).size)
      rw [List.length_map] at this
      have h2 : l.length * (600 + sep.size) ≤ 100 * 601 := Nat.mul_le_mul hl (by omega)
      omega)
  have HIT : Hid (∀ j, j < l.length → ∀ W, Below w.heap.size w W → Calls Tryz.prog 58 #[.agg (encC l[j]!).toArray] W fun e w' => e = .returned (.string (columnB l[j]!)) ∧ Below W.heap.size W w') := fun j hj W hW => column_col _ W (hn _ (by rw [getElem!_pos l j hj]; exact List.getElem_mem hj)) (ht.below hW)
  have hlen : (∃ a c, v = .slice a 0 c) ∧ l = [] ∨ ∃ g o c, v = .slice (some ⟨g, o, none⟩) l.length c ∧ SlC w g o l := by
    rcases h with h | ⟨g, o, c, h1, _, h4⟩
    · exact .inl h
    · exact .inr ⟨g, o, c, h1, h4⟩
  obtain ⟨iT, hiT, hzT, hz1T, hz2T⟩ := info_parts infoStr
  have HIT2 := mkH (And.intro hiT (And.intro hzT (And.intro hz1T hz2T)))
  have HTK : Hid (∀ k, k < l.length → ((l.take (k + 1)).map columnB).map (Value.string ·) = ((l.take k).map columnB).map (Value.string ·) ++ [.string (columnB l[k]!)]) := fun k hk => by
    rw [List.take_add_one, List.getElem?_eq_getElem hk, getElem!_pos l k hk, List.map_append, List.map_append]; rfl
  have HAL : Hid (∀ (W : World) (tv : Value), W.ownsRow w.heap.size 9 1 tv l.length (((l.take l.length).map columnB).map (Value.string ·)) → W.ownsRow w.heap.size 9 1 tv l.length ((l.map columnB).map (.string ·))) := fun W tv hW => by rwa [List.take_length] at hW
  clear h hn ht hiT hzT hz1T hz2T
  generalize joinB (l.map columnB) sep = res at *
  rcases hlen with ⟨⟨_, _, rfl⟩, rfl⟩ | ⟨g, o, c, rfl, hc⟩
  · have HJ0 : Hid (Calls Tryz.prog 89 #[.slice none 0 0, .string sep] w fun e w' => e = .returned (.string res) ∧ Below w.heap.size w w') := mkH (HJ.out w (.slice none 0 0) (World.ownsRow_nil w w.heap.size 9 1))
    clear HJ HIT HTK HAL
    go_enter Tryz.func57, Tryz.ntmps57
    go_wp2
    go_loopw [7, 12] (fun tv vi wr => tv = .slice none 0 0 ∧ vi = .int .i64 0 ∧ wr = w) (fun _ _ _ => 0)
    case atStart => exact ⟨rfl, rfl, rfl⟩
    case round =>
      obtain ⟨rfl, rfl, rfl⟩ := hrel
      go_wp2_with (go_at_call 89; refine HJ0.out.mono ?_; rintro e w1 ⟨rfl, hb1⟩)
      go_ret
      exact ⟨rfl, hb1⟩
  · have HC := mkH hc
    clear hc
    go_enter Tryz.func57, Tryz.ntmps57
    go_wp2
    go_loopw [7, 12] (fun tv vi wr => ∃ k : Nat, k ≤ l.length ∧ vi = .int .i64 k ∧ Hid (wr.ownsRow w.heap.size 9 1 tv k (((l.take k).map columnB).map (.string ·))) ∧ Hid (Below w.heap.size w wr)) (fun _ vi _ => l.length - (intOf vi).toNat)
    case atStart => exact ⟨0, Nat.zero_le _, rfl, mkH (World.ownsRow_nil _ _ _ _), mkH (Below.refl _ _)⟩
    case round =>
      obtain ⟨k, hk, rfl, RO, BW⟩ := hrel
      obtain ⟨ta, tc, rfl, _⟩ := own_slice RO.out
      by_cases hlt : k < l.length
      · have hltz : (k : Int) < (l.length : Int) := by omega
        obtain ⟨⟨x1, x2, x3, x4, x5, x6, x7⟩, hx⟩ : ∃ x, l[k]! = x := ⟨_, rfl⟩
        obtain ⟨q0, q1, q2, q3, q4, q5, q6⟩ := (HC.out.below BW.out).cells hlt hx
        have HI := mkH (HIT.out k hlt)
        have HTN := mkH (HTK.out k hlt)
        rw [hx] at HI HTN
        generalize columnB (x1, x2, x3, x4, x5, x6, x7) = ix at HI HTN
        replace HI : Hid (∀ W, Below w.heap.size w W → Calls Tryz.prog 58 #[.agg #[.int .i64 x1, .string x2, .int .i64 x3, .bool x4, .int .i64 x5, .int .i64 x6, .string x7]] W fun e w' => e = .returned (.string ix) ∧ Below W.heap.size W w') := HI
        have HBA := mkH (BW.out.alloc BW.out.size (.cells #[.int .i64 x1, .string x2, .int .i64 x3, .bool x4, .int .i64 x5, .int .i64 x6, .string x7] 67))
        have HRA := mkH (own_up RO.out ((Below.refl wr.heap.size wr).alloc (Nat.le_refl _) (.cells #[.int .i64 x1, .string x2, .int .i64 x3, .bool x4, .int .i64 x5, .int .i64 x6, .string x7] 67)))
        clear hx
        go_wp2_with (first
          | (go_at_fn 58; refine (HI.out _ HBA.out).mono ?_; rintro e w1 ⟨rfl, hb1⟩; have hs1 := hb1.size; have hsw := HBA.out.size)
          | (at_builtin; refine wpList_append_own _ rfl _ _ 146 rfl w.heap.size 9 iT (.string ⟨#[]⟩) 1 16 Tryz.underlying146 HIT2.out.1 HIT2.out.2.1 HIT2.out.2.2.1 HIT2.out.2.2.2 rfl (by decide) _ _ _ rfl ((own_up HRA.out hb1).alloc _) ⟨w1.heap.size, 0, none⟩ 1 1 [.string ix] rfl rfl (fun j u hj => World.news_of_block (heap_alloc_new _ _) j u hj) (by intro u hu; simp at hu; subst hu; rfl) ?d3 ?d4 ?d5 ?_))
        case d3 => unfold maxLen; omega
        case d4 => omega
        case d5 => simp; omega
        intro v2 w2 ho2 hg2 _
        have hb2 : Below w.heap.size w w2 := ((HBA.out.trans (hb1.mono hsw)).alloc (by omega) _).grown hg2 (by simp; omega) (fun j hj => (HRA.out.lt j hj).1)
        obtain ⟨va, vc, rfl, _⟩ := own_slice ho2
        go_wp2
        exact ⟨⟨k + 1, by omega, by go_num, mkH (by rw [HTN.out]; simpa using ho2), mkH hb2⟩, by simp [intOf]; omega⟩
      · have hkl : k = l.length := by omega
        subst hkl
        have HJ2 := mkH (HJ.out _ _ (HAL.out _ _ RO.out))
        go_wp2_with (go_at_call 89; refine HJ2.out.mono ?_; rintro e w1 ⟨rfl, hb1⟩)
        go_ret
        exact ⟨rfl, Below.ups BW.out hb1⟩
end Go.Proofs.YtfppidnfomelpaaGreatDoor

namespace Go.Proofs.YtfppidnfomelpaaGreatDoor
open Go.RowKit Go.Proofs Go.Lib Go.Joins
open Go.Sort (grow)

/-- An action whose numbers and texts are not too great to be written. -/
structure LineOk (a : Actn) : Prop where
  path : a.2.1.size ≤ 100
  rows : I64 a.2.2.1
  mask : ∀ x ∈ a.2.2.2.1, I64 x
  few : a.2.2.2.1.length ≤ 100
  cols : ∀ x ∈ a.2.2.2.2.1, ColOk x
  few2 : a.2.2.2.2.1.length ≤ 100
  next : I64 a.2.2.2.2.2
def lineB (a : Actn) : ByteArray :=
  if a.1 = 1 then ⟨#[97, 100, 100, 32]⟩ ++ a.2.1 ++ ⟨#[32]⟩ ++ itoaB a.2.2.1
  else if a.1 = 2 then ⟨#[114, 101, 109, 111, 118, 101, 32]⟩ ++ a.2.1
  else if a.1 = 3 then ⟨#[109, 97, 115, 107, 32]⟩ ++ a.2.1 ++ ⟨#[32]⟩ ++ joinB (a.2.2.2.1.map itoaB) ⟨#[44]⟩
  else ⟨#[115, 99, 104, 101, 109, 97, 32]⟩ ++ itoaB a.2.2.2.2.2 ++ ⟨#[32]⟩ ++ joinB (a.2.2.2.2.1.map columnB) ⟨#[59]⟩
theorem joinI_size {l : List Int} (hn : ∀ x ∈ l, I64 x) (hl : l.length ≤ 100) : (joinB (l.map itoaB) ⟨#[44]⟩).size ≤ 2200 := by
  have := joinB_size (b := 21) (xs := l.map itoaB) (sep := ⟨#[44]⟩) (by intro x hx; obtain ⟨y, hy, rfl⟩ := List.mem_map.1 hx; exact itoaB_size (hn y hy))
  rw [List.length_map] at this
  have e : (⟨#[44]⟩ : ByteArray).size = 1 := rfl
  rw [e] at this
  have h2 : l.length * (21 + 1) ≤ 100 * 22 := Nat.mul_le_mul hl (by omega)
  omega
theorem joinC_size {l : List Col} (hn : ∀ x ∈ l, ColOk x) (hl : l.length ≤ 100) : (joinB (l.map columnB) ⟨#[59]⟩).size ≤ 60100 := by
  have := joinB_size (b := 600) (xs := l.map columnB) (sep := ⟨#[59]⟩) (by intro x hx; obtain ⟨y, hy, rfl⟩ := List.mem_map.1 hx; exact (hn y hy).size)
  rw [List.length_map] at this
  have e : (⟨#[59]⟩ : ByteArray).size = 1 := rfl
  rw [e] at this
  have h2 : l.length * (600 + 1) ≤ 100 * 601 := Nat.mul_le_mul hl (by omega)
  omega
theorem lineB_size {a : Actn} (h : LineOk a) : (lineB a).size ≤ 61000 := by
  have h1 := itoaB_size h.rows
  have h2 := itoaB_size h.next
  have h3 := joinI_size h.mask h.few
  have h4 := joinC_size h.cols h.few2
  have h5 := h.path
  have e1 : (⟨#[97, 100, 100, 32]⟩ : ByteArray).size = 4 := rfl
  have e2 : (⟨#[32]⟩ : ByteArray).size = 1 := rfl
  have e3 : (⟨#[114, 101, 109, 111, 118, 101, 32]⟩ : ByteArray).size = 7 := rfl
  have e4 : (⟨#[109, 97, 115, 107, 32]⟩ : ByteArray).size = 5 := rfl
  have e5 : (⟨#[115, 99, 104, 101, 109, 97, 32]⟩ : ByteArray).size = 7 := rfl
  unfold lineB
  split
  · simp only [bsize_app]; omega
  split
  · simp only [bsize_app]; omega
  split
  · simp only [bsize_app]; omega
  · simp only [bsize_app]; omega

theorem quiet_call {ops : Array Oper} {C : World → Prop} {Q : Act → Prop} {rest : List Oper} {o : Oper} {a : Act} (hgd : o.guard = none) (f : Nat) (xs : Array Operand) (ts : Array TypeId)
    (ho : o.op = .call { callee := .value (.func f), args := xs, argTypes := ts }) (args : Array Value) (ha : xs.map a.eval = args) (eg : ∀ args w, (callFunc f args).run Tryz.prog w = .ok (.enter f args) w)
    (v : Value) (hc : ∀ w, C w → Calls Tryz.prog f args w (fun e w'' => e = .returned v ∧ C w'')) (h : wpQuiet Tryz.prog ops C Q rest (a.put o.dst v)) : wpQuiet Tryz.prog ops C Q (o :: rest) a := by
  refine wpQuiet_step (fun K hK => ?_)
  rw [if_pos (by simp [Region.wanted, hgd])]
  refine ⟨v, fun w hw => ?_, hK _ h⟩
  have hrun : (execOp a.eval o).run Tryz.prog w = .ok (.enter f args) w := by
    simp [execOp, ho, resolve, invoke, ha, eg, Act.eval, Deferred.ofValue]
  unfold Oper.quietAt
  rw [hrun]
  exact ⟨rfl, hc w hw⟩

set_option maxHeartbeats 4000000 in
set_option maxRecDepth 100000 in
theorem line_any (k : Int) (p : ByteArray) (r : Int) (m : List Int) (cl : List Col) (nx : Int) (ma : Option Addr) (mn mc : Nat) (ca : Option Addr) (cn cc : Nat) (w : World) (ha : ActAt w (k, p, r, m, cl, nx) ma mn mc ca cn cc) (ho : LineOk (k, p, r, m, cl, nx)) (ht : TabB w) :
    Calls Tryz.prog 26 #[.agg #[.int .i64 k, .string p, .int .i64 r, .slice ma mn mc, .slice ca cn cc, .int .i64 nx]] w fun e w' => e = .returned (.string (lineB (k, p, r, m, cl, nx))) ∧ Below w.heap.size w w' := by
  have HB0 : Hid (Below w.heap.size w (w.alloc (.cells #[.int .i64 k, .string p, .int .i64 r, .slice ma mn mc, .slice ca cn cc, .int .i64 nx] 62))) := (Below.refl _ _).alloc (Nat.le_refl _) _
  have hp : p.size ≤ 100 := ho.path
  have hir : (itoaB r).size ≤ 21 := itoaB_size ho.rows
  have hin : (itoaB nx).size ≤ 21 := itoaB_size ho.next
  have hjm : (joinB (m.map itoaB) ⟨#[44]⟩).size ≤ 2200 := joinI_size ho.mask ho.few
  have hjc : (joinB (cl.map columnB) ⟨#[59]⟩).size ≤ 60100 := joinC_size ho.cols ho.few2
  have H1 : Hid (∀ W, Below w.heap.size w W → Calls Tryz.prog 36 #[.int .i64 r] W fun e w' => e = .returned (.string (itoaB r)) ∧ Below W.heap.size W w') := fun W hW => itoa_any r W ho.rows (ht.below hW)
  have H2 : Hid (∀ W, Below w.heap.size w W → Calls Tryz.prog 36 #[.int .i64 nx] W fun e w' => e = .returned (.string (itoaB nx)) ∧ Below W.heap.size W w') := fun W hW => itoa_any nx W ho.next (ht.below hW)
  have H3 : Hid (∀ W, Below w.heap.size w W → Calls Tryz.prog 56 #[.slice ma mn mc, .string ⟨#[44]⟩, .func (.func 36) #[] #[]] W fun e w' => e = .returned (.string (joinB (m.map itoaB) ⟨#[44]⟩)) ∧ Below W.heap.size W w') := fun W hW => joinedI_any _ m _ W (ha.mask.below hW) ho.few ho.mask (by decide) (ht.below hW)
  have H4 : Hid (∀ W, Below w.heap.size w W → Calls Tryz.prog 57 #[.slice ca cn cc, .string ⟨#[59]⟩, .func (.func 58) #[] #[]] W fun e w' => e = .returned (.string (joinB (cl.map columnB) ⟨#[59]⟩)) ∧ Below W.heap.size W w') := fun W hW => joinedC_any _ cl _ W (ha.cols.below hW) ho.few2 ho.cols (by decide) (ht.below hW)
  have hwq : (w.alloc (.cells #[.int .i64 k, .string p, .int .i64 r, .slice ma mn mc, .slice ca cn cc, .int .i64 nx] 62)).heap[w.heap.size]? = some (.cells #[.int .i64 k, .string p, .int .i64 r, .slice ma mn mc, .slice ca cn cc, .int .i64 nx] 62 (0, 0)) := heap_alloc_new w _
  have HWQ := mkH hwq
  have HE49 : Hid (∀ args w, (callFunc 56 args).run Tryz.prog w = .ok (.enter 56 args) w) := enters_of Tryz.func56 (by kernel_rfl) rfl
  have HE50 : Hid (∀ args w, (callFunc 57 args).run Tryz.prog w = .ok (.enter 57 args) w) := enters_of Tryz.func57 (by kernel_rfl) rfl
  clear ha ht hwq ho
  by_cases k1 : k = 1
  · subst k1
    have HR : Hid (lineB (1, p, r, m, cl, nx) = ⟨#[97, 100, 100, 32]⟩ ++ p ++ ⟨#[32]⟩ ++ itoaB r) := rfl
    generalize lineB (1, p, r, m, cl, nx) = res at HR ⊢
    generalize itoaB r = s1 at *
    clear H2 H3 H4 hin hjm hjc
    go_enter Tryz.func26, Tryz.ntmps26
    go_wp2_with fail
    generalize w.alloc (.cells #[.int .i64 1, .string p, .int .i64 r, .slice ma mn mc, .slice ca cn cc, .int .i64 nx] 62) = wq at *
    obtain ⟨_, y1, y2, _, _, _, _⟩ := box6 HWQ.out
    replace y1 := cell_regrown y1
    replace y2 := cell_regrown y2
    have HC1 : Hid (∀ d os, Calls Tryz.prog 36 #[.int .i64 r] (grow (redrawn wq d) os) fun e w'' => e = .returned (.string s1) ∧ ∃ p_1 : Regrown, w'' = grow (redrawn wq p_1.d) p_1.os) := fun d os => Calls.regrown_of (H1.out _ (Below.ups HB0.out (below_regrown wq d os)))
    refine wp_region_quiet_below (by kernel_rfl) (by kernel_rfl) ?_
    repeat (go_big_quiet_step (first
      | (go_at_call_of 36 (#[.int .i64 r] : Array Value); exact HC1.out _ _)))
    refine wpQuiet_nil ?_
    intro _ hw'
    obtain ⟨⟨dq, osq⟩, hw''⟩ := hw'
    subst hw''
    go_wp2
    go_ret
    exact ⟨ret_str HR.out.symm, Below.ups HB0.out (below_regrown wq dq osq)⟩
  · by_cases k2 : k = 2
    · subst k2
      have HR : Hid (lineB (2, p, r, m, cl, nx) = ⟨#[114, 101, 109, 111, 118, 101, 32]⟩ ++ p) := rfl
      generalize lineB (2, p, r, m, cl, nx) = res at HR ⊢
      clear H1 H2 H3 H4 hin hjm hjc
      go_enter Tryz.func26, Tryz.ntmps26
      go_wp2
      go_ret
      exact ⟨ret_str HR.out.symm, HB0.out⟩
    · by_cases k3 : k = 3
      · subst k3
        have HR : Hid (lineB (3, p, r, m, cl, nx) = ⟨#[109, 97, 115, 107, 32]⟩ ++ p ++ ⟨#[32]⟩ ++ joinB (m.map itoaB) ⟨#[44]⟩) := rfl
        generalize lineB (3, p, r, m, cl, nx) = res at HR ⊢
        generalize joinB (m.map itoaB) ⟨#[44]⟩ = s1 at *
        clear H1 H2 H4 hin hjc hir
        go_enter Tryz.func26, Tryz.ntmps26
        go_wp2_with fail
        generalize w.alloc (.cells #[.int .i64 3, .string p, .int .i64 r, .slice ma mn mc, .slice ca cn cc, .int .i64 nx] 62) = wq at *
        obtain ⟨_, y1, _, y3, _, _, _⟩ := box6 HWQ.out
        replace y1 := cell_regrown y1
        replace y3 := cell_regrown y3
        have HC1 : Hid (∀ d os, Calls Tryz.prog 56 #[.slice ma mn mc, .string ⟨#[44]⟩, .func (.func 36) #[] #[]] (grow (redrawn wq d) os) fun e w'' => e = .returned (.string s1) ∧ ∃ p_1 : Regrown, w'' = grow (redrawn wq p_1.d) p_1.os) := fun d os => Calls.regrown_of (H3.out _ (Below.ups HB0.out (below_regrown wq d os)))
        refine wp_region_quiet_below (by kernel_rfl) (by kernel_rfl) ?_
        repeat (go_big_quiet_step (fail))
        refine quiet_call (by rfl) 56 _ _ rfl #[.slice ma mn mc, .string ⟨#[44]⟩, .func (.func 36) #[] #[]] (by simp [Act.eval]) HE49.out (.string s1) (fun w hw => by obtain ⟨q, rfl⟩ := hw; exact HC1.out _ _) ?_
        simp only [Act.put, List.setIfInBounds_toArray, List.set_cons_succ, List.set_cons_zero]
        repeat (go_big_quiet_step (fail))
        refine wpQuiet_nil ?_
        intro _ hw'
        obtain ⟨⟨dq, osq⟩, hw''⟩ := hw'
        subst hw''
        go_wp2
        go_ret
        exact ⟨ret_str HR.out.symm, Below.ups HB0.out (below_regrown wq dq osq)⟩
      · have HR : Hid (lineB (k, p, r, m, cl, nx) = ⟨#[115, 99, 104, 101, 109, 97, 32]⟩ ++ itoaB nx ++ ⟨#[32]⟩ ++ joinB (cl.map columnB) ⟨#[59]⟩) := by simp [Hid, lineB, k1, k2, k3]
        generalize lineB (k, p, r, m, cl, nx) = res at HR ⊢
        generalize joinB (cl.map columnB) ⟨#[59]⟩ = s1 at *
        generalize itoaB nx = s2 at *
        clear H1 H3 hjm hir
        go_enter Tryz.func26, Tryz.ntmps26
        go_wp2_with fail
        generalize w.alloc (.cells #[.int .i64 k, .string p, .int .i64 r, .slice ma mn mc, .slice ca cn cc, .int .i64 nx] 62) = wq at *
        obtain ⟨_, _, _, _, y4, y5, _⟩ := box6 HWQ.out
        replace y4 := cell_regrown y4
        replace y5 := cell_regrown y5
        have HC1 : Hid (∀ d os, Calls Tryz.prog 57 #[.slice ca cn cc, .string ⟨#[59]⟩, .func (.func 58) #[] #[]] (grow (redrawn wq d) os) fun e w'' => e = .returned (.string s1) ∧ ∃ p_1 : Regrown, w'' = grow (redrawn wq p_1.d) p_1.os) := fun d os => Calls.regrown_of (H4.out _ (Below.ups HB0.out (below_regrown wq d os)))
        have HC2 : Hid (∀ d os, Calls Tryz.prog 36 #[.int .i64 nx] (grow (redrawn wq d) os) fun e w'' => e = .returned (.string s2) ∧ ∃ p_1 : Regrown, w'' = grow (redrawn wq p_1.d) p_1.os) := fun d os => Calls.regrown_of (H2.out _ (Below.ups HB0.out (below_regrown wq d os)))
        refine wp_region_quiet_below (by kernel_rfl) (by kernel_rfl) ?_
        repeat (go_big_quiet_step (first
          | (go_at_call_of 36 (#[.int .i64 nx] : Array Value); exact HC2.out _ _)))
        refine quiet_call (by rfl) 57 _ _ rfl #[.slice ca cn cc, .string ⟨#[59]⟩, .func (.func 58) #[] #[]] (by simp [Act.eval]) HE50.out (.string s1) (fun w hw => by obtain ⟨q, rfl⟩ := hw; exact HC1.out _ _) ?_
        simp only [Act.put, List.setIfInBounds_toArray, List.set_cons_succ, List.set_cons_zero]
        repeat (go_big_quiet_step (fail))
        refine wpQuiet_nil ?_
        intro _ hw'
        obtain ⟨⟨dq, osq⟩, hw''⟩ := hw'
        subst hw''
        go_wp2
        go_ret
        exact ⟨ret_str HR.out.symm, Below.ups HB0.out (below_regrown wq dq osq)⟩
end Go.Proofs.YtfppidnfomelpaaGreatDoor
