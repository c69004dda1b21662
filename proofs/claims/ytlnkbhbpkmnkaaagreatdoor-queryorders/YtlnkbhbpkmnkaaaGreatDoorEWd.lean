/- What slices.DeleteFunc does at these values, with the closure of encode.known, and encode.known itself, said of every call. -/
import Derived.Test.YtlnkbhbpkmnkaaaGreatDoorEWc
import Derived.Lib.SliceRun
namespace Go.Proofs.YtlnkbhbpkmnkaaaGreatDoor.E
open Go.RowKit Go.Proofs Go.Shelf

theorem setCells_owns {B e z n g cap : Nat} : ∀ (vs : List Value) (o : Nat) (w : World) (xs : List Value), w.ownsRow B e z (.slice (some ⟨g, 0, none⟩) n cap) n xs →
    ∃ xs', (w.setCells g o vs).ownsRow B e z (.slice (some ⟨g, 0, none⟩) n cap) n xs' ∧ (∀ j, j < o → xs'[j]? = xs[j]?) ∧ w.grownBy (w.setCells g o vs) (some g)
  | [], _, w, xs, h => ⟨xs, h, fun _ _ => rfl, rfl, rfl, rfl, Nat.le_refl _, fun _ _ _ => rfl⟩
  | u :: vs, o, w, xs, h => by
    obtain ⟨h1, h2⟩ := h.stored o u
    obtain ⟨xs', g1, g2, g3⟩ := setCells_owns vs (o + 1) _ _ h1
    refine ⟨xs', g1, fun j hj => ?_, g3.os.trans h2.os, g3.tape.trans h2.tape, g3.output.trans h2.output, Nat.le_trans h2.size g3.size, fun k hk hne => ?_⟩
    · rw [g2 j (by omega), List.getElem?_set_ne (by omega)]
    · exact (g3.block k (Nat.lt_of_lt_of_le hk h2.size) hne).trans (h2.block k hk hne)

theorem zero32 (w : World) : (zeroValue 29).run Tryz.prog w = .ok (.agg #[.int .i64 0, .int .i64 0, .string ⟨#[]⟩]) w := by
  have := Tryz.zeroValue29 w
  exact this

theorem clear3 {B n g cap : Nat} {xs : List Value} (w : World) (h : w.ownsRow B 29 3 (.slice (some ⟨g, 0, none⟩) n cap) n xs) (i c : Nat) (hi : i < n) :
    ∃ W, (∀ ty, (Builtin.clear_ #[35] ty #[.slice (some ⟨g, i * 3, none⟩) (n - i) c]).run Tryz.prog w = .ok (.tuple #[]) W) ∧ ∃ xs', W.ownsRow B 29 3 (.slice (some ⟨g, 0, none⟩) n cap) n xs' ∧ (∀ j, j < i * 3 → xs'[j]? = xs[j]?) ∧ w.grownBy W (some g) := by
  let vs := (Builtin.zeroCells (#[.int .i64 0, .int .i64 0, .string ⟨#[]⟩] : Array Value) (n - i)).toList
  have hvl : vs.length = (n - i) * 3 := by simp [vs, Builtin.zeroCells]
  have hv1 : ∀ u ∈ vs, u.oneCell' = true := by
    intro u hu
    simp only [vs, Builtin.zeroCells] at hu
    simp at hu
    obtain ⟨j, hj, e⟩ := hu
    have hm : j % 3 = 0 ∨ j % 3 = 1 ∨ j % 3 = 2 := by omega
    rcases hm with hm | hm | hm <;> simp [hm] at e <;> subst e <;> rfl
  have hxl := h.1
  have hst := run_storeCells_cells (P := Tryz.prog) g (i * 3) vs 0 w (fun j hj => by rw [Nat.add_zero, h.cellAt (i * 3 + j) (by omega), List.getElem?_eq_getElem (by omega)]; rfl) (fun j _ => by rw [Nat.add_zero]; exact h.frozenAt _) hv1
  simp only [Nat.add_zero] at hst
  obtain ⟨xs', g1, g2, g3⟩ := setCells_owns vs (i * 3) w xs h
  refine ⟨w.setCells g (i * 3) vs, fun ty => ?_, xs', g1, g2, g3⟩
  obtain ⟨m, hm⟩ : ∃ m, n - i = m + 1 := ⟨n - i - 1, by omega⟩
  have hz := zero32
  rw [hm]
  simp only [vs, hm] at hst
  simp [Builtin.clear_, run_underlying Tryz.underlying35, hz, Value.cells, hst, vs, hm]

theorem Pr28 (l : List V) (w : World) : Pr 162 #[] nul l w := fun W x _ hW =>
  (closure28_any x.1 x.2.1 x.2.2 W).mono fun _ _ ⟨he, hb⟩ => ⟨he, hW.trans (hb.mono hW.size)⟩
theorem findI_spec (p : V → Bool) : ∀ (l : List V), findI p l < l.length → ∃ x, l[findI p l]? = some x ∧ p x = true ∧ ∀ y ∈ l.take (findI p l), p y = false
  | [], h => by simp at h
  | x :: l, h => by
    by_cases hx : p x = true
    · exact ⟨x, by simp [findI, hx], hx, by simp [findI, hx]⟩
    · have e : findI p (x :: l) = findI p l + 1 := by simp [findI, hx]
      rw [e] at h ⊢
      obtain ⟨y, h1, h2, h3⟩ := findI_spec p l (by simpa using h)
      refine ⟨y, by simpa using h1, h2, fun z hz => ?_⟩
      simp at hz
      rcases hz with rfl | hz
      · simpa using hx
      · exact h3 z hz
theorem findI_none (p : V → Bool) : ∀ (l : List V), ¬ findI p l < l.length → ∀ y ∈ l, p y = false
  | [], _ => by simp
  | x :: l, h => by
    by_cases hx : p x = true
    · exact absurd (by simp [findI, hx]) h
    · have e : findI p (x :: l) = findI p l + 1 := by simp [findI, hx]
      rw [e] at h
      intro y hy
      simp at hy
      rcases hy with rfl | hy
      · simpa using hx
      · exact findI_none p l (by simpa using h) y hy
theorem known_all {l : List V} (h : ∀ y ∈ l, nul y = false) : known l = l := by
  unfold known; rw [List.filter_eq_self]; intro a ha; simp [h a ha]
/-- How far DeleteFunc has come. -/
def Del (l D : List V) (i j : Nat) : Prop := D.length = l.length ∧ i < j ∧ D.take i = known (l.take j) ∧ D.drop j = l.drop j
theorem Del.start {l : List V} (h : findI nul l < l.length) : Del l l (findI nul l) (findI nul l + 1) := by
  obtain ⟨x, h1, h2, h3⟩ := findI_spec nul l h
  refine ⟨rfl, by omega, ?_, rfl⟩
  rw [take_next h1]
  unfold known
  rw [List.filter_append]
  simp [h2]
  rw [eq_comm, List.filter_eq_self]
  intro a ha; simp [h3 a ha]
theorem Del.skip {l D : List V} {i j : Nat} {x : V} (h : Del l D i j) (hx : l[j]? = some x) (hn : nul x = true) : Del l D i (j + 1) := by
  obtain ⟨h1, h2, h3, h4⟩ := h
  refine ⟨h1, by omega, ?_, ?_⟩
  · rw [h3, take_next hx]; simp [known, hn]
  · have := congrArg (List.drop 1) h4
    simpa [List.drop_drop, Nat.add_comm] using this
theorem Del.keep {l D : List V} {i j : Nat} {x : V} (h : Del l D i j) (hx : l[j]? = some x) (hn : nul x = false) : Del l (D.set i x) (i + 1) (j + 1) := by
  obtain ⟨h1, h2, h3, h4⟩ := h
  have hj : j < l.length := by
    rcases Nat.lt_or_ge j l.length with h' | h'
    · exact h'
    · rw [List.getElem?_eq_none h'] at hx; cases hx
  refine ⟨by simpa using h1, by omega, ?_, ?_⟩
  · have hi : (D.set i x)[i]? = some x := by rw [List.getElem?_set_self (by omega)]
    rw [take_next hi, List.take_set_of_le (Nat.le_refl _), h3, take_next hx]
    simp [known, hn]
  · rw [List.drop_set_of_lt (by omega)]
    have := congrArg (List.drop 1) h4
    simpa [List.drop_drop, Nat.add_comm] using this
theorem Del.at {l D : List V} {i j : Nat} {x : V} (h : Del l D i j) (hx : l[j]? = some x) : D[j]? = some x := by
  have := congrArg (fun m => m[0]?) h.2.2.2
  simpa [hx] using this
theorem Del.stop {l D : List V} {i j : Nat} (h : Del l D i j) (hj : l.length ≤ j) : D.take i = known l := by
  rw [h.2.2.1, List.take_of_length_le hj]
theorem flatV_set : ∀ (D : List V) (i : Nat) (x : V), flatV (D.set i x) = (((flatV D).set (i * 3) (.int .i64 x.1)).set (i * 3 + 1) (.int .i64 x.2.1)).set (i * 3 + 2) (.string x.2.2)
  | [], i, x => by simp [flatV]
  | y :: D, 0, x => by simp [flatV, encV]
  | y :: D, i + 1, x => by
    have ih := flatV_set D i x
    have e : ∀ m : List V, flatV (y :: m) = .int .i64 y.1 :: .int .i64 y.2.1 :: .string y.2.2 :: flatV m := fun m => rfl
    rw [List.set_cons_succ, e, ih, e, show (i + 1) * 3 = i * 3 + 1 + 1 + 1 by omega]
    simp only [List.set_cons_succ, show i * 3 + 1 + 1 + 1 + 1 = (i * 3 + 1) + 1 + 1 + 1 by omega, show i * 3 + 1 + 1 + 1 + 2 = (i * 3 + 2) + 1 + 1 + 1 by omega]

set_option maxHeartbeats 2000000 in
set_option maxRecDepth 100000 in
theorem delete_any (B : Nat) (v : Value) (l : List V) (w : World) (ho : w.ownsRow B 29 3 v l.length (flatV l)) (hB : B ≤ w.heap.size) (hl : l.length ≤ 1000) :
    Calls Tryz.prog 160 #[v, .func (.func 162) #[] #[]] w fun e w' => ∃ v', e = .returned v' ∧ Sl w' v' (known l) ∧ Below B w w' := by
  have HI := mkHid (indexFunc_any 162 #[] nul (enters_of Tryz.func162 (by kernel_rfl) rfl) v l w (Sl_of_owns ho) hl (Pr28 l w))
  have HO := mkHid ho
  have e28 : ∀ args w, (callFunc 162 args).run Tryz.prog w = .ok (.enter 162 args) w := enters_of Tryz.func162 (by kernel_rfl) rfl
  by_cases hf : findI nul l < l.length
  · obtain ⟨g, cap, rfl, hg1, hg2⟩ := ho.form (by omega)
    have HD := mkHid (Del.start hf)
    rw [show idxI nul l = ((findI nul l : Nat) : Int) by unfold idxI; rw [if_pos hf]] at HI
    have hcp : l.length ≤ cap := by
      rcases ho.2 with ⟨h, _⟩ | ⟨g', c', cur, h, _, _, h2, _⟩
      · cases h
      · injection h with _ _ h3; omega
    generalize findI nul l = k0 at *
    have hne1 : ((k0 : Int) == -1) = false := beq_eq_false_iff_ne.2 (by omega)
    clear ho
    go_enter Tryz.func160, Tryz.ntmps160
    go_wp2_with (go_at_call 176; refine HI.out.mono ?_; rintro e w1 ⟨rfl, hb1⟩)
    go_loopw [5, 6, 7] (fun s5 s6 _ wr => ∃ (i j : Nat) (D : List V), s5 = .int .i64 i ∧ s6 = .int .i64 j ∧ j ≤ l.length ∧ i < j ∧ Hid (Del l D i j) ∧ Hid (wr.ownsRow B 29 3 (.slice (some ⟨g, 0, none⟩) l.length cap) l.length (flatV D)) ∧ Hid (Below B w wr)) (fun _ s6 _ _ => l.length - (intOf s6).toNat)
    case atStart => exact ⟨k0, k0 + 1, l, rfl, by go_num, by omega, by omega, HD, mkHid (ownsRow_up HO.out hb1), mkHid (hb1.mono hB)⟩
    case round =>
      obtain ⟨i, j, D, rfl, rfl, hj, hij, hD, ho, hw⟩ := hrel
      have hsz := hw.out.size
      by_cases hlt : j < l.length
      · obtain ⟨⟨kx, nx, tx⟩, hx⟩ := getEx hlt
        obtain ⟨f0, f1, f2⟩ := flatV_at (hD.out.at hx)
        have c0 : wr.cell? ⟨g, j * 3, none⟩ = some (.int .i64 kx) := (ho.out.cellAt _ (by omega)).trans f0
        have c1 : wr.cell? ⟨g, j * 3 + 1, none⟩ = some (.int .i64 nx) := (ho.out.cellAt _ (by omega)).trans f1
        have c2 : wr.cell? ⟨g, j * 3 + 2, none⟩ = some (.string tx) := (ho.out.cellAt _ (by omega)).trans f2
        have HC := mkHid (fun W => closure28_any kx nx tx W)
        clear f0 f1 f2
        by_cases hk : kx = 0
        · subst hk
          have HD' := mkHid (hD.out.skip hx rfl)
          go_wp2_with (go_at_fn 162; refine (HC.out _).mono ?_; rintro e w2 ⟨rfl, hb2⟩)
          exact ⟨⟨i, j + 1, D, rfl, by go_num, by omega, by omega, HD', mkHid (ownsRow_up (ho.out.alloc _) hb2), mkHid ((hw.out.alloc (by omega) _).trans (hb2.mono (by simp; omega)))⟩, by simp [intOf]; omega⟩
        · have bk : (kx == 0) = false := by simpa using hk
          have HD' := mkHid (hD.out.keep hx (by simpa [nul] using hk))
          have HO2 := mkHid (fun W hb => ownsRow_up (ho.out.alloc (.cells #[.int .i64 kx, .int .i64 nx, .string tx] 29)) (W := W) hb)
          go_wp2_with fail
          refine (HC.out _).mono ?_
          rintro e w2 ⟨rfl, hb2⟩
          have ho2 := HO2.out w2 hb2
          have HO2' := mkHid ho2
          have q0 := (hb2.cell (p := ⟨wr.heap.size, 0, none⟩) (by simp)).trans (World.cell?_alloc_mark wr _ 29 (0, 0) 0)
          have q1 := (hb2.cell (p := ⟨wr.heap.size, 1, none⟩) (by simp)).trans (World.cell?_alloc_mark wr _ 29 (0, 0) 1)
          have q2 := (hb2.cell (p := ⟨wr.heap.size, 2, none⟩) (by simp)).trans (World.cell?_alloc_mark wr _ 29 (0, 0) 2)
          simp at q0 q1 q2
          have z0 := ho2.frozenAt (i * 3)
          have z1 := ho2.frozenAt (i * 3 + 1)
          have z2 := ho2.frozenAt (i * 3 + 2)
          have hDl : (flatV D).length = l.length * 3 := by rw [flatV_len, hD.out.1]
          obtain ⟨y0, hy0⟩ : ∃ y, w2.cell? ⟨g, i * 3, none⟩ = some y := ⟨_, (ho2.cellAt _ (by omega)).trans (List.getElem?_eq_getElem (by omega))⟩
          obtain ⟨y1, hy1⟩ : ∃ y, w2.cell? ⟨g, i * 3 + 1, none⟩ = some y := ⟨_, (ho2.cellAt _ (by omega)).trans (List.getElem?_eq_getElem (by omega))⟩
          obtain ⟨y2, hy2⟩ : ∃ y, w2.cell? ⟨g, i * 3 + 2, none⟩ = some y := ⟨_, (ho2.cellAt _ (by omega)).trans (List.getElem?_eq_getElem (by omega))⟩
          clear ho2 hDl
          have hil : (i : Int) < (l.length : Int) := by omega
          go_wp2
          have s0 := HO2'.out.stored (i * 3) (.int .i64 kx)
          have s1 := s0.1.stored (i * 3 + 1) (.int .i64 nx)
          have s2 := s1.1.stored (i * 3 + 2) (.string tx)
          have hbw : Below B w w2 := (hw.out.alloc (by omega) _).trans (hb2.mono (by simp; omega))
          exact ⟨⟨i + 1, j + 1, D.set i (kx, nx, tx), by go_num, by go_num, by omega, by omega, HD', mkHid (by rw [flatV_set]; exact s2.1), mkHid (((hbw.setCell hg1 _).setCell hg1 _).setCell hg1 _)⟩, by simp [intOf]; omega⟩
      · have HK := mkHid (hD.out.stop (by omega))
        have HDl : Hid (D.length = l.length) := hD.out.1
        obtain ⟨W, hcl, xs', hx1, hx2, hx3⟩ := clear3 wr ho.out i (cap - i) (by omega)
        have HX1 := mkHid hx1
        have HX2 := mkHid hx2
        have HX3 := mkHid hx3
        clear hx1 hx2 hx3
        have hil : (i : Int) ≤ (cap : Int) := by omega
        go_wp2
        go_ret
        have hkl : (known l).length = i := by rw [← HK.out, List.length_take]; have := HDl.out; omega
        refine ⟨_, rfl, ⟨some ⟨g, 0, none⟩, cap, by rw [hkl]; rfl, by omega, fun _ => ⟨g, 0, rfl, ?_, fun j' x hj' => ?_⟩⟩, hw.out.grown HX3.out (by omega) (fun k hk => by cases hk; exact hg1)⟩
        · exact (HX1.out.lt g rfl).2
        · have hj2 : j' < i := by
            rcases Nat.lt_or_ge j' i with h' | h'
            · exact h'
            · rw [List.getElem?_eq_none (by omega)] at hj'; cases hj'
          have hj3 : D[j']? = some x := by
            rw [← HK.out, List.getElem?_take_of_lt hj2] at hj'; exact hj'
          obtain ⟨f0, f1, f2⟩ := flatV_at hj3
          rw [Nat.zero_add]
          refine ⟨(HX1.out.cellAt _ (by omega)).trans ((HX2.out _ (by omega)).trans f0), (HX1.out.cellAt _ (by omega)).trans ((HX2.out _ (by omega)).trans f1), (HX1.out.cellAt _ (by omega)).trans ((HX2.out _ (by omega)).trans f2)⟩
  · have HK := mkHid (known_all (findI_none nul l hf))
    rw [show idxI nul l = -1 by unfold idxI; rw [if_neg hf]] at HI
    obtain ⟨a, c, rfl, _, _⟩ := Sl_of_owns ho
    clear ho
    go_enter Tryz.func160, Tryz.ntmps160
    go_wp2_with (go_at_call 176; refine HI.out.mono ?_; rintro e w1 ⟨rfl, hb1⟩)
    go_ret
    exact ⟨_, rfl, by rw [HK.out]; exact Sl_of_owns (ownsRow_up HO.out hb1), hb1.mono hB⟩

set_option maxHeartbeats 2000000 in
set_option maxRecDepth 100000 in
theorem known_any (v : Value) (l : List V) (w : World) (hs : Sl w v l) (hl : l.length ≤ 1000) :
    Calls Tryz.prog 128 #[v] w fun e w' => ∃ v', e = .returned v' ∧ Sl w' v' (known l) ∧ Below w.heap.size w w' := by
  have HC := mkHid (clone_any v l w hs hl)
  clear hs
  go_enter Tryz.func128, Tryz.ntmps128
  go_wp2_with fail
  refine HC.out.mono ?_
  rintro e w1 ⟨v1, rfl, ho1, hb1⟩
  have HD := mkHid (delete_any w.heap.size v1 l w1 ho1 hb1.size hl)
  clear ho1
  go_wp2_with fail
  refine HD.out.mono ?_
  rintro e w2 ⟨v2, rfl, hs2, hb2⟩
  go_wp2
  go_ret
  exact ⟨v2, rfl, hs2, hb1.trans hb2⟩
end Go.Proofs.YtlnkbhbpkmnkaaaGreatDoor.E
