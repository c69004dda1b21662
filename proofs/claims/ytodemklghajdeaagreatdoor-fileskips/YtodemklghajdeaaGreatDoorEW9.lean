/- What encode.inWay and encode.fewest do, said of every call. -/
import Derived.Test.YtodemklghajdeaaGreatDoorEW7
import Derived.Deep.AppendLies
namespace Go.Proofs.YtodemklghajdeaaGreatDoor.E
open Go.RowKit Go.Proofs Go.Shelf

theorem info32 : (Tryz.prog.info? 45).map (fun i => (i.zero, i.size, i.bytes)) = some (some (.agg #[.int .i64 0, .int .i64 0, .string ⟨#[]⟩]), 3, 32) := by kernel_rfl

/-- An append of a row, nil or not, to a row of the call's own. -/
theorem wpList_append_row {P : Program} {w : World} {ops : Array Oper} {rest : List Oper} {o : Oper} {a : Act} {Q : Exit → Act → World → Prop} (hgd : o.guard = none) (s x : Operand) (t : TypeId)
    (ho : o.op = .call { callee := .builtin .append, args := #[s, x], argTypes := #[t, t] })
    (base : Nat) (e : TypeId) (i : TypeInfo) (z : Value) (size bytes : Nat) (ht : P.underlying t = some (.slice e)) (hi : P.info? e = some i) (hz : i.zero = some z)
    (hsize : i.size = size) (hby : i.bytes = bytes) (hzs : z.cells.size = size) (hsz : 0 < size)
    (v : Value) (n : Nat) (xs : List Value) (hs : a.eval s = v) (hown : w.ownsRow base e size v n xs)
    (u : Value) (m Bu : Nat) (ys : List Value) (hx : a.eval x = u) (hu : w.ownsRow Bu e size u m ys) (h1 : ∀ y ∈ ys, y.oneCell' = true)
    (h63 : n + m ≤ maxLen) (hbytes : (n + m) * bytes ≤ 140737488355328) (hbase : base ≤ w.heap.size)
    (h : ∀ v' w', w'.ownsRow base e size v' (n + m) (xs ++ ys) → w.grownBy w' v.ownBlock → wpList P ops Q rest (a.put o.dst v') w') : wpList P ops Q (o :: rest) a w := by
  rcases hu.2 with ⟨rfl, rfl⟩ | ⟨g, cap, cur, rfl, _, _⟩
  · have hy : ys = [] := List.eq_nil_of_length_eq_zero (by have := hu.1; omega)
    subst hy
    refine wpList_append_own_none hgd s x t ho base e i size ht hi v n xs hs hown hx (h v w (by simpa using hown) ⟨rfl, rfl, rfl, Nat.le_refl _, fun _ _ _ => rfl⟩)
  · exact wpList_append_own w hgd s x t ho base e i z size bytes ht hi hz hsize hby hzs hsz v n xs hs hown ⟨g, 0, none⟩ m cap ys hx hu.1 (hu.cells rfl) h1 h63 hbytes hbase (fun v' w' h2 h3 _ => h v' w' h2 h3)

def encV (x : V) : List Value := [.int .i64 x.1, .int .i64 x.2.1, .string x.2.2]
def flatV (l : List V) : List Value := l.flatMap encV
theorem flatV_len : ∀ l, (flatV l).length = l.length * 3
  | [] => rfl
  | x :: l => by have := flatV_len l; simp [flatV, encV] at this ⊢; omega
theorem flatV_app (l m : List V) : flatV (l ++ m) = flatV l ++ flatV m := by simp [flatV]
theorem flatV_at : ∀ {l : List V} {j : Nat} {x : V}, l[j]? = some x → (flatV l)[j * 3]? = some (.int .i64 x.1) ∧ (flatV l)[j * 3 + 1]? = some (.int .i64 x.2.1) ∧ (flatV l)[j * 3 + 2]? = some (.string x.2.2)
  | [], _, _, h => by simp at h
  | y :: l, 0, x, h => by simp at h; subst h; simp [flatV, encV]
  | y :: l, j + 1, x, h => by
    have h' : l[j]? = some x := by simpa using h
    obtain ⟨a, b, c⟩ := flatV_at h'
    have e : flatV (y :: l) = encV y ++ flatV l := rfl
    have e3 : (encV y).length = 3 := rfl
    rw [e, show (j + 1) * 3 = (encV y).length + j * 3 by omega, show (encV y).length + j * 3 + 1 = (encV y).length + (j * 3 + 1) by omega, show (encV y).length + j * 3 + 2 = (encV y).length + (j * 3 + 2) by omega]
    simp only [List.getElem?_append_right (Nat.le_add_right _ _), Nat.add_sub_cancel_left]
    exact ⟨a, b, c⟩
theorem flatV_one (l : List V) : ∀ y ∈ flatV l, y.oneCell' = true := by
  intro y hy
  simp only [flatV, List.mem_flatMap, encV] at hy
  obtain ⟨x, _, hx⟩ := hy
  simp at hx
  rcases hx with rfl | rfl | rfl <;> rfl
theorem byteCells_one (l : List UInt8) : ∀ y ∈ Lib.byteCells l, y.oneCell' = true := by
  intro y hy
  simp only [Lib.byteCells, List.mem_map] at hy
  obtain ⟨x, _, rfl⟩ := hy
  rfl
theorem addr_add (g j : Nat) : (⟨g, 0, none⟩ : Addr).add j = ⟨g, j, none⟩ := by unfold Addr.add; split <;> simp_all
theorem Sl_of_owns {w : World} {B : Nat} {v : Value} {l : List V} (h : w.ownsRow B 45 3 v l.length (flatV l)) : Sl w v l := by
  rcases h.2 with ⟨rfl, h0⟩ | ⟨g, cap, cur, rfl, hb, hh, hcap, _, _⟩
  · exact ⟨none, 0, by rw [h0], by omega, fun hne => absurd (List.eq_nil_of_length_eq_zero h0) hne⟩
  · refine ⟨_, cap, rfl, hcap, fun _ => ⟨g, 0, rfl, blk_lt hh, fun j x hj => ?_⟩⟩
    obtain ⟨a, b, c⟩ := flatV_at hj
    have hc := h.cells (g := g) rfl
    simp only [addr_add] at hc
    rw [Nat.zero_add]
    exact ⟨hc _ _ a, hc _ _ b, hc _ _ c⟩
theorem ownsRow_other {w w' : World} {B1 e1 z1 n1 B2 e2 z2 n2 : Nat} {v1 v2 : Value} {xs1 xs2 : List Value} (h1 : w.ownsRow B1 e1 z1 v1 n1 xs1) (h2 : w.ownsRow B2 e2 z2 v2 n2 xs2) (he : e1 ≠ e2) (hg : w.grownBy w' v2.ownBlock) : w'.ownsRow B1 e1 z1 v1 n1 xs1 := by
  refine h1.kept hg ?_
  rcases h1.2 with ⟨rfl, _⟩ | ⟨g, cap, cur, rfl, _, hh, _⟩
  · exact .inl rfl
  · rcases h2.2 with ⟨rfl, _⟩ | ⟨g2, cap2, cur2, rfl, _, hh2, _⟩
    · exact .inr (by simp [Value.ownBlock])
    · refine .inr (fun e => ?_)
      simp [Value.ownBlock] at e
      subst e
      rw [hh] at hh2; injection hh2 with hh2; injection hh2 with _ hh2; exact he hh2
theorem ownsRow_wr {w w' : World} {B B1 e1 z1 n1 : Nat} {v1 : Value} {xs1 : List Value} (h1 : w.ownsRow B1 e1 z1 v1 n1 xs1) (hw : Wr B w w') (he : e1 ≠ 5) : w'.ownsRow B1 e1 z1 v1 n1 xs1 := by
  refine ⟨h1.1, ?_⟩
  rcases h1.2 with h' | ⟨g, cap, cur, rfl, hb, hh, rest⟩
  · exact .inl h'
  · exact .inr ⟨g, cap, cur, rfl, hb, cell_of_wr hw hh he, rest⟩

theorem ownsRow_kept_lt {w w' : World} {H B1 e1 z1 n1 e2 z2 n2 : Nat} {v1 v2 : Value} {xs1 xs2 : List Value} (h1 : w.ownsRow B1 e1 z1 v1 n1 xs1) (hlt : ∀ k, v1.ownBlock = some k → k < H) (h2 : w.ownsRow H e2 z2 v2 n2 xs2) (hg : w.grownBy w' v2.ownBlock) : w'.ownsRow B1 e1 z1 v1 n1 xs1 := by
  refine h1.kept hg ?_
  cases hv : v1.ownBlock with
  | none => exact .inl rfl
  | some k => exact .inr fun e => by have h3 := (h2.lt k e.symm).1; have h4 := hlt k hv; omega

theorem find_place (x : V) : ∀ l : List V, findI (fun y => decide (x = y)) l = place x l
  | [] => rfl
  | y :: l => by
    unfold findI place
    by_cases h : x = y
    · simp [h]
    · have h' : ¬ y = x := fun e => h e.symm
      simp [h, h', find_place x l]
theorem place_le (x : V) : ∀ l : List V, place x l ≤ l.length
  | [] => Nat.le_refl _
  | y :: l => by unfold place; split <;> simp; exact place_le x l
def wst (l : List V) (k : Nat) : List V × List UInt8 := (l.take k).foldl whichS ([], [])
theorem wst_next {l : List V} {k : Nat} {x : V} (h : l[k]? = some x) : wst l (k + 1) = whichS (wst l k) x := by
  unfold wst; rw [take_next h, List.foldl_append]; rfl
theorem whichS_hit {s : List V × List UInt8} {x : V} (h : place x s.1 < s.1.length) : whichS s x = (s.1, s.2 ++ Lib.uvarint (place x s.1)) := by unfold whichS; rw [if_pos h]
theorem whichS_miss {s : List V × List UInt8} {x : V} (h : ¬ place x s.1 < s.1.length) : whichS s x = (s.1 ++ [x], s.2 ++ Lib.uvarint s.1.length) := by
  unfold whichS; rw [if_neg h, show place x s.1 = s.1.length by have := place_le x s.1; omega]
theorem wst_few {l : List V} (h : Few l) : ∀ k, k ≤ l.length → (wst l k).1.length ≤ k ∧ (∀ x ∈ (wst l k).1, x ∈ l) ∧ (wst l k).2.length ≤ k * 10
  | 0, _ => by simp [wst]
  | k + 1, hk => by
    obtain ⟨x, hx⟩ := getEx (l := l) (k := k) (by omega)
    obtain ⟨h1, h2, h3⟩ := wst_few h k (by omega)
    have h60 := h.1
    have hp := place_le x (wst l k).1
    have hu := Lib.uvarint_length64 (x := place x (wst l k).1) (by omega)
    rw [wst_next hx]
    unfold whichS
    refine ⟨?_, ?_, ?_⟩
    · split <;> simp <;> omega
    · intro y hy
      split at hy
      · exact h2 y hy
      · simp at hy
        rcases hy with hy | rfl
        · exact h2 y hy
        · exact List.mem_of_getElem? hx
    · simp; omega
theorem wst_Few {l : List V} (h : Few l) {k : Nat} (hk : k ≤ l.length) : Few (wst l k).1 := by
  obtain ⟨h1, h2, _⟩ := wst_few h k hk
  exact ⟨by have := h.1; omega, fun x hx => h.2 x (h2 x hx)⟩
theorem below_grown_own {w w' : World} {B e z n : Nat} {v : Value} {xs : List Value} {a : World} (hb : Below B a w) (ho : w.ownsRow B e z v n xs) (hg : w.grownBy w' v.ownBlock) (hB : B ≤ w.heap.size) : Below B a w' :=
  hb.grown hg hB (fun k hk => (ho.lt k hk).1)

set_option maxHeartbeats 8000000 in
set_option maxRecDepth 100000 in
theorem inWhich_any (v : Value) (l : List V) (w : World) (hs : Sl w v l) (hf : Few l) :
    Calls Tryz.prog 143 #[v] w fun e w' => ∃ v', e = .returned v' ∧ w'.ownsRow w.heap.size 5 1 v' (whichB l).length (Lib.byteCells (whichB l)) ∧ Below w.heap.size w w' := by
  obtain ⟨i32, hi32, hz32, hz132, hz232⟩ := info_parts info32
  have HI32 := mkHid (And.intro hi32 (And.intro hz32 (And.intro hz132 hz232)))
  obtain ⟨i5, hi5, hz5, hz15, hz25⟩ := info_parts info5
  have HI5 := mkHid (And.intro hi5 (And.intro hz5 (And.intro hz15 hz25)))
  clear hi32 hz32 hz132 hz232 hi5 hz5 hz15 hz25
  obtain ⟨a, c, rfl, _, hl⟩ := hs
  have HL := mkHid hl
  have HF := mkHid hf
  have h60 := hf.1
  clear hl hf
  go_enter Tryz.func143, Tryz.ntmps143
  go_wp2
  go_loopw [3, 4, 11] (fun vd vw vi wr => ∃ k : Nat, k ≤ l.length ∧ vi = .int .i64 k ∧ Hid (wr.ownsRow w.heap.size 45 3 vd (wst l k).1.length (flatV (wst l k).1)) ∧ Hid (wr.ownsRow w.heap.size 5 1 vw (wst l k).2.length (Lib.byteCells (wst l k).2)) ∧ Hid (Below w.heap.size w wr)) (fun _ _ vi _ => l.length - (intOf vi).toNat)
  case atStart => exact ⟨0, Nat.zero_le _, rfl, World.ownsRow_nil _ _ _ _, World.ownsRow_nil _ _ _ _, Below.refl _ _⟩
  case round =>
    obtain ⟨k, hk, rfl, hd, hv, hw⟩ := hrel
    by_cases hlt : k < l.length
    · obtain ⟨b, off, rfl, hb, hc⟩ := HL.out (by intro e; rw [e] at hlt; simp at hlt)
      obtain ⟨⟨kx, nx, tx⟩, hx⟩ := getEx hlt
      obtain ⟨g0, g1, g2⟩ := hc k _ hx
      have c0 : wr.cell? ⟨b, off + k * 3, none⟩ = some (.int .i64 kx) := (hw.out.cell (p := ⟨b, off + k * 3, none⟩) hb).trans g0
      have c1 : wr.cell? ⟨b, off + k * 3 + 1, none⟩ = some (.int .i64 nx) := (hw.out.cell (p := ⟨b, off + k * 3 + 1, none⟩) hb).trans g1
      have c2 : wr.cell? ⟨b, off + k * 3 + 2, none⟩ = some (.string tx) := (hw.out.cell (p := ⟨b, off + k * 3 + 2, none⟩) hb).trans g2
      have hsz := hw.out.size
      have HN := mkHid (wst_next hx)
      have HW := mkHid (wst_few HF.out k hk)
      have HP := mkHid (place_le (kx, nx, tx) (wst l k).1)
      generalize wst l k = st at *
      obtain ⟨d, ws⟩ := st
      obtain ⟨ad, cd, rfl, _, _⟩ := Sl_of_owns hd.out
      have HI := mkHid (index_any _ d kx nx tx (wr.alloc (.cells #[.int .i64 kx, .int .i64 nx, .string tx] 45)) (Sl_of_owns (hd.out.alloc _)) (by have := HW.out.1; simp at this; omega))
      have HBX : Hid ((wr.alloc (.cells #[.int .i64 kx, .int .i64 nx, .string tx] 45)).heap[wr.heap.size]? = some (.cells #[.int .i64 kx, .int .i64 nx, .string tx] 45)) := heap_alloc_new _ _
      have hidx : idxI (fun y => decide (((kx, nx, tx) : V) = y)) d = if place (kx, nx, tx) d < d.length then ((place (kx, nx, tx) d : Nat) : Int) else -1 := by
        unfold idxI; rw [find_place]
      rw [hidx] at HI
      clear hidx g0 g1 g2 hc
      have hdl : d.length ≤ 60 := by have := HW.out.1; simp at this; omega
      have hwl : ws.length ≤ 600 := by have := HW.out.2.2; simp at this; omega
      by_cases hA : place (kx, nx, tx) d < d.length
      · rw [if_pos hA] at HI
        have HE := mkHid (whichS_hit (s := (d, ws)) (x := (kx, nx, tx)) hA)
        generalize place (kx, nx, tx) d = p at *
        go_wp2_with fail
        refine HI.out.mono ?_
        rintro e w2 ⟨rfl, hb2⟩
        have hs2 := hb2.size
        have hB2 : w.heap.size ≤ w2.heap.size := by simp at hs2; omega
        go_wp2_with fail
        refine (append_any w.heap.size _ p (by omega) _ _ w2 (ownsRow_up (hv.out.alloc _) hb2) hB2 (by show ws.length + 10 ≤ _; omega)).mono ?_
        rintro e w3 ⟨v3, rfl, ho3, hw3⟩
        go_wp2
        have e1 : wst l (k + 1) = (d, ws ++ Lib.uvarint p) := by rw [HN.out, HE.out]
        refine ⟨⟨k + 1, by omega, by go_num, ?_, ?_, mkHid (((hw.out.alloc hsz _).trans (hb2.mono (by simp; omega))).trans hw3.1)⟩, by simp [intOf]; omega⟩
        · rw [e1]; exact ownsRow_wr (ownsRow_up (hd.out.alloc _) hb2) hw3 (by decide)
        · rw [e1, List.length_append, byteCells_app]; exact ho3
      · rw [if_neg hA] at HI
        have HE := mkHid (whichS_miss (s := (d, ws)) (x := (kx, nx, tx)) hA)
        go_wp2_with fail
        refine HI.out.mono ?_
        rintro e w2 ⟨rfl, hb2⟩
        have hs2 := hb2.size
        have hB2 : w.heap.size ≤ w2.heap.size := by simp at hs2; omega
        have hb0 := blk_up HBX.out hb2
        obtain ⟨q0, q1, q2⟩ := cell_box hb0
        go_wp2_with (at_builtin; refine wpList_append_own _ rfl _ _ 57 rfl w.heap.size 45 i32 (.agg #[.int .i64 0, .int .i64 0, .string ⟨#[]⟩]) 3 32 Tryz.underlying57 HI32.out.1 HI32.out.2.1 HI32.out.2.2.1 HI32.out.2.2.2 rfl (by decide) _ _ _ rfl ((ownsRow_up (hd.out.alloc _) hb2).alloc _) ⟨w2.heap.size, 0, none⟩ 1 1 [.int .i64 kx, .int .i64 nx, .string tx] rfl rfl ?c1 ?c2 ?c3 ?c4 ?c5 ?_)
        case c1 => exact fun j u hj => World.news_of_block (heap_alloc_new _ _) j u hj
        case c2 => exact flatV_one [(kx, nx, tx)]
        case c3 => show d.length + 1 ≤ maxLen; unfold maxLen; omega
        case c4 => show (d.length + 1) * 32 ≤ _; omega
        case c5 => simp; omega
        intro v3 w3 hd3 hg3 _
        have hv3 := ownsRow_other ((ownsRow_up (hv.out.alloc _) hb2).alloc (.cells #[.int .i64 kx, .int .i64 nx, .string tx] 45)) ((ownsRow_up (hd.out.alloc _) hb2).alloc (.cells #[.int .i64 kx, .int .i64 nx, .string tx] 45)) (by decide) hg3
        have hs3 := hg3.size
        have hB3 : w.heap.size ≤ w3.heap.size := by simp at hs3; omega
        have hbl3 : Below w.heap.size w w3 := below_grown_own ((((hw.out.alloc hsz _).trans (hb2.mono (by simp; omega)))).alloc hB2 _) ((ownsRow_up (hd.out.alloc _) hb2).alloc _) hg3 (by simp; omega)
        go_wp2_with fail
        refine (append_any w.heap.size _ d.length (by omega) _ _ w3 hv3 hB3 (by show ws.length + 10 ≤ _; omega)).mono ?_
        rintro e w4 ⟨v4, rfl, ho4, hw4⟩
        go_wp2
        have e1 : wst l (k + 1) = (d ++ [(kx, nx, tx)], ws ++ Lib.uvarint d.length) := by rw [HN.out, HE.out]
        refine ⟨⟨k + 1, by omega, by go_num, ?_, ?_, mkHid (hbl3.trans hw4.1)⟩, by simp [intOf]; omega⟩
        · rw [e1, flatV_app, List.length_append]; exact ownsRow_wr hd3 hw4 (by decide)
        · rw [e1, List.length_append, byteCells_app]; exact ho4
    · have ek : wst l k = (l.foldl whichS ([], [])) := by unfold wst; rw [List.take_of_length_le (by omega)]
      have HWB : Hid (whichB l = Lib.uvarint (wst l k).1.length ++ orderB (wst l k).1 ++ (wst l k).2) := by rw [ek]; exact rfl
      have HW := mkHid (wst_few HF.out k hk)
      have HDF := mkHid (wst_Few HF.out hk)
      clear ek
      generalize wst l k = st at *
      obtain ⟨d, ws⟩ := st
      obtain ⟨ad, cd, rfl, _, _⟩ := Sl_of_owns hd.out
      have hdl : d.length ≤ 60 := by have := HW.out.1; simp at this; omega
      have hwl : ws.length ≤ 600 := by have := HW.out.2.2; simp at this; omega
      have hsz := hw.out.size
      have hol : (orderB d).length ≤ 3000 := by have := orderB_len HDF.out.2; simp at this; omega
      have hul : (Lib.uvarint d.length).length ≤ 10 := Lib.uvarint_length64 (by omega)
      go_wp2_with fail
      refine (append_any wr.heap.size 0 d.length (by omega) _ [] wr (World.ownsRow_nil _ _ _ _) (Nat.le_refl _) (by omega)).mono ?_
      rintro e w2 ⟨v2, rfl, ho2, hw2⟩
      have hb2 : Below wr.heap.size wr w2 := hw2.1
      have hs2 := hb2.size
      go_wp2_with fail
      refine (inOrder_any _ d w2 (Sl_of_owns (ownsRow_up hd.out hb2)) HDF.out).mono ?_
      rintro e w3 ⟨v3, rfl, ho3, hw3⟩
      have hb3 : Below w2.heap.size w2 w3 := hw3.1
      have hs3 := hb3.size
      have HA := mkHid (ownsRow_up ho2 hb3)
      have HB := mkHid ho3
      have HC := mkHid (ownsRow_up (ownsRow_up hv.out hb2) hb3)
      go_wp2_with (at_builtin; refine wpList_append_row rfl _ _ 82 rfl wr.heap.size 5 i5 (.int .u8 0) 1 1 Tryz.underlying82 HI5.out.1 HI5.out.2.1 HI5.out.2.2.1 HI5.out.2.2.2 rfl (by decide) _ _ _ rfl HA.out _ _ _ _ rfl HB.out (byteCells_one _) ?f3 ?f4 ?f5 ?_)
      case f3 => unfold maxLen; omega
      case f4 => omega
      case f5 => omega
      intro v4 w4 ho4 hg4
      have hs4 := hg4.size
      have HD := mkHid ho4
      have HE := mkHid (ownsRow_kept_lt HC.out (fun j hj => (hv.out.lt j hj).2) HA.out hg4)
      have hbl4 : Below wr.heap.size wr w4 := below_grown_own (hb2.trans (hb3.mono hs2)) HA.out hg4 (by omega)
      have hs4' := hbl4.size
      go_wp2_with (at_builtin; refine wpList_append_row rfl _ _ 82 rfl wr.heap.size 5 i5 (.int .u8 0) 1 1 Tryz.underlying82 HI5.out.1 HI5.out.2.1 HI5.out.2.2.1 HI5.out.2.2.2 rfl (by decide) _ _ _ rfl HD.out _ _ _ _ rfl HE.out (byteCells_one _) ?f6 ?f7 ?f8 ?_)
      case f6 => show _ + ws.length ≤ _; unfold maxLen; omega
      case f7 => show (_ + ws.length) * 1 ≤ _; omega
      case f8 => omega
      intro v5 w5 ho5 hg5
      go_wp2
      go_ret
      refine ⟨v5, rfl, ?_, hw.out.trans ((below_grown_own hbl4 HD.out hg5 (by omega)).mono hsz)⟩
      rw [HWB.out]
      rw [List.length_append, List.length_append, byteCells_app, byteCells_app, List.append_assoc]
      exact ownsRow_base ho5 hsz
end Go.Proofs.YtodemklghajdeaaGreatDoor.E

namespace Go.Proofs.YtodemklghajdeaaGreatDoor.E
open Go.RowKit Go.Proofs Go.Shelf

theorem whichB_len {l : List V} (h : Few l) : (whichB l).length ≤ 3610 := by
  have e : wst l l.length = l.foldl whichS ([], []) := by unfold wst; rw [List.take_of_length_le (Nat.le_refl _)]
  obtain ⟨h1, h2, h3⟩ := wst_few h l.length (Nat.le_refl _)
  have h4 := orderB_len (wst_Few h (Nat.le_refl l.length)).2
  have h60 := h.1
  have h5 := Lib.uvarint_length64 (x := (wst l l.length).1.length) (by omega)
  unfold whichB
  rw [← e]
  simp only [List.length_append]; omega
theorem wayB_len {l : List V} (h : Few l) (k : Nat) : (wayB k l).length ≤ 4000 := by
  have h60 := h.1
  unfold wayB
  split
  · have := runsB_len l h.2 (by omega) l.length; omega
  · split
    · have := whichB_len h; omega
    · split
      · have := stepsB_len (a := 0) (l := l); omega
      · have := orderB_len h.2; omega

set_option maxHeartbeats 8000000 in
set_option maxRecDepth 100000 in
theorem inWay_any (k : Nat) (v : Value) (l : List V) (w : World) (hs : Sl w v l) (hf : Few l) (hk : k ≤ 3) :
    Calls Tryz.prog 125 #[.int .i64 k, v] w fun e w' => ∃ v', e = .returned v' ∧ w'.ownsRow w.heap.size 5 1 v' (wayB k l).length (Lib.byteCells (wayB k l)) ∧ Below w.heap.size w w' := by
  have H1 := mkHid (inRuns_any v l w hs hf)
  have H2 := mkHid (inWhich_any v l w hs hf)
  have H3 := mkHid (inSteps_any v l w hs hf)
  have H0 := mkHid (inOrder_any v l w hs hf)
  obtain ⟨a, c, rfl, _, _⟩ := hs
  clear hf
  have hk' : k = 0 ∨ k = 1 ∨ k = 2 ∨ k = 3 := by omega
  rcases hk' with rfl | rfl | rfl | rfl
  · go_enter Tryz.func125, Tryz.ntmps125
    go_wp2_with (go_at_call 145; refine H0.out.mono ?_; rintro e w1 ⟨v1, rfl, ho, hw⟩)
    go_ret
    exact ⟨v1, rfl, ho, hw.1⟩
  · go_enter Tryz.func125, Tryz.ntmps125
    go_wp2_with (go_at_call 142; refine H1.out.mono ?_; rintro e w1 ⟨v1, rfl, ho, hw⟩)
    go_ret
    exact ⟨v1, rfl, ho, hw.1⟩
  · go_enter Tryz.func125, Tryz.ntmps125
    go_wp2_with (go_at_call 143; refine H2.out.mono ?_; rintro e w1 ⟨v1, rfl, ho, hw⟩)
    go_ret
    exact ⟨v1, rfl, ho, hw⟩
  · go_enter Tryz.func125, Tryz.ntmps125
    go_wp2_with (go_at_call 144; refine H3.out.mono ?_; rintro e w1 ⟨v1, rfl, ho, hw⟩)
    go_ret
    exact ⟨v1, rfl, ho, hw.1⟩

theorem fewTo_next (kind : Int) (l : List V) (k : Nat) (hk : 1 ≤ k) : fewTo kind l (k + 1) = if k = 3 ∧ kind ≠ 1 then fewTo kind l k else better (fewTo kind l k) (k.toUInt8 :: wayB k l) := by
  obtain ⟨j, rfl⟩ : ∃ j, k = j + 1 := ⟨k - 1, by omega⟩
  rfl
theorem fewTo_len {kind : Int} {l : List V} (h : Few l) : ∀ k, (fewTo kind l k).length ≤ 4001
  | 0 => by simp [fewTo]
  | 1 => by have := wayB_len h 0; simp [fewTo]; omega
  | k + 2 => by
    have h1 := fewTo_len (kind := kind) h (k + 1)
    have h2 := wayB_len h (k + 1)
    rw [fewTo_next kind l (k + 1) (by omega)]
    split
    · exact h1
    · unfold better; split <;> simp <;> omega
theorem cell_byte (k : Nat) (hk : k < 256) (l : List UInt8) : Value.int .u8 (k : Int) :: Lib.byteCells l = Lib.byteCells (k.toUInt8 :: l) := by
  simp [Lib.byteCells, Lib.toUInt8_toNat hk]

/-- The best way so far. -/
def Best (kind : Int) (l : List V) (w wr : World) (k : Nat) (vb : Value) : Prop :=
  (k = 0 ∧ vb = .slice none 0 0) ∨ (0 < k ∧ wr.ownsRow w.heap.size 5 1 vb (fewTo kind l k).length (Lib.byteCells (fewTo kind l k)) ∧ 0 < (fewTo kind l k).length)

theorem nil43 : ∀ (w : World) (a : Option Addr) (n c n' c' : Nat), (binOp .eql 82 (.slice a n c) (.slice none n' c')).run Tryz.prog w = .ok (.bool a.isNone) w := fun w a n c n' c' => Lib.run_eql_slice_nil w _ _ a n c n' c' Tryz.underlying82

set_option maxHeartbeats 8000000 in
set_option maxRecDepth 100000 in
theorem fewest_any (kind : Int) (v : Value) (l : List V) (w : World) (hs : Sl w v l) (hf : Few l) (hkd : kind = 1 ∨ kind = 2) :
    Calls Tryz.prog 102 #[.int .i64 kind, v] w fun e w' => ∃ v', e = .returned v' ∧ w'.ownsRow w.heap.size 5 1 v' (fewB kind l).length (Lib.byteCells (fewB kind l)) ∧ Below w.heap.size w w' := by
  have HS := mkHid hs
  have HF := mkHid hf
  obtain ⟨i5, hi5, hz5, hz15, hz25⟩ := info_parts info5
  have HI5 := mkHid (And.intro hi5 (And.intro hz5 (And.intro hz15 hz25)))
  clear hi5 hz5 hz15 hz25
  obtain ⟨a, c, rfl, _, _⟩ := hs
  clear hf
  have hnil := nil43
  go_enter Tryz.func102, Tryz.ntmps102
  go_wp2
  go_loopw [5, 8] (fun vb vi wr => ∃ k : Nat, k ≤ 4 ∧ vi = .int .i64 k ∧ Hid (Best kind l w wr k vb) ∧ Hid (Below w.heap.size w wr)) (fun _ vi _ => 4 - (intOf vi).toNat)
  case atStart => exact ⟨0, Nat.zero_le _, rfl, mkHid (.inl ⟨rfl, rfl⟩), Below.refl _ _⟩
  case round =>
    obtain ⟨k, hk, rfl, hB, hw⟩ := hrel
    have hsz := hw.out.size
    by_cases hlt : k < 4
    · by_cases hskip : k = 3 ∧ kind ≠ 1
      · obtain ⟨rfl, hk1⟩ := hskip
        obtain rfl : kind = 2 := by omega
        have HN : Hid (Best 2 l w wr 4 _) := mkHid (by
          rcases hB.out with ⟨h, _⟩ | ⟨_, h2, h3⟩
          · omega
          · refine .inr ⟨by omega, ?_⟩
            rw [fewTo_next 2 l 3 (by omega), if_pos ⟨rfl, hk1⟩]
            exact ⟨h2, h3⟩)
        go_wp2
        exact ⟨⟨4, by omega, rfl, HN, hw⟩, by simp [intOf]⟩
      · have HC := mkHid (inWay_any k (.slice a l.length c) l (wr.alloc (.cells #[.int .u8 (k : Int)] 5)) (HS.out.up (hw.out.alloc hsz _)) HF.out (by omega))
        have HNX : Hid (1 ≤ k → fewTo kind l (k + 1) = better (fewTo kind l k) (k.toUInt8 :: wayB k l)) := fun h => by rw [fewTo_next kind l k h, if_neg hskip]
        have HWL := mkHid (wayB_len HF.out k)
        have HFL := mkHid (fewTo_len (kind := kind) HF.out k)
        have HRL : Hid ((wr.alloc (.cells #[.int .u8 (k : Int)] 5)).ownsRow wr.heap.size 5 1 (.slice (some ⟨wr.heap.size, 0, none⟩) 1 1) 1 [.int .u8 (k : Int)]) := mkHid (World.ownsRow_lit wr #[.int .u8 (k : Int)] 1 (Nat.le_refl _) (by unfold maxLen; omega) rfl)
        have hk256 : (k : Int) < 256 := by omega
        have hor : (k = 3 → kind = 1) := fun h => Classical.byContradiction fun h2 => hskip ⟨h, h2⟩
        clear hskip
        by_cases h3 : k = 3
        · have b3 : ((k : Int) == 3) = true := by simp; omega
          have bk : (kind == 1) = true := by simp [hor h3]
          clear h3 hor hkd
          go_wp2_with fail
          refine HC.out.mono ?_
          rintro e w2 ⟨v2, rfl, ho2, hb2⟩
          have hs2 := hb2.size
          have hB2 : wr.heap.size ≤ w2.heap.size := by simp at hs2; omega
          have hbw2 : Below wr.heap.size wr w2 := ((Below.refl _ _).alloc (Nat.le_refl _) _).trans (hb2.mono (by simp))
          have HA := mkHid (ownsRow_up HRL.out hb2)
          have HB := mkHid ho2
          go_wp2_with (at_builtin; refine wpList_append_row rfl _ _ 82 rfl wr.heap.size 5 i5 (.int .u8 0) 1 1 Tryz.underlying82 HI5.out.1 HI5.out.2.1 HI5.out.2.2.1 HI5.out.2.2.2 rfl (by decide) _ _ _ rfl HA.out _ _ _ _ rfl HB.out (byteCells_one _) ?fA1 ?fA2 ?fA3 ?_)
          case fA1 => have := HWL.out; unfold maxLen; omega
          case fA2 => have := HWL.out; omega
          case fA3 => omega
          intro v3 w3 ho3 hg3
          have hbw3 : Below wr.heap.size wr w3 := below_grown_own hbw2 HA.out hg3 hB2
          have HO3 : Hid (w3.ownsRow wr.heap.size 5 1 v3 (k.toUInt8 :: wayB k l).length (Lib.byteCells (k.toUInt8 :: wayB k l))) := mkHid (by rw [← cell_byte k (by omega), List.length_cons, Nat.add_comm]; exact ho3)
          have HBW : Hid (Below w.heap.size w w3) := mkHid (hw.out.trans (hbw3.mono hsz))
          obtain ⟨g, cap, rfl, _, _⟩ := HO3.out.form (by simp)
          clear ho3 hg3
          have hwl : (k.toUInt8 :: wayB k l).length ≤ 4001 := by have := HWL.out; rw [List.length_cons]; omega
          generalize hbn : (k.toUInt8 :: wayB k l) = bn at *
          rcases hB.out with ⟨rfl, rfl⟩ | ⟨hk0, hob, hlb⟩
          · have HNEW : Hid (Best kind l w w3 1 (.slice (some ⟨g, 0, none⟩) bn.length cap)) := mkHid (.inr ⟨by omega, by rw [show fewTo kind l 1 = bn from hbn]; exact ownsRow_base HO3.out hsz, by rw [show fewTo kind l 1 = bn from hbn, ← hbn]; simp⟩)
            go_wp2
            exact ⟨⟨1, by omega, rfl, HNEW, HBW⟩, by simp [intOf]⟩
          · obtain ⟨gb, capb, rfl, _, hgb⟩ := hob.form hlb
            have HOB := mkHid (ownsRow_up hob hbw3)
            have hfl := HFL.out
            have HLB := mkHid hlb
            have HNB := HNX.out hk0
            generalize fewTo kind l k = fo at *
            clear hob hlb
            by_cases hcmp : bn.length < fo.length
            · have HNEW : Hid (Best kind l w w3 (k + 1) (.slice (some ⟨g, 0, none⟩) bn.length cap)) := mkHid (.inr ⟨by omega, by rw [HNB, better, if_pos hcmp]; exact ⟨ownsRow_base HO3.out hsz, by rw [← hbn]; simp⟩⟩)
              clear HNB hbn
              go_wp2
              exact ⟨⟨k + 1, by omega, by go_num, HNEW, HBW⟩, by simp [intOf]; omega⟩
            · have HNEW : Hid (Best kind l w w3 (k + 1) (.slice (some ⟨gb, 0, none⟩) fo.length capb)) := mkHid (.inr ⟨by omega, by rw [HNB, better, if_neg hcmp]; exact ⟨HOB.out, HLB.out⟩⟩)
              clear HNB hbn
              go_wp2
              exact ⟨⟨k + 1, by omega, by go_num, HNEW, HBW⟩, by simp [intOf]; omega⟩
        · have b3 : ((k : Int) == 3) = false := by simp; omega
          clear h3 hor hkd
          go_wp2_with fail
          refine HC.out.mono ?_
          rintro e w2 ⟨v2, rfl, ho2, hb2⟩
          have hs2 := hb2.size
          have hB2 : wr.heap.size ≤ w2.heap.size := by simp at hs2; omega
          have hbw2 : Below wr.heap.size wr w2 := ((Below.refl _ _).alloc (Nat.le_refl _) _).trans (hb2.mono (by simp))
          have HA := mkHid (ownsRow_up HRL.out hb2)
          have HB := mkHid ho2
          go_wp2_with (at_builtin; refine wpList_append_row rfl _ _ 82 rfl wr.heap.size 5 i5 (.int .u8 0) 1 1 Tryz.underlying82 HI5.out.1 HI5.out.2.1 HI5.out.2.2.1 HI5.out.2.2.2 rfl (by decide) _ _ _ rfl HA.out _ _ _ _ rfl HB.out (byteCells_one _) ?fB1 ?fB2 ?fB3 ?_)
          case fB1 => have := HWL.out; unfold maxLen; omega
          case fB2 => have := HWL.out; omega
          case fB3 => omega
          intro v3 w3 ho3 hg3
          have hbw3 : Below wr.heap.size wr w3 := below_grown_own hbw2 HA.out hg3 hB2
          have HO3 : Hid (w3.ownsRow wr.heap.size 5 1 v3 (k.toUInt8 :: wayB k l).length (Lib.byteCells (k.toUInt8 :: wayB k l))) := mkHid (by rw [← cell_byte k (by omega), List.length_cons, Nat.add_comm]; exact ho3)
          have HBW : Hid (Below w.heap.size w w3) := mkHid (hw.out.trans (hbw3.mono hsz))
          obtain ⟨g, cap, rfl, _, _⟩ := HO3.out.form (by simp)
          clear ho3 hg3
          have hwl : (k.toUInt8 :: wayB k l).length ≤ 4001 := by have := HWL.out; rw [List.length_cons]; omega
          generalize hbn : (k.toUInt8 :: wayB k l) = bn at *
          rcases hB.out with ⟨rfl, rfl⟩ | ⟨hk0, hob, hlb⟩
          · have HNEW : Hid (Best kind l w w3 1 (.slice (some ⟨g, 0, none⟩) bn.length cap)) := mkHid (.inr ⟨by omega, by rw [show fewTo kind l 1 = bn from hbn]; exact ownsRow_base HO3.out hsz, by rw [show fewTo kind l 1 = bn from hbn, ← hbn]; simp⟩)
            go_wp2
            exact ⟨⟨1, by omega, rfl, HNEW, HBW⟩, by simp [intOf]⟩
          · obtain ⟨gb, capb, rfl, _, hgb⟩ := hob.form hlb
            have HOB := mkHid (ownsRow_up hob hbw3)
            have hfl := HFL.out
            have HLB := mkHid hlb
            have HNB := HNX.out hk0
            generalize fewTo kind l k = fo at *
            clear hob hlb
            by_cases hcmp : bn.length < fo.length
            · have HNEW : Hid (Best kind l w w3 (k + 1) (.slice (some ⟨g, 0, none⟩) bn.length cap)) := mkHid (.inr ⟨by omega, by rw [HNB, better, if_pos hcmp]; exact ⟨ownsRow_base HO3.out hsz, by rw [← hbn]; simp⟩⟩)
              clear HNB hbn
              go_wp2
              exact ⟨⟨k + 1, by omega, by go_num, HNEW, HBW⟩, by simp [intOf]; omega⟩
            · have HNEW : Hid (Best kind l w w3 (k + 1) (.slice (some ⟨gb, 0, none⟩) fo.length capb)) := mkHid (.inr ⟨by omega, by rw [HNB, better, if_neg hcmp]; exact ⟨HOB.out, HLB.out⟩⟩)
              clear HNB hbn
              go_wp2
              exact ⟨⟨k + 1, by omega, by go_num, HNEW, HBW⟩, by simp [intOf]; omega⟩
    · obtain rfl : k = 4 := by omega
      have HE : Hid (Best kind l w wr 4 _ ) := hB
      rcases hB.out with ⟨h, _⟩ | ⟨_, h2, h3⟩
      · omega
      · have HO := mkHid h2
        clear h2 h3
        go_wp2
        go_ret
        exact ⟨_, rfl, HO.out, hw.out⟩
end Go.Proofs.YtodemklghajdeaaGreatDoor.E
