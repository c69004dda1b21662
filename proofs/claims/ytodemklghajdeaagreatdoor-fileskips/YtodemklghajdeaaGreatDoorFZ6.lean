/- What file.Write does, said of every call. -/
import Derived.Test.YtodemklghajdeaaGreatDoorFZ1
import Derived.Test.YtodemklghajdeaaGreatDoorFZ5
namespace Go.Proofs.YtodemklghajdeaaGreatDoor
open Go.RowKit Go.Proofs Go.Shelf Go.Joins

theorem cell_blk {W : World} {b i : Nat} {cs : Array Value} {T : TypeId} {v : Value} (h : W.heap[b]? = some (.cells cs T)) (hv : cs[i]? = some v) : W.cell? ⟨b, i, none⟩ = some v := by simp [World.cell?, h, hv]
def WritePost (r : Option (List UInt8)) (w : World) (e : Ending) (w' : World) : Prop := match r with
  | none => e = .returned (.tuple #[.string ⟨#[]⟩, .iface 80 (.int .i64 1)]) ∧ Below w.heap.size w w'
  | some b => e = .returned (.tuple #[.string (E.str b), .nilIface]) ∧ Below w.heap.size w w'
def headTo (cols : List Col) (k : Nat) : List UInt8 := Lib.uvarint cols.length ++ (cols.take k).flatMap colBytes
def tailTo (cols : List Col) (gs : List Grp) (k : Nat) : List UInt8 := (headTo cols cols.length ++ Lib.uvarint gs.length) ++ (gs.take k).flatMap groupBytes
theorem tailTo_all (cols : List Col) (gs : List Grp) : tailTo cols gs gs.length = writeB (cols, gs) := by
  unfold tailTo headTo writeB
  rw [List.take_length, List.take_length]
  simp
theorem headTo_next {cols : List Col} {k : Nat} {c : Col} (h : cols[k]? = some c) : headTo cols (k + 1) = (headTo cols k ++ Lib.uvarint c.1.toNat) ++ Lib.uvarint (kd c).toNat := by
  unfold headTo
  rw [E.take_next h]
  simp [colBytes]
theorem tailTo_next {cols : List Col} {gs : List Grp} {k : Nat} {g : Grp} (h : gs[k]? = some g) : tailTo cols gs (k + 1) = tailTo cols gs k ++ groupBytes g := by
  unfold tailTo
  rw [E.take_next h]
  simp
theorem headTo_len {cols : List Col} (h8 : cols.length ≤ 8) (hc : ∀ c ∈ cols, 0 ≤ c.1 ∧ c.1 ≤ 1099511627776 ∧ 0 ≤ kd c ∧ kd c ≤ 2) (k : Nat) : (headTo cols k).length ≤ 200 := by
  unfold headTo
  have h1 : (Lib.uvarint cols.length).length ≤ 10 := Lib.uvarint_length64 (by omega)
  have h2 := flat_len colBytes 20 (l := cols.take k) (fun c hc' => by
    obtain ⟨a, b, d, e⟩ := hc c (List.mem_of_mem_take hc')
    have h3 : (Lib.uvarint c.1.toNat).length ≤ 10 := Lib.uvarint_length64 (by omega)
    have h4 : (Lib.uvarint (kd c).toNat).length ≤ 10 := Lib.uvarint_length64 (by omega)
    simp only [colBytes, List.length_append]; omega)
  have h4 : (cols.take k).length ≤ 8 := by rw [List.length_take]; omega
  have h5 := Nat.mul_le_mul_right 20 h4
  rw [List.length_append]; omega
theorem madeB_parts {cols : List Col} {gs : List Grp} (h : madeB (cols, gs) = true) : rightB (plainC cols) 1099511627777 = true ∧ ∃ rows, allGo cols (plainC cols) [] gs = some rows := by
  constructor
  · cases hr : rightB (plainC cols) 1099511627777 with
    | true => rfl
    | false => rw [madeB_no hr] at h; cases h
  · cases ha : allGo cols (plainC cols) [] gs with
    | some rows => exact ⟨rows, rfl⟩
    | none => rw [madeB_none ha] at h; cases h
theorem made_cols {cols : List Col} {gs : List Grp} (h : madeB (cols, gs) = true) : ∀ c ∈ cols, 0 ≤ c.1 ∧ c.1 ≤ 1099511627776 ∧ 0 ≤ kd c ∧ kd c ≤ 2 := fun c hc => by
  obtain ⟨d, hd, e1, e2⟩ := same_ids_mem (show SameIK cols (plainC cols) from ⟨(sameIK_plain cols).1.symm, (sameIK_plain cols).2.symm⟩) hc
  have := right_col (right_iff.1 (madeB_parts h).1) hd
  rwa [e1, e2] at this
theorem allGo_whole {cols now : List Col} : ∀ {gs : List Grp} {acc rows : List (List V)}, allGo cols now acc gs = some rows → ∀ g ∈ gs, g.1 ≤ 6 ∧ g.2.2.length = cols.length
  | [], _, _, _ => by simp
  | g :: gs, acc, rows, h => by
    cases hr : readG cols g now with
    | none => rw [allGo_none hr] at h; cases h
    | some r =>
      rw [allGo_some hr] at h
      intro g' hg
      rcases List.mem_cons.1 hg with rfl | hg
      · unfold readG at hr
        split at hr
        · rename_i hw
          rw [Bool.and_eq_true] at hw
          have hw := hw.1
          simp only [wholeG, decide_eq_true_eq] at hw
          exact ⟨hw.2.2.2, hw.2.1⟩
        · cases hr
      · exact allGo_whole h g' hg
theorem uv_pos (n : Nat) : 0 < (Lib.uvarint n).length := by
  rw [Lib.uvarint]; split <;> simp
theorem groupBytes_len {g : Grp} (hr : g.1 ≤ 6) (hb : g.2.2.length ≤ 8) (hsz : ∀ b ∈ g.2.2, b.length ≤ 1000000) : (groupBytes g).length ≤ 9000000 := by
  have h := cellsTo_len hr hsz g.2.2.length
  rw [cellsTo_all] at h
  have : g.2.2.length * 1000010 ≤ 8 * 1000010 := Nat.mul_le_mul_right _ hb
  omega
set_option maxHeartbeats 8000000 in
set_option maxRecDepth 100000 in
theorem write_any (cv gv : Value) (cols : List Col) (gs : List Grp) (w : World) (hF : FilAt w cv gv (cols, gs)) (h8 : cols.length ≤ 8) (hsz : ∀ g ∈ gs, ∀ b ∈ g.2.2, b.length ≤ 1000000) (hgl : gs.length ≤ 60) (hw : C.NcB w) (hg : C.EtB w) :
    Calls Tryz.prog 10 #[.agg #[cv, gv]] w (WritePost (writeR (cols, gs)) w) := by
  have HF := mkH hF
  have HSZ := mkH hsz
  have HMD := mkH (fun W (hW : Below w.heap.size w W) => made_any cv gv cols gs W (hF.up hW) h8 hsz hgl (hw.below hW) (hg.below hW))
  obtain ⟨hC, hG⟩ := hF
  obtain ⟨ga, gc, rfl, _⟩ := hG.slice
  obtain ⟨ca, cc, rfl, _⟩ := hC.slice
  have hb0 : Below w.heap.size w (w.alloc (.cells #[.slice ca cols.length cc, .slice ga gs.length gc] 29)) := (Below.refl _ _).alloc (Nat.le_refl _) _
  obtain ⟨f0, f1⟩ := row2 (heap_alloc_new w (.cells #[.slice ca cols.length cc, .slice ga gs.length gc] 29))
  have HF0 : Hid (∀ W, Below (w.heap.size + 1) (w.alloc (.cells #[.slice ca cols.length cc, .slice ga gs.length gc] 29)) W → W.cell? ⟨w.heap.size, 0, none⟩ = some (.slice ca cols.length cc) ∧ W.cell? ⟨w.heap.size, 1, none⟩ = some (.slice ga gs.length gc) ∧ Below w.heap.size w W) := mkH (fun W hW => by
    have hW' : Below (w.alloc (.cells #[.slice ca cols.length cc, .slice ga gs.length gc] 29)).heap.size (w.alloc (.cells #[.slice ca cols.length cc, .slice ga gs.length gc] 29)) W := by rw [World.size_alloc]; exact hW
    exact ⟨cell_up hW' f0, cell_up hW' f1, ups hb0 hW'⟩)
  have HM0 := mkH (HMD.out _ hb0)
  clear hC hG hsz hw hg
  cases hm : madeB (cols, gs) with
  | false =>
    rw [hm] at HM0
    have HE : Hid (writeR (cols, gs) = none) := mkH (by unfold writeR; rw [if_neg (by simp [hm])])
    clear hm
    have HB0 := mkH hb0
    clear hb0
    go_enter Tryz.func10, Tryz.ntmps10
    go_wp2_with fail
    refine HM0.out.mono ?_
    rintro e w1 ⟨rfl, hb1⟩
    go_wp2
    go_ret2
    rw [HE.out]
    exact ⟨rfl, ups HB0.out hb1⟩
  | true =>
    rw [hm] at HM0
    have HM := mkH hm
    have HE : Hid (writeR (cols, gs) = some (writeB (cols, gs))) := mkH (by unfold writeR; rw [if_pos hm])
    clear hm
    have HB0 := mkH hb0
    clear hb0
    go_enter Tryz.func10, Tryz.ntmps10
    go_wp2_with fail
    refine HM0.out.mono ?_
    rintro e w1 ⟨rfl, hb1⟩
    have hb1' : Below (w.heap.size + 1) (w.alloc (.cells #[.slice ca cols.length cc, .slice ga gs.length gc] 29)) w1 := by rw [World.size_alloc] at hb1; exact hb1
    obtain ⟨q0, q1, hbw1⟩ := HF0.out w1 hb1'
    have hs1 := hb1'.size
    rw [World.size_alloc] at hs1
    have HA1 : Hid (Calls Tryz.prog 35 #[.slice none 0 0, .int .u64 cols.length] w1 _) := mkH (E.append_any w1.heap.size 0 cols.length (by omega) (.slice none 0 0) [] w1 (World.ownsRow_nil _ _ _ _) (Nat.le_refl _) (by omega))
    go_wp2_with fail
    refine HA1.out.mono ?_
    rintro e w2 ⟨v2, rfl, ho2, hw2⟩
    rw [Nat.zero_add] at ho2
    obtain ⟨a2, c2, rfl, _⟩ := E.ownsRow_slice ho2
    have HO2 : Hid (w2.ownsRow w1.heap.size 5 1 (.slice a2 (Lib.uvarint cols.length).length c2) (headTo cols 0).length (Lib.byteCells (headTo cols 0))) := mkH (by
      have e0 : headTo cols 0 = Lib.uvarint cols.length := by simp [headTo]
      rw [e0]
      simpa using ho2)
    have HW2 := mkH hw2
    have HCL := mkH (made_cols HM.out)
    have HWH := mkH (allGo_whole (madeB_parts HM.out).2.choose_spec)
    have HLEN := mkH (headTo_len h8 HCL.out)
    have q0' := (hw2.1.cell (p := ⟨w.heap.size, 0, none⟩) (by show w.heap.size < _; omega)).trans q0
    have HQ1 := mkH q1
    have HBW1 := mkH hbw1
    clear ho2 hw2 HA1 hb1 hb1' q0 q1 hbw1 HM0 HMD f0 f1
    go_wp2
    go_loopw [4, 21] (fun vb vi wr => ∃ k : Nat, k ≤ cols.length ∧ vi = .int .i64 k ∧ Hid (wr.ownsRow w1.heap.size 5 1 vb (headTo cols k).length (Lib.byteCells (headTo cols k))) ∧ Hid (E.Wr w1.heap.size w1 wr)) (fun _ vi _ => cols.length - (intOf vi).toNat)
    case atStart => exact ⟨0, Nat.zero_le _, rfl, HO2, HW2⟩
    case round =>
      obtain ⟨k, hk, rfl, ho, hw⟩ := hrel
      obtain ⟨b3, c3', rfl, _⟩ := E.ownsRow_slice ho.out
      have hszr := hw.out.1.size
      have hbr : Below w.heap.size w wr := HBW1.out.trans (hw.out.1.mono (by omega))
      by_cases hlt : k < cols.length
      · obtain ⟨⟨c1, c2, c3, c4, c5, c6, c7⟩, hc⟩ : ∃ c, cols[k]? = some c := ⟨_, List.getElem?_eq_getElem hlt⟩
        obtain ⟨g1, g2, g3, g4⟩ := HCL.out _ (List.mem_of_getElem? hc)
        dsimp only [kd] at g1 g2 g3 g4
        have HNX := mkH (headTo_next hc)
        obtain ⟨lb, lo, lc', el, _, hlb, hlcell⟩ := (HF.out.up hbr).1.cons (by show 0 < cols.length; omega)
        injection el with el1 em el2
        clear em
        subst el1 el2
        obtain ⟨q0, q1, q2, q3, q4, q5, q6⟩ := cells7 hlcell hc
        obtain ⟨n1, rfl⟩ := Int.eq_ofNat_of_zero_le g1
        obtain ⟨n3, rfl⟩ := Int.eq_ofNat_of_zero_le g3
        dsimp only [kd] at HNX
        rw [Int.toNat_natCast, Int.toNat_natCast] at HNX
        have hl200 := HLEN.out k
        have hkl : (k : Int) < (cols.length : Int) := by omega
        have hu1 : (Lib.uvarint n1).length ≤ 10 := Lib.uvarint_length64 (by omega)
        have HBX := mkH (heap_alloc_new wr (.cells #[.int .i64 n1, .string c2, .int .i64 n3, .bool c4, .int .i64 c5, .int .i64 c6, .string c7] 47))
        have x0 : (wr.alloc (.cells #[.int .i64 n1, .string c2, .int .i64 n3, .bool c4, .int .i64 c5, .int .i64 c6, .string c7] 47)).cell? ⟨wr.heap.size, 0, none⟩ = some (.int .i64 n1) := cell_blk HBX.out rfl
        have HA1 := mkH (E.append_any w1.heap.size (headTo cols k).length n1 (by omega) _ _ _ (ho.out.alloc (.cells #[.int .i64 n1, .string c2, .int .i64 n3, .bool c4, .int .i64 c5, .int .i64 c6, .string c7] 47)) (by simp; omega) (by omega))
        have HWX := mkH (hw.out.alloc hszr (.cells #[.int .i64 n1, .string c2, .int .i64 n3, .bool c4, .int .i64 c5, .int .i64 c6, .string c7] 47))
        have HL2 := mkH (And.intro hl200 hu1)
        clear hlcell hc hl200 hu1
        go_wp2_with fail
        refine HA1.out.mono ?_
        rintro e w3 ⟨v3, rfl, ho3, hw3⟩
        obtain ⟨a3, d3, rfl, _⟩ := E.ownsRow_slice ho3
        have x2 : w3.cell? ⟨wr.heap.size, 2, none⟩ = some (.int .i64 n3) := cell_blk (E.cell_of_wr hw3 HBX.out (by decide)) rfl
        have HA2 := mkH (E.append_any w1.heap.size _ n3 (by omega) _ _ w3 ho3 (by have := hw3.1.size; simp at this; omega) (by have := HL2.out; omega))
        have HWY := mkH (HWX.out.trans hw3)
        clear ho3 hw3 q0 q1 q2 q3 q4 q5 q6 x0
        go_wp2_with fail
        refine HA2.out.mono ?_
        rintro e w4 ⟨v4, rfl, ho4, hw4⟩
        obtain ⟨a4, d4, rfl, _⟩ := E.ownsRow_slice ho4
        have HO4 : Hid (w4.ownsRow w1.heap.size 5 1 (.slice a4 ((headTo cols k).length + (Lib.uvarint n1).length + (Lib.uvarint n3).length) d4) (headTo cols (k + 1)).length (Lib.byteCells (headTo cols (k + 1)))) := mkH (by
          rw [HNX.out, E.byteCells_app, E.byteCells_app]
          simpa [Nat.add_assoc] using ho4)
        have HW4 := mkH (HWY.out.trans hw4)
        clear ho4 hw4
        go_wp2
        exact ⟨⟨k + 1, by omega, by go_num, HO4, HW4⟩, by simp [intOf]; omega⟩
      · have ek : k = cols.length := by omega
        have hkl : ¬ (k : Int) < (cols.length : Int) := by omega
        have q1 := (hw.out.1.cell (p := ⟨w.heap.size, 1, none⟩) (by show w.heap.size < _; omega)).trans HQ1.out
        have hl200 := HLEN.out k
        have HA5 : Hid (Calls Tryz.prog 35 #[_, .int .u64 gs.length] wr _) := mkH (E.append_any w1.heap.size (headTo cols k).length gs.length (by omega) _ _ wr ho.out (by omega) (by omega))
        have HK := mkH ek
        have hug : (Lib.uvarint gs.length).length ≤ 10 := Lib.uvarint_length64 (by omega)
        have HL2 := mkH (And.intro hl200 hug)
        clear ek hl200 hug
        go_wp2_with fail
        refine HA5.out.mono ?_
        rintro e w5 ⟨v5, rfl, ho5, hw5⟩
        obtain ⟨a5, d5, rfl, _⟩ := E.ownsRow_slice ho5
        have q1' := (hw5.1.cell (p := ⟨w.heap.size, 1, none⟩) (by show w.heap.size < _; omega)).trans q1
        have HO5 : Hid (w5.ownsRow w1.heap.size 5 1 (.slice a5 ((headTo cols k).length + (Lib.uvarint gs.length).length) d5) (tailTo cols gs 0).length (Lib.byteCells (tailTo cols gs 0))) := mkH (by
          have e0 : tailTo cols gs 0 = headTo cols k ++ Lib.uvarint gs.length := by rw [HK.out]; simp [tailTo]
          rw [e0, E.byteCells_app]
          simpa using ho5)
        have HW5 := mkH (hw.out.trans hw5)
        clear ho5 hw5 q1
        go_wp2
        have hsz5 := HW5.out.1.size
        go_loopw [4, 45] (fun vb vi wr => ∃ j : Nat, j ≤ gs.length ∧ vi = .int .i64 j ∧ (tailTo cols gs j).length ≤ 300 + j * 9000000 ∧ Hid (wr.ownsRow w1.heap.size 5 1 vb (tailTo cols gs j).length (Lib.byteCells (tailTo cols gs j))) ∧ Hid (E.Wr w1.heap.size w1 wr)) (fun _ vi _ => gs.length - (intOf vi).toNat)
        case atStart =>
          refine ⟨0, Nat.zero_le _, rfl, ?_, HO5, HW5⟩
          have e0 : tailTo cols gs 0 = headTo cols k ++ Lib.uvarint gs.length := by rw [HK.out]; simp [tailTo]
          have := HL2.out
          rw [e0, List.length_append]; omega
        case round =>
          obtain ⟨j, hj, rfl, hjl, ho, hw⟩ := hrel
          obtain ⟨b6, c6', rfl, _⟩ := E.ownsRow_slice ho.out
          have hszr := hw.out.1.size
          have hbr : Below w.heap.size w wr := HBW1.out.trans (hw.out.1.mono (by omega))
          by_cases hlt : j < gs.length
          · obtain ⟨g, hg⟩ : ∃ g, gs[j]? = some g := ⟨_, List.getElem?_eq_getElem hlt⟩
            obtain ⟨gb, go, gd, sa, sc, ta, tc, eg, _, p0, p1, p2, hGA⟩ := HF.out.2.get hg
            replace p0 := cell_up hbr p0
            replace p1 := cell_up hbr p1
            replace p2 := cell_up hbr p2
            injection eg with eg1 em eg2
            clear em
            subst eg1 eg2
            obtain ⟨hg6, hgc⟩ := HWH.out g (List.mem_of_getElem? hg)
            have HSG := mkH (HSZ.out g (List.mem_of_getElem? hg))
            have hgb := groupBytes_len hg6 (by omega) HSG.out
            have HNX := mkH (tailTo_next (cols := cols) hg)
            have hjg : (j : Int) < (gs.length : Int) := by omega
            have HBX := mkH (heap_alloc_new wr (.cells #[.int .i64 g.1, .slice sa g.2.1.length sc, .slice ta g.2.2.length tc] 88))
            have x0 : (wr.alloc (.cells #[.int .i64 g.1, .slice sa g.2.1.length sc, .slice ta g.2.2.length tc] 88)).cell? ⟨wr.heap.size, 0, none⟩ = some (.int .i64 g.1) := cell_blk HBX.out rfl
            have x1 : (wr.alloc (.cells #[.int .i64 g.1, .slice sa g.2.1.length sc, .slice ta g.2.2.length tc] 88)).cell? ⟨wr.heap.size, 1, none⟩ = some (.slice sa g.2.1.length sc) := cell_blk HBX.out rfl
            have x2 : (wr.alloc (.cells #[.int .i64 g.1, .slice sa g.2.1.length sc, .slice ta g.2.2.length tc] 88)).cell? ⟨wr.heap.size, 2, none⟩ = some (.slice ta g.2.2.length tc) := cell_blk HBX.out rfl
            have HAG := mkH (appendGroup_any w1.heap.size (tailTo cols gs j).length _ _ g sa g.2.1.length sc (.slice ta g.2.2.length tc) w _ (ho.out.alloc (.cells #[.int .i64 g.1, .slice sa g.2.1.length sc, .slice ta g.2.2.length tc] 88)) (by omega) (by simp; omega) (hbr.alloc (by omega) _) hGA.2.2 hg6 (by omega) HSG.out (by omega))
            have HWX := mkH (hw.out.alloc hszr (.cells #[.int .i64 g.1, .slice sa g.2.1.length sc, .slice ta g.2.2.length tc] 88))
            have HGB := mkH hgb
            clear hg hGA hg6 hgc hgb
            go_wp2_with fail
            refine HAG.out.mono ?_
            rintro e w7 ⟨v7, rfl, ho7, hw7⟩
            obtain ⟨a7, d7, rfl, _⟩ := E.ownsRow_slice ho7
            have HO7 : Hid (w7.ownsRow w1.heap.size 5 1 (.slice a7 ((tailTo cols gs j).length + (groupBytes g).length) d7) (tailTo cols gs (j + 1)).length (Lib.byteCells (tailTo cols gs (j + 1)))) := mkH (by
              rw [HNX.out, E.byteCells_app]
              simpa using ho7)
            have HW7 := mkH (HWX.out.trans hw7)
            have HJL : Hid ((tailTo cols gs (j + 1)).length ≤ 300 + (j + 1) * 9000000) := mkH (by have := HGB.out; rw [HNX.out, List.length_append]; omega)
            clear ho7 hw7
            go_wp2
            exact ⟨⟨j + 1, by omega, by go_num, HJL.out, HO7, HW7⟩, by simp [intOf]; omega⟩
          · have ej : j = gs.length := by omega
            have hjg : ¬ (j : Int) < (gs.length : Int) := by omega
            have HO8 : Hid (wr.ownsRow w1.heap.size 5 1 (.slice b6 (tailTo cols gs j).length c6') (writeB (cols, gs)).length (Lib.byteCells (writeB (cols, gs)))) := mkH (by have h := ho.out; rw [ej, tailTo_all] at h ⊢; exact h)
            have hwl : 0 < (writeB (cols, gs)).length := by
              have := uv_pos cols.length
              simp only [writeB, List.length_append]; omega
            obtain ⟨g8, cap8, e8⟩ : ∃ g cap, (Value.slice b6 (tailTo cols gs j).length c6') = .slice (some ⟨g, 0, none⟩) (writeB (cols, gs)).length cap := by
              rcases HO8.out.2 with ⟨_, h0⟩ | ⟨g, cap, cur, e, _⟩
              · omega
              · exact ⟨g, cap, e⟩
            injection e8 with e81 e82 e83
            subst e81 e83
            have HO9 : Hid (wr.ownsRow w1.heap.size 5 1 (.slice (some ⟨g8, 0, none⟩) (writeB (cols, gs)).length c6') (writeB (cols, gs)).length (Lib.byteCells (writeB (cols, gs)))) := mkH (by have h := HO8.out; rw [e82] at h; exact h)
            have hconv := run_convert_bytes_back wr 82 9 5 ⟨g8, 0, none⟩ c6' (writeB (cols, gs)) Tryz.underlying82 Tryz.underlying5 Tryz.underlying9 (fun j hj => HO9.out.cells rfl j _ (by simp [Lib.byteCells, hj]))
            rw [← e82] at hconv
            clear ej e82 HO8 HO9 hwl
            go_wp2
            go_ret2
            rw [HE.out]
            exact ⟨rfl, hbr⟩
end Go.Proofs.YtodemklghajdeaaGreatDoor
