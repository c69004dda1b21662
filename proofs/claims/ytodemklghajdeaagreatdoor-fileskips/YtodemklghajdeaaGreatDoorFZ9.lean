/- What file.Parse does, said of every call. -/
import Derived.Test.YtodemklghajdeaaGreatDoorFZ6
import Derived.Test.YtodemklghajdeaaGreatDoorFZ8
namespace Go.Proofs.YtodemklghajdeaaGreatDoor
open Go.RowKit Go.Proofs Go.Shelf Go.Joins

def ParsePost (r : Option Fil) (w : World) (e : Ending) (w' : World) : Prop := match r with
  | none => e = .returned (.tuple #[.agg #[.slice none 0 0, .slice none 0 0], .iface 80 (.int .i64 3)]) ∧ Below w.heap.size w w'
  | some f => ∃ cv gv, e = .returned (.tuple #[.agg #[cv, gv], .nilIface]) ∧ FilAt w' cv gv f ∧ Below w.heap.size w w'
theorem rdGroups_short (l : List Col) : ∀ (k : Nat) {s : E.St} {n : Nat}, s.1.length ≤ n → (rdGroups l k s).2.1.length ≤ n ∧ ∀ g ∈ (rdGroups l k s).1, ∀ b ∈ g.2.2, b.length ≤ n
  | 0, _, _, h => ⟨h, by simp [rdGroups]⟩
  | k + 1, s, n, h => by
    obtain ⟨h3, h4⟩ := rdGroups_short l k (rdGroup_short l h)
    refine ⟨h3, fun g hg => ?_⟩
    simp only [rdGroups, List.mem_cons] at hg
    rcases hg with rfl | hg
    · exact (rdCells_short l (upTo_short h)).2
    · exact h4 g hg
theorem rdCols_short : ∀ (k : Nat) {s : E.St} {n : Nat}, s.1.length ≤ n → (rdCols k s).2.1.length ≤ n
  | 0, _, _, h => h
  | k + 1, s, n, h => by rw [rdCols]; exact rdCols_short k (upTo_short (upTo_short h))
theorem rdFile_fit (s : List UInt8) : (rdFile s).1.1.length ≤ 8 ∧ (rdFile s).1.2.length ≤ 60 ∧ ∀ g ∈ (rdFile s).1.2, ∀ b ∈ g.2.2, b.length ≤ s.length := by
  have h8 := upTo_le (most := 8) (s, false)
  simp only [Int.cast_ofNat_Int] at h8
  refine ⟨?_, ?_, ?_⟩
  · show (rdCols _ _).1.length ≤ 8
    rw [rdCols_len]; exact h8
  · have h60 := upTo_le (most := 60) (rdHead s).2
    simp only [Int.cast_ofNat_Int] at h60
    show (rdGroups _ _ _).1.length ≤ 60
    rw [rdGroups_len]; exact h60
  · exact (rdGroups_short _ _ (upTo_short (rdCols_short _ (upTo_short (s := (s, false)) (Nat.le_refl _))))).2
theorem SlE.far {α : Type} {k : Nat} {enc : α → List Value} (hne : ∀ x, ∃ u t, enc x = u :: t ∧ u ≠ .slice none 0 0) {w w' : World} {v : Value} {l : List α} {b0 : Nat} {T : TypeId} (h : SlE k enc w v l) (hb : w.heap[b0]? = some (.cells #[.slice none 0 0, .slice none 0 0] T)) (hg : w.grownBy w' (some b0)) : SlE k enc w' v l := by
  obtain ⟨a, c, e, hc, hl⟩ := h
  refine ⟨a, c, e, hc, fun hn => ?_⟩
  obtain ⟨b, off, ea, hbl, hcell⟩ := hl hn
  have hbne : b ≠ b0 := by
    rintro rfl
    obtain ⟨x, t, rfl⟩ := List.exists_cons_of_ne_nil hn
    obtain ⟨u, r, eu, hu⟩ := hne x
    have h0 := hcell 0 x rfl 0 u (by rw [eu]; rfl)
    simp only [World.cell?, hb] at h0
    have : u = .slice none 0 0 := by
      generalize off + 0 * k + 0 = q at h0
      rcases q with _ | _ | q
      · simpa using h0.symm
      · simpa using h0.symm
      · simp at h0
    exact hu this
  exact ⟨b, off, ea, Nat.lt_of_lt_of_le hbl hg.size, fun j x hx i u hu => (hg.cell_far ⟨b, off + j * k + i, none⟩ hbl (by simp; exact hbne)).trans (hcell j x hx i u hu)⟩
theorem FilAt.far {w w' : World} {cv gv : Value} {f : Fil} {b0 : Nat} {T : TypeId} (h : FilAt w cv gv f) (hb : w.heap[b0]? = some (.cells #[.slice none 0 0, .slice none 0 0] T)) (hg : w.grownBy w' (some b0)) : FilAt w' cv gv f := by
  obtain ⟨h1, xs, h2, h3, h4⟩ := h
  refine ⟨h1.far (fun x => ⟨_, _, rfl, by simp⟩) hb hg, xs, h2.far (fun x => ⟨_, _, rfl, by simp⟩) hb hg, h3, fun j x g hx hg' => ?_⟩
  obtain ⟨k1, k2, k3⟩ := h4 j x g hx hg'
  exact ⟨k1, k2.far (fun x => ⟨_, _, rfl, by simp⟩) hb hg, k3.far (fun x => ⟨_, _, rfl, by simp⟩) hb hg⟩
set_option maxHeartbeats 8000000 in
set_option maxRecDepth 100000 in
theorem parse_any (s : List UInt8) (w : World) (hs : s.length ≤ 1000000) (hw : C.NcB w) (hg : C.EtB w) :
    Calls Tryz.prog 9 #[.string (E.str s)] w (ParsePost (parseR s) w) := by
  obtain ⟨hf8, hf60, hfb⟩ := rdFile_fit s
  have HFB := mkH (fun g hg b hb => Nat.le_trans (hfb g hg b hb) hs)
  have HNC := mkH hw
  have HET := mkH hg
  clear hfb hw hg
  have hb0 : Below w.heap.size w (w.alloc (.cells #[.slice none 0 0, .slice none 0 0] 29)) := (Below.refl _ _).alloc (Nat.le_refl _) _
  have HRES0 := mkH (heap_alloc_new w (.cells #[.slice none 0 0, .slice none 0 0] 29))
  have HPR : Hid (parseR s = if (rdFile s).2.2 = true then none else if writeR (rdFile s).1 = some s then some (rdFile s).1 else none) := mkH rfl
  obtain ⟨⟨cols, gs⟩, hfl⟩ : ∃ f, (rdFile s).1 = f := ⟨_, rfl⟩
  obtain ⟨st, hst⟩ : ∃ f, (rdFile s).2 = f := ⟨_, rfl⟩
  have HRB := mkH (fun rb w hr => read_bytes rb s w hr hs)
  rw [hfl, hst] at HRB HPR
  rw [hfl] at HFB hf8 hf60
  dsimp only at HFB hf8 hf60
  clear hfl hst
  have HB0 := mkH hb0
  clear hb0
  go_enter Tryz.func9, Tryz.ntmps9
  go_wp2_with fail
  refine (E.from_any (E.str s) _).mono ?_
  rintro e w1 ⟨rfl, hb1⟩
  have hs1 := hb1.size
  rw [World.size_alloc] at hs1
  have hbR : Below w1.heap.size w1 (w1.alloc (.cells #[.string (E.str s), .bool false] 76)) := (Below.refl _ _).alloc (Nat.le_refl _) _
  have HRD := mkH (HRB.out w1.heap.size (w1.alloc (.cells #[.string (E.str s), .bool false] 76)) (heap_alloc_new w1 _))
  have HB1 := mkH (ups (ups HB0.out hb1) hbR)
  have HRES1 := mkH (((ups hb1 hbR).block w.heap.size (by simp)).trans HRES0.out)
  clear hb1 hbR
  go_wp2_with fail
  refine HRD.out.mono ?_
  rintro e w2 ⟨cv, gv, rfl, hF, hr2, hg2⟩
  obtain ⟨ca, cc, rfl, _⟩ := hF.1.slice
  obtain ⟨ga, gc, rfl, _⟩ := hF.2.slice
  dsimp only at hF hr2 ⊢
  have hs2 := hg2.size
  rw [World.size_alloc] at hs2
  have hb2 : Below w.heap.size w w2 := HB1.out.grown hg2 (by simp; omega) (fun k e => by injection e with e; omega)
  have HRES2 := mkH ((hg2.block w.heap.size (by simp; omega) (by simp; omega)).trans HRES1.out)
  have hbF : Below w2.heap.size w2 (w2.alloc (.cells #[.slice ca cols.length cc, .slice ga gs.length gc] 29)) := (Below.refl _ _).alloc (Nat.le_refl _) _
  have HFN := mkH (heap_alloc_new w2 (.cells #[.slice ca cols.length cc, .slice ga gs.length gc] 29))
  have HRES3 := mkH ((hbF.block w.heap.size (by omega)).trans HRES2.out)
  have HB3 := mkH (ups hb2 hbF)
  have HWG := mkH (E.wrongT_any 76 [] w1.heap.size st _ (hr2.up hbF))
  have HWR := mkH (write_any _ _ cols gs _ (hF.up hbF) hf8 HFB.out hf60 (HNC.out.below HB3.out) (HET.out.below HB3.out))
  have HFA := mkH (hF.up hbF)
  obtain ⟨sr, sq⟩ := st
  obtain ⟨f0, f1⟩ := row2 HFN.out
  obtain ⟨y0, y1⟩ := row2 HRES3.out
  have z0 := frozen_of_row _ w.heap.size 0 _ _ HRES3.out
  have z1 := frozen_of_row _ w.heap.size 1 _ _ HRES3.out
  have hszF : w.heap.size < (w2.alloc (.cells #[.slice ca cols.length cc, .slice ga gs.length gc] 29)).heap.size := by simp; omega
  have hw2F : w2.heap.size < (w2.alloc (.cells #[.slice ca cols.length cc, .slice ga gs.length gc] 29)).heap.size := by simp
  have HSZ := mkH (And.intro hszF hw2F)
  clear hF hr2 hg2 hb2 hbF HRES2 HRES1 HRD HB1 hszF hw2F
  cases sq with
  | true =>
    have HP : Hid (parseR s = none) := mkH (by rw [HPR.out]; rfl)
    have HBW := mkH HB3.out
    go_wp2_with fail
    generalize w2.alloc (.cells #[.slice ca cols.length cc, .slice ga gs.length gc] 29) = W3 at *
    refine HWG.out.mono ?_
    rintro e w3 ⟨rfl, rfl⟩
    go_wp2
    refine bodyPost_ret (v := .tuple #[.agg #[.slice none 0 0, .slice none 0 0], .iface 80 (.int .i64 3)]) (by simp [results, Tryz.results9, go_sem, y0, y1]) rfl ?_
    rw [HP.out]
    exact ⟨rfl, (HBW.out.setCell (p := ⟨w.heap.size, 0, none⟩) (Nat.le_refl _) _).setCell (p := ⟨w.heap.size, 1, none⟩) (Nat.le_refl _) _⟩
  | false =>
    have HP2 : Hid (parseR s = if writeR (cols, gs) = some s then some (cols, gs) else none) := mkH (by rw [HPR.out]; rfl)
    clear HPR HRB
    go_wp2_with fail
    generalize w2.alloc (.cells #[.slice ca cols.length cc, .slice ga gs.length gc] 29) = W3 at *
    refine HWG.out.mono ?_
    rintro e w3 ⟨rfl, rfl⟩
    cases hwr : writeR (cols, gs) with
    | none =>
      rw [hwr] at HWR HP2
      have HP : Hid (parseR s = none) := mkH (by rw [HP2.out]; simp)
      clear hwr
      go_wp2_with fail
      refine HWR.out.mono ?_
      rintro e w4 ⟨rfl, hb4⟩
      have hRES4 := (hb4.block w.heap.size HSZ.out.1).trans HRES3.out
      have hFN4 := (hb4.block w2.heap.size HSZ.out.2).trans HFN.out
      obtain ⟨y0, y1⟩ := row2 hRES4
      obtain ⟨f0, f1⟩ := row2 hFN4
      have z0 := frozen_of_row _ w.heap.size 0 _ _ hRES4
      have z1 := frozen_of_row _ w.heap.size 1 _ _ hRES4
      have HBW := mkH (ups HB3.out hb4)
      go_wp2
      refine bodyPost_ret (v := .tuple #[.agg #[.slice none 0 0, .slice none 0 0], .iface 80 (.int .i64 3)]) (by simp [results, Tryz.results9, go_sem, y0, y1]) rfl ?_
      rw [HP.out]
      exact ⟨rfl, (HBW.out.setCell (p := ⟨w.heap.size, 0, none⟩) (Nat.le_refl _) _).setCell (p := ⟨w.heap.size, 1, none⟩) (Nat.le_refl _) _⟩
    | some b =>
      rw [hwr] at HWR HP2
      clear hwr
      by_cases hbs : b = s
      · subst hbs
        have HP : Hid (parseR b = some (cols, gs)) := mkH (by rw [HP2.out]; simp)
        go_wp2_with fail
        refine HWR.out.mono ?_
        rintro e w4 ⟨rfl, hb4⟩
        have hRES4 := (hb4.block w.heap.size HSZ.out.1).trans HRES3.out
        have hFN4 := (hb4.block w2.heap.size HSZ.out.2).trans HFN.out
        obtain ⟨y0, y1⟩ := row2 hRES4
        obtain ⟨f0, f1⟩ := row2 hFN4
        have z0 := frozen_of_row _ w.heap.size 0 _ _ hRES4
        have z1 := frozen_of_row _ w.heap.size 1 _ _ hRES4
        have HBW := mkH (ups HB3.out hb4)
        have HFA4 := mkH (HFA.out.up hb4)
        have hs4 := hb4.size
        go_wp2
        have hg2 : w4.grownBy ((w4.setCell ⟨w.heap.size, 0, none⟩ (.slice ca cols.length cc)).setCell ⟨w.heap.size, 1, none⟩ (.slice ga gs.length gc)) (some w.heap.size) := E.grown_trans (E.grown_set w4 w.heap.size 0 _) (E.grown_set _ w.heap.size 1 _)
        have hF5 := HFA4.out.far hRES4 hg2
        refine bodyPost_ret (v := .tuple #[.agg #[.slice ca cols.length cc, .slice ga gs.length gc], .nilIface]) (by simp [results, Tryz.results9, go_sem, y0, y1]) rfl ?_
        rw [HP.out]
        exact ⟨_, _, rfl, hF5, (HBW.out.setCell (p := ⟨w.heap.size, 0, none⟩) (Nat.le_refl _) _).setCell (p := ⟨w.heap.size, 1, none⟩) (Nat.le_refl _) _⟩
      · have HP : Hid (parseR s = none) := mkH (by rw [HP2.out]; simp [hbs])
        have hne : ((E.str b).toList == (E.str s).toList) = false := by
          rw [beq_eq_false_iff_ne]
          intro e
          rw [ByteArray.toList_eq, ByteArray.toList_eq] at e
          exact hbs (by simpa [E.str] using e)
        clear hbs
        go_wp2_with fail
        refine HWR.out.mono ?_
        rintro e w4 ⟨rfl, hb4⟩
        have hRES4 := (hb4.block w.heap.size HSZ.out.1).trans HRES3.out
        have hFN4 := (hb4.block w2.heap.size HSZ.out.2).trans HFN.out
        obtain ⟨y0, y1⟩ := row2 hRES4
        obtain ⟨f0, f1⟩ := row2 hFN4
        have z0 := frozen_of_row _ w.heap.size 0 _ _ hRES4
        have z1 := frozen_of_row _ w.heap.size 1 _ _ hRES4
        have HBW := mkH (ups HB3.out hb4)
        go_wp2
        refine bodyPost_ret (v := .tuple #[.agg #[.slice none 0 0, .slice none 0 0], .iface 80 (.int .i64 3)]) (by simp [results, Tryz.results9, go_sem, y0, y1]) rfl ?_
        rw [HP.out]
        exact ⟨rfl, (HBW.out.setCell (p := ⟨w.heap.size, 0, none⟩) (Nat.le_refl _) _).setCell (p := ⟨w.heap.size, 1, none⟩) (Nat.le_refl _) _⟩
end Go.Proofs.YtodemklghajdeaaGreatDoor
