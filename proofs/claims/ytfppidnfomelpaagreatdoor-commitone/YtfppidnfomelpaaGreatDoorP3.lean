/- What log.right does, said of every call. -/
import Derived.Test.YtfppidnfomelpaaGreatDoorP2
namespace Go.Proofs.YtfppidnfomelpaaGreatDoor
open Go.RowKit Go.Proofs Go.Lib Go.Joins

/-- Whether an action may be by itself, and has nothing that its line would not tell. -/
def rightA (a : Actn) : Bool :=
  if a.1 = 1 then rfB a.2.1 a.2.2.1 && bareB ⟨#[]⟩ 0 a.2.2.2.1.length a.2.2.2.2.1.length a.2.2.2.2.2
  else if a.1 = 2 then nameB a.2.1 && bareB ⟨#[]⟩ a.2.2.1 a.2.2.2.1.length a.2.2.2.2.1.length a.2.2.2.2.2
  else if a.1 = 3 then (nameB a.2.1 && risingB a.2.2.2.1 60) && bareB ⟨#[]⟩ a.2.2.1 0 a.2.2.2.2.1.length a.2.2.2.2.2
  else if a.1 = 4 then rightB a.2.2.2.2.1 a.2.2.2.2.2 && bareB a.2.1 a.2.2.1 a.2.2.2.1.length 0 0
  else false

theorem box6 {W : World} {b : Nat} {x0 x1 x2 x3 x4 x5 : Value} {t : TypeId} (h : W.heap[b]? = some (.cells #[x0, x1, x2, x3, x4, x5] t (0, 0))) :
    W.cell? ⟨b, 0, none⟩ = some x0 ∧ W.cell? ⟨b, 1, none⟩ = some x1 ∧ W.cell? ⟨b, 2, none⟩ = some x2 ∧ W.cell? ⟨b, 3, none⟩ = some x3 ∧ W.cell? ⟨b, 4, none⟩ = some x4 ∧ W.cell? ⟨b, 5, none⟩ = some x5 ∧ ∀ i, W.frozen? ⟨b, i, none⟩ = false := by
  refine ⟨?_, ?_, ?_, ?_, ?_, ?_, fun i => ?_⟩ <;> simp [World.cell?, World.frozen?, h]

set_option maxHeartbeats 8000000 in
set_option maxRecDepth 100000 in
theorem rightA_any (k : Int) (p : ByteArray) (r : Int) (m : List Int) (cl : List Col) (nx : Int) (ma : Option Addr) (mn mc : Nat) (ca : Option Addr) (cn cc : Nat) (w : World) (ha : ActAt w (k, p, r, m, cl, nx) ma mn mc ca cn cc) (hw : NcB w) :
    Calls Tryz.prog 25 #[.agg #[.int .i64 k, .string p, .int .i64 r, .slice ma mn mc, .slice ca cn cc, .int .i64 nx]] w fun e w' => e = .returned (.bool (rightA (k, p, r, m, cl, nx))) ∧ Below w.heap.size w w' := by
  have hmn := ha.mask.len.1
  have hcn := ha.cols.len
  simp only at hmn hcn
  have HMN := mkH hmn
  have HCN := mkH hcn
  clear hmn hcn
  have HRF := mkH (fun W => rightFile_any k p r ma mn mc ca cn cc nx W ha.path)
  have HNA := mkH (fun W => name_any p W ha.path)
  have HRI : Hid (∀ W, Below w.heap.size w W → Calls Tryz.prog 53 #[.slice ma mn mc, .int .i64 60] W fun e w' => e = .returned (.bool (risingB m 60)) ∧ Below W.heap.size W w') := fun W hW => rising_any _ m 60 W (ha.mask.below hW) (by have := ha.few; simp only at this; unfold maxLen; omega)
  have HRT : Hid (∀ W, Below w.heap.size w W → Calls Tryz.prog 54 #[.slice ca cn cc, .int .i64 nx] W fun e w' => e = .returned (.bool (rightB cl nx)) ∧ Below W.heap.size W w') := fun W hW => right_any ca cn cc cl nx W (ha.cols.below hW) (hw.below hW) ha.texts
  have HBA := mkH (fun p r ma mn mc ca cn cc nx W => bare_any k p r ma mn mc ca cn cc nx W)
  obtain ⟨t0, t1, t2, t3⟩ := two_alloc w (.cells #[.int .i64 k, .string p, .int .i64 r, .slice ma mn mc, .slice ca cn cc, .int .i64 nx] 62) (.cells #[.int .i64 k, .string p, .int .i64 r, .slice ma mn mc, .slice ca cn cc, .int .i64 nx] 62)
  have HT : Hid (∀ W, Below (w.heap.size + 2) ((w.alloc (.cells #[.int .i64 k, .string p, .int .i64 r, .slice ma mn mc, .slice ca cn cc, .int .i64 nx] 62)).alloc (.cells #[.int .i64 k, .string p, .int .i64 r, .slice ma mn mc, .slice ca cn cc, .int .i64 nx] 62)) W → W.heap[w.heap.size]? = some (.cells #[.int .i64 k, .string p, .int .i64 r, .slice ma mn mc, .slice ca cn cc, .int .i64 nx] 62 (0, 0)) ∧ W.heap[w.heap.size + 1]? = some (.cells #[.int .i64 k, .string p, .int .i64 r, .slice ma mn mc, .slice ca cn cc, .int .i64 nx] 62 (0, 0)) ∧ Below w.heap.size w W ∧ w.heap.size + 2 ≤ W.heap.size) := fun W hW => by
    have hs := hW.size
    rw [t0] at hs
    exact ⟨(hW.block _ (by omega)).trans t1, (hW.block _ (by omega)).trans t2, t3.trans (hW.mono (by omega)), hs⟩
  clear t0 t1 t2 t3 ha hw
  generalize hWA : (w.alloc (.cells #[.int .i64 k, .string p, .int .i64 r, .slice ma mn mc, .slice ca cn cc, .int .i64 nx] 62)).alloc (.cells #[.int .i64 k, .string p, .int .i64 r, .slice ma mn mc, .slice ca cn cc, .int .i64 nx] 62) = wA at HT
  have hsA := (HT.out wA (Below.refl _ _)).2.2.2
  have HWA := mkH hWA
  clear hWA
  by_cases k1 : k = 1
  · subst k1
    have HR : Hid (rightA (1, p, r, m, cl, nx) = (rfB p r && bareB ⟨#[]⟩ 0 mn cn nx)) := by rw [HMN.out, HCN.out]; rfl
    generalize rightA (1, p, r, m, cl, nx) = q at HR ⊢
    generalize rfB p r = b1 at HRF HR
    cases b1
    all_goals
      go_enter Tryz.func25, Tryz.ntmps25
      go_wp2_with fail
      rw [HWA.out]
      refine (HRF.out _).mono ?_
      rintro e w1 ⟨rfl, hb1⟩
      obtain ⟨u1, u2, u3, u4⟩ := HT.out w1 (hb1.mono hsA)
      obtain ⟨_, y1, y2, y3, y4, y5, yf⟩ := box6 u2
      have y0 := (box6 u2).1
      have yf1 := yf 1
      have yf2 := yf 2
      have U3 := mkH u3
      clear u1 u2 u3 yf hb1
      go_wp2_with (go_at_call 55; refine (HBA.out _ _ _ _ _ _ _ _ _ _).mono ?_; rintro e w2 ⟨rfl, hb2⟩)
      go_ret
      first
        | exact ⟨ret_bool (by rw [HR.out]; rfl), (U3.out.setCell (p := ⟨w.heap.size + 1, _, none⟩) (Nat.le_succ _) _).setCell (p := ⟨w.heap.size + 1, _, none⟩) (Nat.le_succ _) _⟩
        | exact ⟨ret_bool (by rw [HR.out]; rfl), ((U3.out.setCell (p := ⟨w.heap.size + 1, _, none⟩) (Nat.le_succ _) _).setCell (p := ⟨w.heap.size + 1, _, none⟩) (Nat.le_succ _) _).trans (hb2.mono (by simp; omega))⟩
  · by_cases k2 : k = 2
    · subst k2
      have HR : Hid (rightA (2, p, r, m, cl, nx) = (nameB p && bareB ⟨#[]⟩ r mn cn nx)) := by rw [HMN.out, HCN.out]; rfl
      generalize rightA (2, p, r, m, cl, nx) = q at HR ⊢
      generalize nameB p = b1 at HNA HR
      cases b1
      all_goals
        go_enter Tryz.func25, Tryz.ntmps25
        go_wp2_with fail
        rw [HWA.out]
        refine (HNA.out _).mono ?_
        rintro e w1 ⟨rfl, hb1⟩
        obtain ⟨u1, u2, u3, u4⟩ := HT.out w1 (hb1.mono hsA)
        obtain ⟨_, y1, y2, y3, y4, y5, yf⟩ := box6 u2
        have y0 := (box6 u2).1
        have yf1 := yf 1
        have U3 := mkH u3
        clear u1 u2 u3 yf hb1
        go_wp2_with (go_at_call 55; refine (HBA.out _ _ _ _ _ _ _ _ _ _).mono ?_; rintro e w2 ⟨rfl, hb2⟩)
        go_ret
        first
          | exact ⟨ret_bool (by rw [HR.out]; rfl), U3.out.setCell (p := ⟨w.heap.size + 1, _, none⟩) (Nat.le_succ _) _⟩
          | exact ⟨ret_bool (by rw [HR.out]; rfl), (U3.out.setCell (p := ⟨w.heap.size + 1, _, none⟩) (Nat.le_succ _) _).trans (hb2.mono (by simp; omega))⟩
    · by_cases k3 : k = 3
      · subst k3
        have HR : Hid (rightA (3, p, r, m, cl, nx) = ((nameB p && risingB m 60) && bareB ⟨#[]⟩ r 0 cn nx)) := by rw [HCN.out]; rfl
        generalize rightA (3, p, r, m, cl, nx) = q at HR ⊢
        generalize nameB p = b1 at HNA HR
        generalize risingB m 60 = b2 at HRI HR
        cases b1 <;> cases b2
        all_goals
          go_enter Tryz.func25, Tryz.ntmps25
          go_wp2_with fail
          rw [HWA.out]
          refine (HNA.out _).mono ?_
          rintro e w1 ⟨rfl, hb1⟩
          have hT1 := HT.out w1 (hb1.mono hsA)
          obtain ⟨v0, v1, v2, v3, v4, v5, vf⟩ := box6 hT1.1
          obtain ⟨y0, y1, y2, y3, y4, y5, yf⟩ := box6 hT1.2.1
          have yf1 := yf 1
          have yf3 := yf 3
          have U1 := mkH hT1
          have HB1 := mkH (hb1.mono hsA)
          clear hT1 vf v0 v1 v2 v4 v5 yf hb1
          go_wp2_with (first
            | (go_at_call 53; refine (HRI.out _ U1.out.2.2.1).mono ?_; rintro e w3 ⟨rfl, hb3⟩
               have hT3 := HT.out w3 (HB1.out.trans (hb3.mono U1.out.2.2.2))
               clear y0 y1 y2 y3 y4 y5 yf1 yf3 v3
               obtain ⟨y0, y1, y2, y3, y4, y5, yf⟩ := box6 hT3.2.1
               have yf1 := yf 1
               have yf3 := yf 3
               have U3 := mkH hT3
               clear hT3 yf hb3)
            | (go_at_call 55; refine (HBA.out _ _ _ _ _ _ _ _ _ _).mono ?_; rintro e w2 ⟨rfl, hb2⟩))
          go_ret
          first
            | exact ⟨ret_bool (by rw [HR.out]; rfl), (U1.out.2.2.1.setCell (p := ⟨w.heap.size + 1, _, none⟩) (Nat.le_succ _) _).setCell (p := ⟨w.heap.size + 1, _, none⟩) (Nat.le_succ _) _⟩
            | exact ⟨ret_bool (by rw [HR.out]; rfl), (U3.out.2.2.1.setCell (p := ⟨w.heap.size + 1, _, none⟩) (Nat.le_succ _) _).setCell (p := ⟨w.heap.size + 1, _, none⟩) (Nat.le_succ _) _⟩
            | exact ⟨ret_bool (by rw [HR.out]; rfl), ((U3.out.2.2.1.setCell (p := ⟨w.heap.size + 1, _, none⟩) (Nat.le_succ _) _).setCell (p := ⟨w.heap.size + 1, _, none⟩) (Nat.le_succ _) _).trans (hb2.mono (by have := U3.out.2.2.2; simp; omega))⟩
      · by_cases k4 : k = 4
        · subst k4
          have HR : Hid (rightA (4, p, r, m, cl, nx) = (rightB cl nx && bareB p r mn 0 0)) := by rw [HMN.out]; rfl
          generalize rightA (4, p, r, m, cl, nx) = q at HR ⊢
          generalize rightB cl nx = b1 at HRT HR
          have hT0 := (HT.out wA (Below.refl _ _)).2.2.1
          cases b1
          all_goals
            go_enter Tryz.func25, Tryz.ntmps25
            go_wp2_with fail
            rw [HWA.out]
            refine (HRT.out _ hT0).mono ?_
            rintro e w1 ⟨rfl, hb1⟩
            obtain ⟨u1, u2, u3, u4⟩ := HT.out w1 (hb1.mono hsA)
            obtain ⟨_, y1, y2, y3, y4, y5, yf⟩ := box6 u2
            have y0 := (box6 u2).1
            have yf4 := yf 4
            have yf5 := yf 5
            have U3 := mkH u3
            clear u1 u2 u3 yf hb1
            go_wp2_with (go_at_call 55; refine (HBA.out _ _ _ _ _ _ _ _ _ _).mono ?_; rintro e w2 ⟨rfl, hb2⟩)
            go_ret
            first
              | exact ⟨ret_bool (by rw [HR.out]; rfl), (U3.out.setCell (p := ⟨w.heap.size + 1, _, none⟩) (Nat.le_succ _) _).setCell (p := ⟨w.heap.size + 1, _, none⟩) (Nat.le_succ _) _⟩
              | exact ⟨ret_bool (by rw [HR.out]; rfl), ((U3.out.setCell (p := ⟨w.heap.size + 1, _, none⟩) (Nat.le_succ _) _).setCell (p := ⟨w.heap.size + 1, _, none⟩) (Nat.le_succ _) _).trans (hb2.mono (by simp; omega))⟩
        · have HR : Hid (rightA (k, p, r, m, cl, nx) = false) := by simp [Hid, rightA, k1, k2, k3, k4]
          generalize rightA (k, p, r, m, cl, nx) = q at HR ⊢
          have hT0 := mkH (HT.out wA (Below.refl _ _)).2.2.1
          rw [← HWA.out] at hT0
          go_enter Tryz.func25, Tryz.ntmps25
          go_wp2
          go_ret
          exact ⟨ret_bool (by rw [HR.out]), hT0.out⟩
end Go.Proofs.YtfppidnfomelpaaGreatDoor
