/- What schema.Row does, said of every call. -/
import Derived.Test.YtodemklghajdeaaGreatDoorFW3
namespace Go.Proofs.YtodemklghajdeaaGreatDoor
open Go.RowKit Go.Proofs Go.Shelf Go.Joins

def errV (x : Int) : Value := if x = 0 then .nilIface else .iface 80 (.int .i64 x)
theorem rowGo_drop {l : List Col} {r : List V} {k : Nat} {c : Col} {v : V} (hc : l[k]? = some c) (hv : r[k]? = some v) : rowGo (l.drop k) (r.drop k) = if fitV c v = false then 1 else if (c.2.2.2.1 && v.1 == 0) = true then 7 else rowGo (l.drop (k + 1)) (r.drop (k + 1)) := by
  have e1 : l.drop k = c :: l.drop (k + 1) := by rw [List.drop_eq_getElem_cons (lt_of_some hc)]; rw [List.getElem?_eq_getElem (lt_of_some hc)] at hc; injection hc with hc; rw [hc]
  have e2 : r.drop k = v :: r.drop (k + 1) := by rw [List.drop_eq_getElem_cons (lt_of_some hv)]; rw [List.getElem?_eq_getElem (lt_of_some hv)] at hv; injection hv with hv; rw [hv]
  rw [e1, e2, rowGo]
set_option maxHeartbeats 4000000 in
set_option maxRecDepth 100000 in
theorem row_any (lv rv : Value) (l : List Col) (r : List V) (w : World) (hl : SlE 7 C.encC w lv l) (hr : E.Sl w rv r) (hlen : l.length ≤ 1000) (ht : ∀ v ∈ r, v.2.2.size ≤ maxLen) :
    Calls Tryz.prog 38 #[lv, rv] w fun e w' => e = .returned (errV (rowE l r)) ∧ Below w.heap.size w w' := by
  have HL := mkH hl
  have HT := mkH ht
  obtain ⟨la, lc, rfl, _⟩ := hl.slice
  obtain ⟨ra, rc, rfl, hrc, hrcell⟩ := hr
  have HRC := mkH hrcell
  clear hl ht hrcell
  by_cases hne : r.length = l.length
  · rw [← hne]
    have HE : Hid (rowE l r = rowGo (l.drop 0) (r.drop 0)) := mkH (by unfold rowE; rw [if_pos hne]; rfl)
    have HNE := mkH hne
    have hrl : r.length ≤ 1000 := by omega
    clear hne
    go_enter Tryz.func38, Tryz.ntmps38
    go_wp2
    go_loopw [15] (fun vi wr => ∃ k : Nat, k ≤ r.length ∧ vi = .int .i64 k ∧ Hid (rowE l r = rowGo (l.drop k) (r.drop k)) ∧ Hid (Below w.heap.size w wr)) (fun vi _ => r.length - (intOf vi).toNat)
    case atStart => exact ⟨0, Nat.zero_le _, rfl, HE, mkH (Below.refl _ _)⟩
    case round =>
      obtain ⟨k, hk, rfl, hgo, hbR⟩ := hrel
      by_cases hlt : k < r.length
      · have hkl : k < l.length := by rw [← HNE.out]; exact hlt
        obtain ⟨⟨vk, vn, vt⟩, hv⟩ : ∃ x, r[k]? = some x := ⟨_, List.getElem?_eq_getElem hlt⟩
        obtain ⟨⟨c1, c2, c3, c4, c5, c6, c7⟩, hc⟩ : ∃ x, l[k]? = some x := ⟨_, List.getElem?_eq_getElem hkl⟩
        obtain ⟨rb, ro, rfl, hrb, hcell⟩ := HRC.out (by intro e; rw [e] at hlt; simp at hlt)
        obtain ⟨lb, lo, lc', el, _, hlb, hlcell⟩ := (HL.out.up hbR.out).cons (by omega)
        injection el with el1 _ el2
        subst el1 el2
        obtain ⟨q0, q1, q2, q3, q4, q5, q6⟩ := cells7 hlcell hc
        obtain ⟨v0, v1, v2⟩ := hcell k _ hv
        replace v0 := cell_up hbR.out v0
        replace v1 := cell_up hbR.out v1
        replace v2 := cell_up hbR.out v2
        have HF := mkH (fun W => C.fits_any c1 c2 c3 c4 c5 c6 c7 vk vn vt W (HT.out _ (List.mem_of_getElem? hv)))
        have HG : Hid (rowE l r = if C.fitB c3 vk vn vt = false then 1 else if (c4 && vk == 0) = true then 7 else rowGo (l.drop (k + 1)) (r.drop (k + 1))) := mkH (by rw [hgo.out, rowGo_drop hc hv]; rfl)
        have hki : (k : Int) < (r.length : Int) := by omega
        have hbX : Below wr.heap.size wr (wr.alloc (.cells #[.int .i64 vk, .int .i64 vn, .string vt] 45)) := (Below.refl _ _).alloc (Nat.le_refl _) _
        obtain ⟨x0, x1, x2⟩ := E.cell_box (heap_alloc_new wr (.cells #[.int .i64 vk, .int .i64 vn, .string vt] 45))
        have HBX := mkH (ups hbR.out hbX)
        clear hcell hlcell hgo hv hc
        go_wp2_with fail
        replace q0 := cell_up hbX q0
        replace q1 := cell_up hbX q1
        replace q2 := cell_up hbX q2
        replace q3 := cell_up hbX q3
        replace q4 := cell_up hbX q4
        replace q5 := cell_up hbX q5
        replace q6 := cell_up hbX q6
        clear v0 v1 v2 hbX hbR
        generalize wr.alloc (.cells #[.int .i64 vk, .int .i64 vn, .string vt] 45) = Wb at *
        generalize wr.heap.size = xb at *
        have HU : Hid (∀ W, Below Wb.heap.size Wb W → (W.cell? ⟨lb, lo + k * 7, none⟩ = some (.int .i64 c1) ∧ W.cell? ⟨lb, lo + k * 7 + 1, none⟩ = some (.string c2) ∧ W.cell? ⟨lb, lo + k * 7 + 2, none⟩ = some (.int .i64 c3) ∧ W.cell? ⟨lb, lo + k * 7 + 3, none⟩ = some (.bool c4) ∧ W.cell? ⟨lb, lo + k * 7 + 4, none⟩ = some (.int .i64 c5) ∧ W.cell? ⟨lb, lo + k * 7 + 5, none⟩ = some (.int .i64 c6) ∧ W.cell? ⟨lb, lo + k * 7 + 6, none⟩ = some (.string c7) ∧ W.cell? ⟨xb, 0, none⟩ = some (.int .i64 vk) ∧ W.cell? ⟨xb, 1, none⟩ = some (.int .i64 vn) ∧ W.cell? ⟨xb, 2, none⟩ = some (.string vt))) := mkH (fun W hW => ⟨cell_up hW q0, cell_up hW q1, cell_up hW q2, cell_up hW q3, cell_up hW q4, cell_up hW q5, cell_up hW q6, cell_up hW x0, cell_up hW x1, cell_up hW x2⟩)
        go_region_held3 (fun W => W.cell? ⟨lb, lo + k * 7, none⟩ = some (.int .i64 c1) ∧ W.cell? ⟨lb, lo + k * 7 + 1, none⟩ = some (.string c2) ∧ W.cell? ⟨lb, lo + k * 7 + 2, none⟩ = some (.int .i64 c3) ∧ W.cell? ⟨lb, lo + k * 7 + 3, none⟩ = some (.bool c4) ∧ W.cell? ⟨lb, lo + k * 7 + 4, none⟩ = some (.int .i64 c5) ∧ W.cell? ⟨lb, lo + k * 7 + 5, none⟩ = some (.int .i64 c6) ∧ W.cell? ⟨lb, lo + k * 7 + 6, none⟩ = some (.string c7) ∧ W.cell? ⟨xb, 0, none⟩ = some (.int .i64 vk) ∧ W.cell? ⟨xb, 1, none⟩ = some (.int .i64 vn) ∧ W.cell? ⟨xb, 2, none⟩ = some (.string vt))
          (first | (go_keep; done) | exact HU.out _ hb1 | fail)
          (first | (go_at_call 68; refine (HF.out _).mono ?_; rintro e w1 ⟨rfl, hb1'⟩; have hb1 : Below Wb.heap.size Wb w1 := ups (Below.refl _ _).drew hb1') | fail)
        obtain ⟨_, _, _, p3, _, _, _, p7, _, _⟩ := HU.out w1 hb1
        have hbf := ups HBX.out hb1
        clear q0 q1 q2 q3 q4 q5 q6 x0 x1 x2 HU hb1'
        cases hf : C.fitB c3 vk vn vt with
        | false =>
          have HR : Hid (rowE l r = 1) := mkH (by rw [HG.out, hf]; rfl)
          go_wp2
          go_ret
          rw [HR.out]
          exact ⟨rfl, hbf⟩
        | true =>
          have HG2 : Hid (rowE l r = if (c4 && vk == 0) = true then 7 else rowGo (l.drop (k + 1)) (r.drop (k + 1))) := mkH (by rw [HG.out, hf]; rfl)
          clear HG hf
          cases c4 with
          | false =>
            have HR : Hid (rowE l r = rowGo (l.drop (k + 1)) (r.drop (k + 1))) := mkH (by rw [HG2.out]; rfl)
            go_wp2
            go_roundw
            case rel => exact ⟨k + 1, by omega, by go_num, HR, mkH hbf⟩
            case measure => simp [intOf]; omega
          | true =>
            by_cases hv0 : vk = 0
            · subst hv0
              have HR : Hid (rowE l r = 7) := mkH (by rw [HG2.out]; rfl)
              go_wp2
              go_ret
              rw [HR.out]
              exact ⟨rfl, hbf⟩
            · have hvb : (vk == 0) = false := by simpa using hv0
              have HR : Hid (rowE l r = rowGo (l.drop (k + 1)) (r.drop (k + 1))) := mkH (by rw [HG2.out, hvb]; rfl)
              clear hv0
              go_wp2
              go_roundw
              case rel => exact ⟨k + 1, by omega, by go_num, HR, mkH hbf⟩
              case measure => simp [intOf]; omega
      · have ek : k = r.length := by omega
        subst ek
        have HR : Hid (rowE l r = 0) := mkH (by rw [hgo.out, HNE.out, List.drop_length]; rfl)
        go_wp2
        go_ret
        rw [HR.out]
        exact ⟨rfl, hbR.out⟩
  · have hneb : ((r.length : Int) == (l.length : Int)) = false := by simp; omega
    have HE : Hid (rowE l r = 1) := mkH (by unfold rowE; rw [if_neg hne])
    clear hne
    go_enter Tryz.func38, Tryz.ntmps38
    go_wp2
    go_ret
    rw [HE.out]
    exact ⟨rfl, Below.refl _ _⟩
end Go.Proofs.YtodemklghajdeaaGreatDoor
