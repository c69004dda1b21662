/- What a reader's leaf does, said of every call. -/
import Derived.Test.YtfokdpddcgaafaaGreatDoorAQ
namespace Go.Proofs.YtfokdpddcgaafaaGreatDoor
open Go.RowKit Go.Proofs Go.Lib Go.Proofs.YtfokdpddcgaafaaGreatDoor.Ask

def LfPost (B : Nat) (ts : List Tok) (w : World) (e : Ending) (w' : World) : Prop :=
  Past B w w' ∧ ((leafP nmL rtL ts = none ∧ Thrown e) ∨ ∃ T r v, leafP nmL rtL ts = some (T, r) ∧ r <:+ ts ∧ e = .returned v ∧ S.InC w' (ctOf T) v ∧ Rd w' B r)
theorem Past.setR {B R : Nat} {w W : World} (h : Past B w W) (hB : B < w.heap.size) (hR : w.heap.size ≤ R) (i : Nat) (a : Value) : Past B w (W.setCell ⟨R, i, none⟩ a) :=
  ⟨h.low.setCell (by simp only; omega) _, fun b hb hn => (Below.heap_setCell W ⟨R, i, none⟩ a b (by simp only; omega)).trans (h.keep b hb hn)⟩
theorem leaf_in {w : World} {R : Nat} {c : Int} {col : ByteArray} {v : Vl} (hk : w.heap[R]? = some (oCnd c col (vk v) (vn v) (vtx v) (.pointer none) (.pointer none))) (hc : 1 ≤ c ∧ c ≤ 11) : S.InC w (.node 0 0 (ndV c col v) .nil .nil) (.pointer (some ⟨R, 0, none⟩)) :=
  InC_node hk hc rfl rfl
theorem drop2 (ts : List Tok) (n : Nat) : (ts.drop n).drop 1 <:+ ts := by rw [List.drop_drop]; exact List.drop_suffix _ _
set_option maxHeartbeats 8000000 in
set_option maxRecDepth 100000 in
theorem leaf_any (B : Nat) (ts : List Tok) (w : World) (hr : Rd w B ts) (ho : Ok ts) (hg : GB w) (hB : 10 ≤ B) :
    Calls Tryz.prog 70 #[.pointer (some ⟨B, 0, none⟩)] w (LfPost B ts w) := by
  have HN := mkH (rname_any B ts w hr ho.len ho.hd.1 hg.1)
  have HB := mkH hr.lt
  have HO := mkH ho
  have HG := mkH hg
  have HNG := mkH hB
  have HL := mkH (leafP_eq ts)
  clear hr ho hg hB
  unfold LfPost
  unfold NmPost at HN
  generalize (hdTok ts).text = col at *
  generalize (hdTok ts).kind = kd at *
  generalize leafP nmL rtL ts = LO at *
  go_enter Tryz.func70, Tryz.ntmps70
  go_wp2_with fail
  refine HN.out.mono ?_
  rintro e w1 ⟨hp1, ⟨hk1, hn1, rfl, hr1⟩ | ⟨hno, ht⟩⟩
  rotate_left
  · obtain ⟨a, rfl⟩ := ht
    exact ⟨rfl, hp1, .inl ⟨HL.out.trans (if_neg hno), a, rfl⟩⟩
  have E1 := mkH (HL.out.trans (if_pos ⟨hk1, hn1⟩))
  rw [leaf2_eq] at E1
  have hs1 : ts.drop 1 <:+ ts := List.drop_suffix 1 ts
  have O1 := mkH (HO.out.suffix hs1)
  have HS1 := mkH hs1
  clear HN HL hk1 hn1 hs1
  have hl1 := hr1.lt
  have hba : Below w1.heap.size w1 (w1.alloc (oCnd 0 (bA col) 0 0 ⟨#[]⟩ (.pointer none) (.pointer none))) := (Below.refl _ _).alloc (Nat.le_refl _) _
  have HR2 := mkH (hr1.up hba)
  have HP2 := mkH (hp1.up (Nat.le_of_lt hl1) hba)
  have HK2 := mkH (heap_alloc_new w1 (oCnd 0 (bA col) 0 0 ⟨#[]⟩ (.pointer none) (.pointer none)))
  have HRB := mkH (show w1.heap.size ≠ B by omega)
  have HRw := mkH hp1.low.size
  have HRs : Hid (w.heap.size ≤ w1.heap.size) := by
    show _ ≤ _
    rcases Nat.lt_or_ge w1.heap.size w.heap.size with h | h
    · have := hp1.keep w1.heap.size h HRB.out
      rw [Array.getElem?_eq_none (Nat.le_refl _), Array.getElem?_eq_getElem h] at this
      cases this
    · exact h
  clear hp1 hr1 hba hl1 HRw
  generalize ts.drop 1 = r1 at *
  go_wp2_with fail
  refine (takes_any B 1 wIs r1 _ HR2.out O1.out.len).mono ?_
  rintro e w3 ⟨hp3, ⟨q3, rfl, hr3⟩ | ⟨q3, rfl, hr3⟩⟩
  · have HK3 := mkH (keepV hp3 HK2.out HRB.out)
    have E3 := mkH (E1.out.trans (if_pos q3))
    rw [leaf3_eq] at E3
    have HR3 := mkH hr3
    have HP3 := mkH (HP2.out.trans hp3)
    have S3 := mkH ((List.drop_suffix 1 r1).trans HS1.out)
    have O3 := mkH (HO.out.suffix S3.out)
    clear hp3 hr3 q3 E1 HR2 HP2 HK2
    generalize r1.drop 1 = r3 at *
    have k0 := cellsAt HK3.out 0
    simp at k0
    have f0 : ∀ i, w3.frozen? ⟨w1.heap.size, i, none⟩ = false := fun i => by simp [World.frozen?, HK3.out, oCnd]
    have HR4 := mkH (HR3.out.setR HK3.out (by decide) HRB.out 0 (.int .i64 7))
    have HP4 := mkH (HP3.out.setR HB.out HRs.out 0 (.int .i64 7))
    have HK4 := mkH (heap_setR HK3.out 0 (.int .i64 7))
    go_wp2_with fail
    refine (takes_any B 1 wNot r3 _ HR4.out O3.out.len).mono ?_
    rintro e w5 ⟨hp5, ⟨q5, rfl, hr5⟩ | ⟨q5, rfl, hr5⟩⟩
    · have HK5 := mkH (keepV hp5 HK4.out HRB.out)
      have E5 := mkH (E3.out.trans (if_pos q5))
      rw [needNull_eq] at E5
      have HR5 := mkH hr5
      have HP5 := mkH (HP4.out.trans hp5)
      have S5 := mkH ((List.drop_suffix 1 r3).trans S3.out)
      have O5 := mkH (HO.out.suffix S5.out)
      clear hp5 hr5 q5 E3 HR4 HP4 HK4 k0 f0
      generalize r3.drop 1 = r5 at *
      have k0 := cellsAt HK5.out 0
      simp at k0
      have f0 : ∀ i, w5.frozen? ⟨w1.heap.size, i, none⟩ = false := fun i => by simp [World.frozen?, HK5.out]
      have HR6 := mkH (HR5.out.setR HK5.out (by decide) HRB.out 0 (.int .i64 8))
      have HP6 := mkH (HP5.out.setR HB.out HRs.out 0 (.int .i64 8))
      have HK6 := mkH (heap_setR HK5.out 0 (.int .i64 8))
      go_wp2_with fail
      refine (needs_any B 1 wNull r5 _ HR6.out O5.out.len).mono ?_
      rintro e w7 ⟨hp7, ⟨q7, rfl, hr7⟩ | ⟨q7, ht⟩⟩
      rotate_left
      · obtain ⟨a, rfl⟩ := ht
        exact ⟨rfl, HP6.out.trans hp7, .inl ⟨E5.out.trans (if_neg (by rw [q7]; simp)), a, rfl⟩⟩
      have hk7 := keepV hp7 HK6.out HRB.out
      go_wp2
      go_ret
      exact ⟨HP6.out.trans hp7, .inr ⟨_, _, _, E5.out.trans (if_pos q7), (List.drop_suffix 1 r5).trans S5.out, rfl, leaf_in (v := .null) (hk7.trans (by simp [oCnd, vk, vn, vtx])) (by simp), hr7⟩⟩
    · have HK5 := mkH (keepV hp5 HK4.out HRB.out)
      have E5 := mkH (E3.out.trans (if_neg (by rw [q5]; simp)))
      rw [needNull_eq] at E5
      have HR5 := mkH hr5
      have HP5 := mkH (HP4.out.trans hp5)
      clear hp5 hr5 q5 E3 HR4 HP4 HK4 k0 f0
      go_wp2_with fail
      refine (needs_any B 1 wNull r3 _ HR5.out O3.out.len).mono ?_
      rintro e w7 ⟨hp7, ⟨q7, rfl, hr7⟩ | ⟨q7, ht⟩⟩
      rotate_left
      · obtain ⟨a, rfl⟩ := ht
        exact ⟨rfl, HP5.out.trans hp7, .inl ⟨E5.out.trans (if_neg (by rw [q7]; simp)), a, rfl⟩⟩
      have hk7 := keepV hp7 HK5.out HRB.out
      go_wp2
      go_ret
      exact ⟨HP5.out.trans hp7, .inr ⟨_, _, _, E5.out.trans (if_pos q7), (List.drop_suffix 1 r3).trans S3.out, rfl, leaf_in (v := .null) (hk7.trans (by simp [oCnd, vk, vn, vtx])) (by simp), hr7⟩⟩
  · have HK3 := mkH (keepV hp3 HK2.out HRB.out)
    have E3 := mkH (E1.out.trans (if_neg (by rw [q3]; simp)))
    have HR3 := mkH hr3
    have HP3 := mkH (HP2.out.trans hp3)
    clear hp3 hr3 q3 E1 HR2 HP2 HK2
    go_wp2_with fail
    refine (code_any B r1 _ HR3.out O1.out.len).mono ?_
    rintro e w4 ⟨hp4, ⟨q4, rfl, hr4⟩ | ⟨q4, ht⟩⟩
    rotate_left
    · obtain ⟨a, rfl⟩ := ht
      exact ⟨rfl, HP3.out.trans hp4, .inl ⟨E3.out.trans (if_neg (by simp [q4])), a, rfl⟩⟩
    have HK4 := mkH (keepV hp4 HK3.out HRB.out)
    have E4 := mkH (E3.out.trans (if_pos q4))
    rw [valP_eq] at E4
    have HR4 := mkH hr4
    have HP4 := mkH (HP3.out.trans hp4)
    have S4 := mkH ((List.drop_suffix 1 r1).trans HS1.out)
    have O4 := mkH (HO.out.suffix S4.out)
    have C4 := mkH (And.intro q4 O1.out.hd.2)
    clear hp4 hr4 q4 E3 HR3 HP3 HK3
    generalize r1.drop 1 = r4 at *
    generalize (hdTok r1).code = cd at *
    have k0 := cellsAt HK4.out 0
    simp at k0
    have f0 : ∀ i, w4.frozen? ⟨w1.heap.size, i, none⟩ = false := fun i => by simp [World.frozen?, HK4.out, oCnd]
    have HR5 := mkH (HR4.out.setR HK4.out (by decide) HRB.out 0 (.int .i64 (cd : Int)))
    have HP5 := mkH (HP4.out.setR HB.out HRs.out 0 (.int .i64 (cd : Int)))
    have HK5 := mkH (heap_setR HK4.out 0 (.int .i64 (cd : Int)))
    have HG5 := mkH (HG.out.past HNG.out HP5.out)
    go_wp2_with fail
    refine (rvalue_any B r4 _ HR5.out O4.out.len O4.out.hd.1 HG5.out.2 HNG.out).mono ?_
    rintro e w6 ⟨hp6, ⟨v, q6, rfl, hr6⟩ | ⟨q6, ht⟩⟩
    rotate_left
    · obtain ⟨a, rfl⟩ := ht
      exact ⟨rfl, HP5.out.trans hp6, .inl ⟨E4.out.trans (by rw [q6]; rfl), a, rfl⟩⟩
    have HK6 := mkH (keepV hp6 HK5.out HRB.out)
    have HE6 := mkH (E4.out.trans (by rw [q6]))
    have HP6 := mkH (HP5.out.trans hp6)
    have HR6 := mkH hr6
    have HV := mkH (vlV_eq v)
    clear q6 hp6 hr6 k0 f0 E4 HR5 HP5 HK5 HK4 HR4 HP4
    have k2 := cellsAt HK6.out 2
    have k3 := cellsAt HK6.out 3
    have k4 := cellsAt HK6.out 4
    simp at k2 k3 k4
    have f0 : ∀ i, w6.frozen? ⟨w1.heap.size, i, none⟩ = false := fun i => by simp [World.frozen?, HK6.out]
    rw [HV.out]
    unfold valV
    generalize hvk : vk v = xk
    generalize hvn : vn v = xn
    generalize hvt : vtx v = xt
    go_wp2
    go_ret
    have HK7 := heap_setR (heap_setR (heap_setR HK6.out 2 (.int .i64 xk)) 3 (.int .i64 xn)) 4 (.string xt)
    refine ⟨((HP6.out.setR HB.out HRs.out 2 _).setR HB.out HRs.out 3 _).setR HB.out HRs.out 4 _, .inr ⟨_, _, _, HE6.out, (List.drop_suffix 1 r4).trans S4.out, rfl, leaf_in (v := v) (HK7.trans (by simp [oCnd, hvk, hvn, hvt])) (by have := C4.out; omega), ?_⟩⟩
    exact ((HR6.out.setR HK6.out (by decide) HRB.out 2 _).setR (heap_setR HK6.out 2 _) (by decide) HRB.out 3 _).setR (heap_setR (heap_setR HK6.out 2 _) 3 _) (by decide) HRB.out 4 _
end Go.Proofs.YtfokdpddcgaafaaGreatDoor
