/- What millpondkeep.all does, said of every call. -/
import Derived.Test.YtodemklghajdeaaGreatDoorFW5
namespace Go.Proofs.YtodemklghajdeaaGreatDoor
open Go.RowKit Go.Proofs Go.Shelf Go.Joins

def AllPost (r : Option (List (List V))) (w : World) (e : Ending) (w' : World) : Prop := match r with
  | none => e = .returned (.tuple #[.slice none 0 0, .bool false]) ∧ Below w.heap.size w w'
  | some rows => ∃ v', e = .returned (.tuple #[v', .bool true]) ∧ SlO 0 w' v' rows ∧ Below w.heap.size w w'
theorem readG_len {cols now : List Col} {g : Grp} {r : List (List V)} (h : readG cols g now = some r) : r.length = g.1 ∧ g.1 ≤ 6 := by
  unfold readG at h
  split at h
  · rename_i hw
    injection h with h
    rw [Bool.and_eq_true] at hw
    have h6 : g.1 ≤ 6 := by have := hw.1; simp only [wholeG, decide_eq_true_eq] at this; exact this.2.2.2
    exact ⟨by rw [← h]; simp [rowsBy], h6⟩
  · cases h
theorem allGo_none {cols now : List Col} {acc : List (List V)} {g : Grp} {gs : List Grp} (h : readG cols g now = none) : allGo cols now acc (g :: gs) = none := by rw [allGo, h]
theorem allGo_some {cols now : List Col} {acc r : List (List V)} {g : Grp} {gs : List Grp} (h : readG cols g now = some r) : allGo cols now acc (g :: gs) = allGo cols now (acc ++ r) gs := by rw [allGo, h]

set_option maxHeartbeats 4000000 in
set_option maxRecDepth 100000 in
theorem all_any (cv gv lv : Value) (cols : List Col) (gs : List Grp) (now : List Col) (w : World) (hF : FilAt w cv gv (cols, gs)) (hn : SlE 7 C.encC w lv now) (hn8 : now.length ≤ 8) (h1 : 1 ≤ cols.length) (h8 : cols.length ≤ 8)
    (hpos : ∀ c ∈ now, pos cols c.1 < cols.length) (hsz : ∀ g ∈ gs, ∀ b ∈ g.2.2, b.length ≤ 1000000) (hgl : gs.length ≤ 60) :
    Calls Tryz.prog 13 #[.agg #[cv, gv], lv] w (AllPost (allGo cols now [] gs) w) := by
  have HR := mkH (fun W (hW : Below w.heap.size w W) (k : Nat) g (hk : gs[k]? = some g) => read_any k cv gv lv cols gs g now W (hF.up hW) hk (hn.up hW) hn8 h1 h8 hpos (hsz g (List.mem_of_getElem? hk)))
  obtain ⟨hC, hG⟩ := hF
  obtain ⟨ga, gc, rfl, _⟩ := hG.slice
  obtain ⟨la, lc, rfl, _⟩ := hn.slice
  obtain ⟨ca, cc, rfl, _⟩ := hC.slice
  have hb0 : Below w.heap.size w (w.alloc (.cells #[.slice ca cols.length cc, .slice ga gs.length gc] 29)) := (Below.refl _ _).alloc (Nat.le_refl _) _
  obtain ⟨f0, f1⟩ := row2 (heap_alloc_new w (.cells #[.slice ca cols.length cc, .slice ga gs.length gc] 29))
  have HF0 : Hid (∀ W, Below (w.heap.size + 1) (w.alloc (.cells #[.slice ca cols.length cc, .slice ga gs.length gc] 29)) W → W.cell? ⟨w.heap.size, 0, none⟩ = some (.slice ca cols.length cc) ∧ W.cell? ⟨w.heap.size, 1, none⟩ = some (.slice ga gs.length gc) ∧ Below w.heap.size w W) := mkH (fun W hW => by
    have hW' : Below (w.alloc (.cells #[.slice ca cols.length cc, .slice ga gs.length gc] 29)).heap.size (w.alloc (.cells #[.slice ca cols.length cc, .slice ga gs.length gc] 29)) W := by rw [World.size_alloc]; exact hW
    exact ⟨cell_up hW' f0, cell_up hW' f1, ups hb0 hW'⟩)
  obtain ⟨iS, hiS, hzS, hz1S, hz2S⟩ := info_parts infoSl
  have HIS := mkH (And.intro hiS (And.intro hzS (And.intro hz1S hz2S)))
  clear hC hG hn hpos hsz f0 f1 hiS hzS hz1S hz2S hb0 h1 h8 hn8
  go_enter Tryz.func13, Tryz.ntmps13
  go_wp2
  go_loopw [6, 13] (fun vo vi wr => ∃ (k : Nat) (acc : List (List V)), k ≤ gs.length ∧ vi = .int .i64 k ∧ acc.length ≤ 6 * k ∧ Hid (allGo cols now [] gs = allGo cols now acc (gs.drop k)) ∧ Hid (SlO (w.heap.size + 1) wr vo acc) ∧ Hid (Below (w.heap.size + 1) (w.alloc (.cells #[.slice ca cols.length cc, .slice ga gs.length gc] 29)) wr)) (fun _ vi _ => gs.length - (intOf vi).toNat)
  case atStart => exact ⟨0, [], Nat.zero_le _, rfl, by simp, mkH rfl, mkH (SlO_nil _ _), mkH (Below.refl _ _)⟩
  case round =>
    obtain ⟨k, acc, hk, rfl, hacc, hgo, hso, hbR⟩ := hrel
    obtain ⟨q0, q1, hbw⟩ := HF0.out wr hbR.out
    have hszr := hbR.out.size
    simp only [World.size_alloc] at hszr
    by_cases hlt : k < gs.length
    · obtain ⟨g, hg⟩ : ∃ g, gs[k]? = some g := ⟨_, List.getElem?_eq_getElem hlt⟩
      have HRk := mkH (HR.out wr hbw k g hg)
      have HGO : Hid (allGo cols now [] gs = allGo cols now acc (g :: gs.drop (k + 1))) := mkH (by rw [hgo.out, List.drop_eq_getElem_cons hlt]; rw [List.getElem?_eq_getElem hlt] at hg; injection hg with hg; rw [hg])
      have hkl : (k : Int) < (gs.length : Int) := by omega
      obtain ⟨vs, hv1, hv2, hv3⟩ := hso.out
      obtain ⟨oa, oc, rfl, _⟩ := E.ownsRow_slice hv2
      have HVS := mkH (And.intro hv1 (And.intro hv2 hv3))
      clear hg hgo hv1 hv2 hv3 hso
      cases hr : readG cols g now with
      | none =>
        rw [hr] at HRk
        have HE : Hid (allGo cols now [] gs = none) := mkH (by rw [HGO.out, allGo_none hr])
        clear hr
        go_wp2_with fail
        refine HRk.out.mono ?_
        rintro e w1 ⟨rfl, hb1⟩
        go_wp2
        go_ret2
        rw [HE.out]
        exact ⟨rfl, ups hbw hb1⟩
      | some r =>
        rw [hr] at HRk
        obtain ⟨hrl, hr6⟩ := readG_len hr
        have hrl6 : r.length ≤ 6 := by omega
        have HE : Hid (allGo cols now [] gs = allGo cols now (acc ++ r) (gs.drop (k + 1))) := mkH (by rw [HGO.out, allGo_some hr])
        clear hr hrl hr6
        go_wp2_with fail
        refine HRk.out.mono ?_
        rintro e w1 ⟨v1, rfl, ⟨us, hu1, hu2, hu3⟩, hb1⟩
        obtain ⟨ra, rc, rfl, _⟩ := E.ownsRow_slice hu2
        have HUS := mkH (And.intro hu1 (And.intro hu2 hu3))
        have HV2 := mkH (E.ownsRow_up HVS.out.2.1 hb1)
        have hs1 := hb1.size
        clear hu1 hu2 hu3
        go_wp2_with (at_builtin; refine E.wpList_append_row rfl _ _ 23 rfl (w.heap.size + 1) 57 iS (.slice none 0 0) 1 24 Tryz.underlying23 HIS.out.1 HIS.out.2.1 HIS.out.2.2.1 HIS.out.2.2.2 rfl (by decide) _ _ _ rfl HV2.out _ _ _ _ rfl HUS.out.2.1 (SlO.one HUS.out.1 HUS.out.2.2) ?f1 ?f2 ?f3 ?_)
        case f1 => unfold maxLen; omega
        case f2 => omega
        case f3 => omega
        intro v2 w2 ho2 hg2
        have hso2 := SlO.app HVS.out.1 HUS.out.1 HV2.out (fun j x r hx hr => E.ownsRow_up (HVS.out.2.2 j x r hx hr) hb1) HUS.out.2.2 ho2 hg2
        have hb2 := E.below_grown_own (hbR.out.trans (hb1.mono hszr)) HV2.out hg2 (by omega)
        go_wp2
        exact ⟨⟨k + 1, acc ++ r, by omega, by go_num, by simp; omega, HE, mkH hso2, mkH hb2⟩, by simp [intOf]; omega⟩
    · have ek : k = gs.length := by omega
      subst ek
      have HE : Hid (allGo cols now [] gs = some acc) := mkH (by rw [hgo.out, List.drop_length]; rfl)
      obtain ⟨vs, hv1, hv2, hv3⟩ := hso.out
      obtain ⟨oa, oc, rfl, _⟩ := E.ownsRow_slice hv2
      have HS0 : Hid (SlO 0 wr (.slice oa acc.length oc) acc) := mkH ⟨vs, hv1, E.ownsRow_base hv2 (Nat.zero_le _), hv3⟩
      clear hv1 hv2 hv3 hso
      go_wp2
      go_ret2
      rw [HE.out]
      exact ⟨_, rfl, HS0.out, hbw⟩
end Go.Proofs.YtodemklghajdeaaGreatDoor
