/- What the statement's own sameSet does at two tables that are the same but for the order of their files. -/
import Derived.Test.YtfppidnfomelpaaGreatDoorS2
import Derived.Test.YtfppidnfomelpaaGreatDoorLC
import Derived.Deep.RegionHeld3
namespace Go.Proofs.YtfppidnfomelpaaGreatDoor
open Go.RowKit Go.Proofs Go.Lib Go.Joins Go.Maps

def Named (s : Snap) : Prop := ∀ e ∈ s.files, e.1.size ≤ 16
section
variable (w : World) {ops : Array Oper} {rest : List Oper} {o : Oper} {a : Act} {Q : Exit → Act → World → Prop}
theorem wpList_next_ent (hg : o.guard = none) (it : Operand) (hop : o.op = Op.next it false) (b r n : Nat) (D : DataW Unit) (left : Lit → Bool) (cnt : Nat)
    (hit : a.eval it = .pointer (some ⟨r, 0, none⟩)) (h : w.ranges Tryz.prog 9 entE b r n D left cnt)
    (hDone : cnt = 0 → (∀ kl, left kl = false) → wpList Tryz.prog ops Q rest (a.put o.dst (.tuple #[.bool false])) w)
    (hMore : ∀ (x : ByteArray) (p : ByteArray) (r' : Int) (ea : Option Addr) (en ec : Nat) (w' : World) (cnt' : Nat), x.size ≤ maxLen → left (lit x) = true → plainS (ea, en, ec) → (∀ zd, D.atKey (lit x) zd = entD p r' (ea, en, ec)) → w'.ranges Tryz.prog 9 entE b r n D (fun z => left z && !z.sameKey (lit x)) cnt' → cnt' < cnt →
      w.grownBy w' (some r) → w'.heap.size = w.heap.size → (Instr.entry (.pointer (some ⟨r, 0, none⟩))).run Tryz.prog w' = .ok (.tuple #[.string x, .agg #[.string p, .int .i64 r', .slice ea en ec]]) w' → wpList Tryz.prog ops Q rest (a.put o.dst (.tuple #[.bool true, .string x, .agg #[.string p, .int .i64 r', .slice ea en ec]])) w') :
    wpList Tryz.prog ops Q (o :: rest) a w :=
  wpList_next_ranges w hg it hop _ law9 _ Value.string (fun c : ByteArray × Int × Sv => .agg #[.string c.1, .int .i64 c.2.1, .slice c.2.2.1 c.2.2.2.1 c.2.2.2.2]) (fun key kl hkey => by obtain ⟨s, rfl, _, _⟩ := WideMaps.string_of_keyOf Tryz.underlying9 hkey; exact ⟨s, rfl⟩) (fun v y hv => by obtain ⟨p, r, a, n, c, rfl, _⟩ := entE_inv hv; exact ⟨(p, r, a, n, c), rfl⟩)
    b r n D left cnt hit h hDone (fun x c kl y w' cnt' hkey hlk hv hat hrg hlt hgr hsz hen => by
      obtain ⟨x', ex, rfl, hwx⟩ := WideMaps.string_of_keyOf Tryz.underlying9 hkey
      cases ex
      obtain ⟨p, r', ea, en, ec, ev, rfl, hpl⟩ := entE_inv hv
      obtain ⟨c1, c2, c3, c4, c5⟩ := c
      simp only [Value.agg.injEq] at ev
      cases ev
      exact hMore x p r' ea en ec w' cnt' hwx hlk hpl hat hrg hlt hgr hsz hen)
theorem wpList_look_ent (hg : o.guard = none) (m x : Operand) (hop : o.op = Op.lookup 97 m x true) (b n : Nat) (D : DataW Unit) (hm : a.eval m = .map (some b)) (hown : w.ownsMap Tryz.prog 9 entE b n D) (key : ByteArray) (hk : key.size ≤ maxLen) (hx : a.eval x = .string key)
    (p : ByteArray) (r : Int) (ea : Option Addr) (en ec : Nat) (hat : ∀ z, D.atKey (lit key) z = entD p r (ea, en, ec)) (hpl : plainS (ea, en, ec)) (hhas : has D (lit key) = true)
    (hK : wpList Tryz.prog ops Q rest (a.put o.dst (.tuple #[.agg #[.string p, .int .i64 r, .slice ea en ec], .bool true])) w) : wpList Tryz.prog ops Q (o :: rest) a w :=
  wpList_lookup_own_ok w hg m x 97 hop 9 70 law9 Tryz.underlying97 entE (zeroE w) (entD ⟨#[]⟩ 0 (none, 0, 0)) [] (entE_mk (.inl rfl)) b n D hm hown (.string key) (lit key) hx (keyOf9 hk) (fun v ps hv => by
    obtain ⟨p', r', ea', en', ec', rfl, hz, hpl'⟩ := entE_inv hv
    rw [hat] at hz
    have hz' := (Prod.mk.injEq _ _ _ _ ▸ hz : _ ∧ _).1
    obtain ⟨e1, e2, e3⟩ := entD_inj hz' hpl hpl'
    cases e3
    subst e1 e2
    rw [hhas]
    exact hK)
end

/-- A file of one is a file of the other. -/
theorem twin {x y : Snap} {L M : List EntV} (gx : Good colB fitB x) (hL : x.files = L.map (·.1)) (hM : y.files = M.map (·.1)) (h : Alike x y) {e : EntV} (he : e ∈ L) : ∃ f ∈ M, f.1 = e.1 := by
  have h1 : e.1 ∈ x.files := by rw [hL]; exact List.mem_map_of_mem he
  have h2 := look_mem gx.once h1
  rw [h.files] at h2
  have h3 := look_some h2
  rw [hM] at h3
  obtain ⟨f, hf, e3⟩ := List.mem_map.1 h3
  exact ⟨f, hf, e3⟩
theorem names_map {s : Snap} {L : List EntV} (h : s.files = L.map (·.1)) (g : Good colB fitB s) : (L.map (·.1.1)).Nodup := by
  have := g.once
  rw [h, List.map_map] at this
  exact this

set_option maxHeartbeats 4000000 in
set_option maxRecDepth 100000 in
theorem sameSet_yes (x y : Snap) (vx vy : Value) (w : World) (hx : SnapW w x vx) (hy : SnapW w y vy) (gx : Good colB fitB x) (gy : Good colB fitB y) (nx : Named x) (ny : Named y) (h : Alike x y) :
    Calls Tryz.prog 18 #[vx, vy] w fun e w' => e = .returned (.bool true) ∧ Below w.heap.size w w' := by
  obtain ⟨a1, c1, a2, c2, L, rfl, hV⟩ := hx
  obtain ⟨b1, d1, b2, d2, M, rfl, hU⟩ := hy
  obtain ⟨n, hnL⟩ : ∃ n, L.length = n := ⟨_, rfl⟩
  have hlx : x.files.length = L.length := by rw [hV.files]; simp
  have hly : y.files.length = M.length := by rw [hU.files]; simp
  have hnM : M.length = n := by rw [← hly, ← h.len, hlx, hnL]
  have hn40 : n ≤ 40 := by rw [← hnL, ← hlx]; exact gx.few
  have hc8 : x.cols.length ≤ 8 := by
    rcases gx.cols with e | e
    · rw [e]; simp
    · exact e.2.1
  have HSX0 : Hid (∀ W, Below w.heap.size w W → Calls Tryz.prog 38 #[.agg #[.int .i64 x.ver, .slice a1 x.cols.length c1, .int .i64 x.next, .slice a2 n c2]] W (SetPost W L)) := fun W hW => by
    have := set_any x a1 x.cols.length c1 a2 c2 L W (hV.up hW) (by omega) (fun e he => by have := nx e.1 (by rw [hV.files]; exact List.mem_map_of_mem he); unfold maxLen; omega) (names_map hV.files gx)
    rwa [hnL] at this
  have HSY0 : Hid (∀ W, Below w.heap.size w W → Calls Tryz.prog 38 #[.agg #[.int .i64 y.ver, .slice b1 y.cols.length d1, .int .i64 y.next, .slice b2 n d2]] W (SetPost W M)) := fun W hW => by
    have := set_any y b1 y.cols.length d1 b2 d2 M W (hU.up hW) (by omega) (fun e he => by have := ny e.1 (by rw [hU.files]; exact List.mem_map_of_mem he); unfold maxLen; omega) (names_map hU.files gy)
    rwa [hnM] at this
  have HEC : Hid (∀ W, Below w.heap.size w W → Calls Tryz.prog 39 #[.slice a1 x.cols.length c1, .slice b1 x.cols.length d1] W fun e w' => e = .returned (.bool true) ∧ Below W.heap.size W w') := fun W hW => by
    have hu := hU.cols
    rw [← h.cols] at hu
    exact equalC_any _ _ x.cols W (own_up hV.cols hW) (own_up hu hW) hc8
  have HTW : Hid (∀ e ∈ L, ∃ f ∈ M, f.1 = e.1 ∧ ∀ W, Below w.heap.size w W → Calls Tryz.prog 40 #[sv e.2, sv f.2] W fun en w' => en = .returned (.bool true) ∧ Below W.heap.size W w') := fun e he => by
    obtain ⟨f, hf, hfe⟩ := twin gx hV.files hU.files h he
    refine ⟨f, hf, hfe, fun W hW => ?_⟩
    have h1 := LiI.of_own (own_up (hV.masks e he) hW)
    have h2 := LiI.of_own (own_up (hU.masks f hf) hW)
    rw [hfe] at h2
    exact equalI_any _ _ e.1.2.2 W h1 h2 (by have := good_mask_len gx (show e.1 ∈ x.files by rw [hV.files]; exact List.mem_map_of_mem he); omega)
  have HPL : Hid ((∀ e ∈ L, plainS e.2) ∧ ∀ f ∈ M, plainS f.2) := ⟨fun e he => own_plain (hV.masks e he), fun f hf => own_plain (hU.masks f hf)⟩
  have hver := h.ver
  have hcols := h.cols
  have hnext := h.next
  rw [hnL, hnM, ← hcols, ← hver, ← hnext]
  rw [← hver, ← hcols, ← hnext] at HSY0
  have HNL := mkH hnL
  have HNM := mkH hnM
  clear hV hU gx gy nx ny h hlx hly hver hcols hnext hnL hnM hc8
  generalize x.cols.length = cl at *
  generalize x.ver = ver at *
  generalize x.next = nxt at *
  obtain ⟨z0, z1, z2, z3⟩ := two_alloc w (.cells #[.int .i64 ver, .slice a1 cl c1, .int .i64 nxt, .slice a2 n c2] 47) (.cells #[.int .i64 ver, .slice b1 cl d1, .int .i64 nxt, .slice b2 n d2] 47)
  have Z0 := mkH z0
  have Z1 := mkH z1
  have Z2 := mkH z2
  have Z3 := mkH z3
  clear z0 z1 z2 z3
  go_enter Tryz.func18, Tryz.ntmps18
  go_wp2_with fail
  generalize (w.alloc (.cells #[.int .i64 ver, .slice a1 cl c1, .int .i64 nxt, .slice a2 n c2] 47)).alloc (.cells #[.int .i64 ver, .slice b1 cl d1, .int .i64 nxt, .slice b2 n d2] 47) = wA at *
  have HKB : Hid (∀ W, Below wA.heap.size wA W → Below w.heap.size w W) := mkH (fun W hW => Below.ups Z3.out hW)
  have HKD : Hid (∀ W, Below wA.heap.size wA W → W.cell? ⟨w.heap.size, 0, none⟩ = some (.int .i64 ver) ∧ W.cell? ⟨w.heap.size, 1, none⟩ = some (.slice a1 cl c1) ∧ W.cell? ⟨w.heap.size, 2, none⟩ = some (.int .i64 nxt) ∧ W.cell? ⟨w.heap.size, 3, none⟩ = some (.slice a2 n c2) ∧ W.cell? ⟨w.heap.size + 1, 0, none⟩ = some (.int .i64 ver) ∧ W.cell? ⟨w.heap.size + 1, 1, none⟩ = some (.slice b1 cl d1) ∧ W.cell? ⟨w.heap.size + 1, 2, none⟩ = some (.int .i64 nxt) ∧ W.cell? ⟨w.heap.size + 1, 3, none⟩ = some (.slice b2 n d2)) := mkH (fun W hW => by
    have hs := Z0.out
    obtain ⟨p0, p1, p2, p3, _⟩ := cells4 ((hW.block w.heap.size (by omega)).trans Z1.out)
    obtain ⟨r0, r1, r2, r3, _⟩ := cells4 ((hW.block (w.heap.size + 1) (by omega)).trans Z2.out)
    exact ⟨p0, p1, p2, p3, r0, r1, r2, r3⟩)
  have HBL : Hid (Below wA.heap.size wA wA.drew) := mkH (Below.refl _ _).drew
  go_region_held3 (fun W => W.cell? ⟨w.heap.size, 0, none⟩ = some (.int .i64 ver) ∧ W.cell? ⟨w.heap.size, 1, none⟩ = some (.slice a1 cl c1) ∧ W.cell? ⟨w.heap.size, 2, none⟩ = some (.int .i64 nxt) ∧ W.cell? ⟨w.heap.size, 3, none⟩ = some (.slice a2 n c2) ∧ W.cell? ⟨w.heap.size + 1, 0, none⟩ = some (.int .i64 ver) ∧ W.cell? ⟨w.heap.size + 1, 1, none⟩ = some (.slice b1 cl d1) ∧ W.cell? ⟨w.heap.size + 1, 2, none⟩ = some (.int .i64 nxt) ∧ W.cell? ⟨w.heap.size + 1, 3, none⟩ = some (.slice b2 n d2))
    (first
      | exact HKD.out _ HBL.out
      | (go_keep; done)
      | fail)
    (first
      | (go_at_call_of 38 (#[.agg #[.int .i64 ver, .slice a1 cl c1, .int .i64 nxt, .slice a2 n c2]] : Array Value); refine (HSX0.out _ (HKB.out _ HBL.out)).mono ?_; rintro e wx ⟨m1, rfl, hm1, hs1, hbx⟩; have HSX := mkH hs1; replace HSY := mkH (HSY.out.below hbx); replace HBL := mkH (Below.ups HBL.out hbx); clear hs1 hm1 hbx)
      | (go_at_call_of 38 (#[.agg #[.int .i64 ver, .slice a1 cl c1, .int .i64 nxt, .slice a2 n c2]] : Array Value); refine (HSX0.out _ (HKB.out _ HBL.out)).mono ?_; rintro e wx ⟨m1, rfl, hm1, hs1, hbx⟩; have HSX := mkH hs1; replace HBL := mkH (Below.ups HBL.out hbx); clear hs1 hm1 hbx)
      | (go_at_call_of 38 (#[.agg #[.int .i64 ver, .slice b1 cl d1, .int .i64 nxt, .slice b2 n d2]] : Array Value); refine (HSY0.out _ (HKB.out _ HBL.out)).mono ?_; rintro e wy ⟨m2, rfl, hm2, hs2, hby⟩; have HSY := mkH hs2; replace HSX := mkH (HSX.out.below hby); replace HBL := mkH (Below.ups HBL.out hby); clear hs2 hm2 hby)
      | (go_at_call_of 38 (#[.agg #[.int .i64 ver, .slice b1 cl d1, .int .i64 nxt, .slice b2 n d2]] : Array Value); refine (HSY0.out _ (HKB.out _ HBL.out)).mono ?_; rintro e wy ⟨m2, rfl, hm2, hs2, hby⟩; have HSY := mkH hs2; replace HBL := mkH (Below.ups HBL.out hby); clear hs2 hm2 hby)
      | fail)
  all_goals
    obtain ⟨p0, p1, p2, p3, r0, r1, r2, r3⟩ := HKD.out _ HBL.out
    obtain ⟨D1, hD1, hh1, hk1, hz1⟩ := HSX.out
    obtain ⟨D2, hD2, hh2, hk2, hz2⟩ := HSY.out
    rw [HNL.out] at hD1 hz1
    rw [HNM.out] at hD2 hz2
    have HH1 := mkH hh1
    have HH2 := mkH hh2
    have HK1 := mkH hk1
    have HK2 := mkH hk2
    have HZ1 := mkH hz1
    have HZ2 := mkH hz2
    have HD1 := mkH hD1
    have HD2 := mkH hD2
    clear hh1 hh2 hk1 hk2 hz1 hz2 hD1 hD2 HSX HSY
    have l1 := HD1.out.len Tryz.underlying97 3
    have l2 := HD2.out.len Tryz.underlying97 3
    rw [HZ1.out] at l1
    rw [HZ2.out] at l2
    go_wp2_with (first
      | (go_at_call 39; refine (HEC.out _ (HKB.out _ HBL.out)).mono ?_; rintro e w5 ⟨rfl, hb5⟩; have HD1 := mkH (ownsMap_up HD1.out hb5); have HD2 := mkH (ownsMap_up HD2.out hb5); have HBL := mkH (Below.ups HBL.out hb5); clear hb5)
      | (at_range; refine wpList_range_own _ rfl _ 97 rfl 9 70 law9 Tryz.underlying97 _ m1 n D1 rfl HD1.out ?_; intro w8 hrg8 hg8 hs8))
    go_frame
    have HB8 : Hid (Below w5.heap.size w5 w8) := mkH ((Below.refl _ w5).grown hg8 (Nat.le_refl _) (fun j hj => by cases hj))
    clear p0 p1 p2 p3 r0 r1 r2 r3 hg8 hs8 l1 l2
    have HT : Hid (∀ x : ByteArray, x.size ≤ maxLen → has D1 (lit x) = true → ∃ (p : ByteArray) (r : Int) (s1 s2 : Sv), (∀ z, D1.atKey (lit x) z = entD p r s1) ∧ (∀ z, D2.atKey (lit x) z = entD p r s2) ∧ has D2 (lit x) = true ∧ plainS s1 ∧ plainS s2 ∧ ∀ W, Below w5.heap.size w5 W → Calls Tryz.prog 40 #[sv s1, sv s2] W fun en w' => en = .returned (.bool true) ∧ Below W.heap.size W w') := mkH (fun x hx hh => by
      rw [HH1.out, List.any_eq_true] at hh
      obtain ⟨e, he, hex⟩ := hh
      have hex' : e.1.1 = x := by simpa using hex
      subst hex'
      obtain ⟨f, hf, hfe, hc⟩ := HTW.out e he
      refine ⟨e.1.1, e.1.2.1, e.2, f.2, HK1.out e he, ?_, ?_, HPL.out.1 e he, HPL.out.2 f hf, fun W hW => hc W (HKB.out _ (Below.ups HBL.out hW))⟩
      · have := HK2.out f hf
        rwa [hfe] at this
      · rw [HH2.out, List.any_eq_true]
        exact ⟨f, hf, by simp [hfe]⟩)
    clear HTW HPL HEC HK1 HK2 HH1 HH2 HZ1 HZ2 HD1 HNL HNM HSX0 HSY0 HKD
    go_loopw [7] (fun _ wi => ∃ (left : Lit → Bool) (cnt : Nat), wi.ranges Tryz.prog 9 entE m1 w5.heap.size n D1 left cnt ∧ (∀ k, left k = true → has D1 k = true) ∧ Hid (Below w5.heap.size w5 wi)) (fun _ wi => wi.rangeLeft m1 w5.heap.size)
    case atStart => exact ⟨_, _, hrg8, fun _ h => h, HB8⟩
    case round =>
      obtain ⟨left, cnt, hrg, hsub, hbi⟩ := hrel
      go_wp2_with (first
        | (at_next; refine wpList_next_ent _ rfl _ rfl m1 w5.heap.size n D1 left cnt rfl hrg ?_ ?_))
      · intro _ _
        go_wp2
        go_ret
        exact ⟨rfl, HKB.out _ (Below.ups HBL.out hbi.out)⟩
      · intro x p r' ea en ec w9 cnt9 hwx hlx hpl hat hrg9 hlt9 hg9 hs9 hen
        have hb9 : Hid (Below w5.heap.size w5 w9) := mkH (hbi.out.grown hg9 hbi.out.size (fun j hj => by cases hj; exact Nat.le_refl _))
        obtain ⟨p2, r2, s1, s2, k1, k2, k3, k4, k5, k6⟩ := HT.out x hwx (hsub _ hlx)
        have e9 := (hat (entD p r' (ea, en, ec))).symm.trans (k1 _)
        obtain ⟨rfl, rfl, rfl⟩ := entD_inj e9 hpl k4
        obtain ⟨fa, fn, fc⟩ := s2
        clear k1 e9 hat
        have hd9 := ownsMap_up HD2.out (hb9.out.alloc hb9.out.size (.cells #[.string p, .int .i64 r', .slice ea en ec] 70))
        have HE := mkH (k6 _ ((hb9.out.alloc hb9.out.size (.cells #[.string p, .int .i64 r', .slice ea en ec] 70)).alloc (Nat.le_trans hb9.out.size (by rw [World.size_alloc]; exact Nat.le_succ _)) (.cells #[.string p, .int .i64 r', .slice fa fn fc] 70)))
        have H9 := mkH hrg9
        clear k6 hrg9
        go_wp2_with (first
          | (at_lookup; refine wpList_look_ent _ rfl _ _ rfl m2 n D2 rfl hd9 x hwx rfl p r' fa fn fc k2 k5 k3 ?_)
          | (go_at_call 40; refine HE.out.mono ?_; rintro e w10 ⟨rfl, hb10⟩))
        have hb9' : Below w9.heap.size w9 w10 := Below.ups (((Below.refl _ w9).alloc (Nat.le_refl _) (.cells #[.string p, .int .i64 r', .slice ea en ec] 70)).alloc (by rw [World.size_alloc]; exact Nat.le_succ _) (.cells #[.string p, .int .i64 r', .slice fa fn fc] 70)) hb10
        have hr10 := H9.out.kept (row := none) ⟨hb9'.os, hb9'.tape, hb9'.output, hb9'.size, fun j hj _ => hb9'.block j hj⟩ (by simp) (by simp)
        go_roundw
        case rel => exact ⟨_, cnt9, hr10, fun k hk => hsub k (by simp only [Bool.and_eq_true] at hk; exact hk.1), mkH (Below.ups hb9.out hb9')⟩
        case measure =>
          rw [World.ranges.left_eq hr10, hrg.left_eq]
          omega
end Go.Proofs.YtfppidnfomelpaaGreatDoor
