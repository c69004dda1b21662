/- LogWhole: what was is yet. -/
import Derived.Test.YtgpdojaehmdlpaaGreatDoorTE
import Derived.Deep.RegionHeld3
import Derived.Deep.QuietTactic
import Derived.BigQuiet
import Derived.Deep.DeepCutAuto
import Derived.Deep.CutBlock
namespace Go.Proofs.YtgpdojaehmdlpaaGreatDoor
open Go.RowKit Go.Proofs Go.Lib Go.Joins Go.Maps


/-- What set gives of a table that was, beside what was noted of it. -/
theorem twin_kept {s : Snap} {L M : List EntV} (hL : s.files = L.map (·.1)) (hM : ∀ e ∈ M, e.1 ∈ s.files) {e : EntV} (he : e ∈ M) : ∃ f ∈ L, f.1 = e.1 := by
  have h1 := hM e he
  rw [hL] at h1
  obtain ⟨f, hf, e3⟩ := List.mem_map.1 h1
  exact ⟨f, hf, e3⟩
theorem cellsW_at : ∀ (H : List Was) (n : Nat) (x : Was), H[n]? = some x → ∀ (i : Nat) (v : Value), (encS x.2.1)[i]? = some v → (cellsW H)[n * 4 + i]? = some v
  | [], n, x, hn, _, _, _ => by simp at hn
  | h :: H, 0, x, hn, i, v, hi => by
    simp only [List.getElem?_cons_zero, Option.some.injEq] at hn
    subst hn
    simp only [cellsW, List.flatMap_cons, Nat.zero_mul, Nat.zero_add]
    have : i < 4 := by
      rcases Nat.lt_or_ge i 4 with h' | h'
      · exact h'
      · rw [List.getElem?_eq_none (by simpa [encS] using h')] at hi; cases hi
    rw [List.getElem?_append_left (by simpa [encS] using this)]
    exact hi
  | h :: H, n + 1, x, hn, i, v, hi => by
    have h2 := cellsW_at H n x (by simpa using hn) i v hi
    simp only [cellsW, List.flatMap_cons]
    rw [List.getElem?_append_right (by simp [encS]; omega)]
    have e : (n + 1) * 4 + i - (encS h.2.1).length = n * 4 + i := by simp [encS]; omega
    rw [e]
    exact h2

set_option maxHeartbeats 1600000 in
set_option maxRecDepth 1000000 in
theorem p10_ok (c0 c1 c2 c3 c6 c7 c8 c9 c10 c11 c12 c13 c14 c15 c16 c17 c18 c19 c20 c21 c22 c23 c24 c25 c26 c27 c28 c29 c30 c31 c32 c33 c34 c35 c36 c37 c38 c39 c40 c41 c42 c43 c44 c45 c46 c47 c48 c49 c50 c51 c52 c53 c54 c55 c56 c57 c58 c59 c60 c61 c62 c63 c64 c65 c66 c67 c68 c69 c70 c71 c72 c73 c74 c75 c76 c77 c78 c79 c80 c81 c82 c83 c84 c85 c86 c87 c88 c89 c90 c91 c92 c93 c94 c95 c96 c97 c98 c99 c100 c101 c102 c103 c104 c105 c106 c107 c108 c109 c110 c111 c112 c113 c114 c115 c116 c117 c118 c119 c120 c121 c122 c123 c124 c125 c126 c127 c128 c129 c130 c131 c132 c133 c134 c135 c136 c137 c138 c139 c140 c141 c142 c143 c144 c145 c146 c147 c148 c149 c150 c151 c152 c153 c154 c155 c156 c157 c158 c159 c160 c161 c162 c163 c164 c165 c166 c167 c168 c169 c170 c171 c172 c173 c174 c175 c176 c177 c178 c179 c180 c181 c182 c183 c184 c185 c186 c187 c188 c189 c190 c191 c192 c193 c194 c195 c196 c197 c198 c199 c200 c201 c202 c203 c204 c205 c206 c207 c208 c209 c210 c211 c212 c213 c214 c215 c216 c217 : Value) (base : Nat) (H : List Was) (wa : Option Addr) (kw : Nat) (sa : Option Addr) (ks : Nat) (w : World) (Q : Exit → Act → World → Prop)
    (hH : Hist base w (.slice wa H.length kw) (.slice sa H.length ks) H) (hl : H.length ≤ 1000)
    (hQ : ∀ (d2 d15 d16 d17 d18 d19 d20 d166 d167 d168 d169 d170 d171 d172 d173 d174 d175 d176 d177 d178 d179 d180 d181 d182 d183 d184 d185 d186 d187 d188 d189 d190 d191 d192 d193 d194 d195 d196 d197 d198 d199 d200 d201 d202 d203 d204 d205 d206 d207 d208 d209 d210 d211 d212 d213 d214 d215 d216 d217 : Value) (W : World), Below w.heap.size w W → Q .normal ⟨#[c0, c1, d2, c3, .slice wa H.length kw, .slice sa H.length ks, c6, c7, c8, c9, c10, c11, c12, c13, c14, d15, d16, d17, d18, d19, d20, c21, c22, c23, c24, c25, c26, c27, c28, c29, c30, c31, c32, c33, c34, c35, c36, c37, c38, c39, c40, c41, c42, c43, c44, c45, c46, c47, c48, c49, c50, c51, c52, c53, c54, c55, c56, c57, c58, c59, c60, c61, c62, c63, c64, c65, c66, c67, c68, c69, c70, c71, c72, c73, c74, c75, c76, c77, c78, c79, c80, c81, c82, c83, c84, c85, c86, c87, c88, c89, c90, c91, c92, c93, c94, c95, c96, c97, c98, c99, c100, c101, c102, c103, c104, c105, c106, c107, c108, c109, c110, c111, c112, c113, c114, c115, c116, c117, c118, c119, c120, c121, c122, c123, c124, c125, c126, c127, c128, c129, c130, c131, c132, c133, c134, c135, c136, c137, c138, c139, c140, c141, c142, c143, c144, c145, c146, c147, c148, c149, c150, c151, c152, c153, c154, c155, c156, c157, c158, c159, c160, c161, c162, c163, c164, c165, d166, d167, d168, d169, d170, d171, d172, d173, d174, d175, d176, d177, d178, d179, d180, d181, d182, d183, d184, d185, d186, d187, d188, d189, d190, d191, d192, d193, d194, d195, d196, d197, d198, d199, d200, d201, d202, d203, d204, d205, d206, d207, d208, d209, d210, d211, d212, d213, d214, d215, d216, d217], []⟩ W) :
    Code.wp Tryz.prog wT9 Q ⟨#[c0, c1, c2, c3, .slice wa H.length kw, .slice sa H.length ks, c6, c7, c8, c9, c10, c11, c12, c13, c14, c15, c16, c17, c18, c19, c20, c21, c22, c23, c24, c25, c26, c27, c28, c29, c30, c31, c32, c33, c34, c35, c36, c37, c38, c39, c40, c41, c42, c43, c44, c45, c46, c47, c48, c49, c50, c51, c52, c53, c54, c55, c56, c57, c58, c59, c60, c61, c62, c63, c64, c65, c66, c67, c68, c69, c70, c71, c72, c73, c74, c75, c76, c77, c78, c79, c80, c81, c82, c83, c84, c85, c86, c87, c88, c89, c90, c91, c92, c93, c94, c95, c96, c97, c98, c99, c100, c101, c102, c103, c104, c105, c106, c107, c108, c109, c110, c111, c112, c113, c114, c115, c116, c117, c118, c119, c120, c121, c122, c123, c124, c125, c126, c127, c128, c129, c130, c131, c132, c133, c134, c135, c136, c137, c138, c139, c140, c141, c142, c143, c144, c145, c146, c147, c148, c149, c150, c151, c152, c153, c154, c155, c156, c157, c158, c159, c160, c161, c162, c163, c164, c165, c166, c167, c168, c169, c170, c171, c172, c173, c174, c175, c176, c177, c178, c179, c180, c181, c182, c183, c184, c185, c186, c187, c188, c189, c190, c191, c192, c193, c194, c195, c196, c197, c198, c199, c200, c201, c202, c203, c204, c205, c206, c207, c208, c209, c210, c211, c212, c213, c214, c215, c216, c217], []⟩ w := by
  refine Code.wp_mono onlyN_up ?_
  conv => arg 2; whnf
  have HHI := mkH hH
  have HQ := mkH hQ
  clear hH hQ
  go_wp2_with fail
  go_loopw [15] (fun vn wr => ∃ n : Nat, n ≤ H.length ∧ vn = .int .i64 n ∧ Hid (Below w.heap.size w wr)) (fun vn _ => H.length - (intOf vn).toNat)
  case atStart => exact ⟨0, Nat.zero_le _, rfl, mkH (Below.refl _ _)⟩
  case round =>
    obtain ⟨n, hn, rfl, HB⟩ := hrel
    by_cases hlt : n < H.length
    · have hltz : (n : Int) < (H.length : Int) := by omega
      have hh := HHI.out.up HB.out
      obtain ⟨x, hx⟩ : ∃ x, H[n]? = some x := ⟨_, List.getElem?_eq_getElem hlt⟩
      have hmem : x ∈ H := List.mem_of_getElem? hx
      have hp := hh.past _ hmem
      rcases own_forms hh.was with ⟨_, e0⟩ | ⟨gw, cw, ew, _, hgw, hcw, _⟩
      · omega
      rcases own_forms hh.seen with ⟨_, e0⟩ | ⟨gs, cs, es, _, hgs, hcs, _⟩
      · omega
      injection ew with ew1 _ ew2
      injection es with es1 _ es2
      subst ew1 ew2 es1 es2
      have rw4 : ∀ i v, i < 4 → (encS x.2.1)[i]? = some v → wr.cell? ⟨gw, n * 4 + i, none⟩ = some v := fun i v hi4 hi => (hh.was.cellAt _ (by omega)).trans (cellsW_at H n x hx i v hi)
      have q4 : wr.cell? ⟨gs, n, none⟩ = some (.map (some x.2.2)) := (hh.seen.cellAt n (by omega)).trans (by simp only [cellsM, List.getElem?_map, hx]; rfl)
      obtain ⟨s, ⟨x0, ⟨a1, n1, k1⟩, x2, ⟨a2, n2, k2⟩⟩, bm⟩ := x
      have q0 := rw4 0 _ (by decide) rfl
      have q1 := rw4 1 _ (by decide) rfl
      have q2 := rw4 2 _ (by decide) rfl
      have q3 := rw4 3 _ (by decide) rfl
      simp only [Nat.add_zero] at q0
      have hsn : SnapW wr s (.agg #[.int .i64 x0, .slice a1 n1 k1, .int .i64 x2, .slice a2 n2 k2]) := hp.snap
      have hg : Good colB fitB s := hp.good
      have hnm : Named s := hp.named
      have hkp : KeptAt wr s bm := hp.kept
      clear hp
      obtain ⟨e0, e1, e2, e3, L, eL, hV⟩ := hsn.vals
      subst e0 e2 e1
      obtain ⟨nk, M, hk1, hk2, hk3, hk4, hk5⟩ := hkp
      have hmn : M.length = n2 := by rw [hk3, e3]
      have h40 : n2 ≤ 40 := by rw [e3]; exact hg.few
      have HST := mkH (by
        have := set_any s a1 s.cols.length k1 a2 k2 L wr (by rw [eL]; exact hV) (by omega) (fun e he => by have := hnm e.1 (by rw [hV.files]; exact List.mem_map_of_mem he); unfold maxLen; omega) (names_map hV.files hg)
        rwa [eL] at this)
      have HK := mkH hk1
      have HLN := mkH eL
      have HMN := mkH hmn
      have HTW : Hid (∀ e ∈ M, ∃ f ∈ L, f.1 = e.1 ∧ plainS f.2 ∧ plainS e.2 ∧ ∀ W, Below wr.heap.size wr W → Calls Tryz.prog 20 #[sv f.2, sv e.2] W fun en w' => en = .returned (.bool true) ∧ Below W.heap.size W w') := mkH (fun e he => by
        obtain ⟨f, hf, hfe⟩ := twin_kept hV.files hk4 he
        refine ⟨f, hf, hfe, own_plain (hV.masks f hf), own_plain (hk5 e he), fun W hW => ?_⟩
        have h1 := LiI.of_own (own_up (hV.masks f hf) hW)
        have h2 := LiI.of_own (own_up (hk5 e he) hW)
        rw [← hfe] at h2
        exact equalI_any _ _ f.1.2.2 W h1 h2 (by have := good_mask_len hg (show f.1 ∈ s.files by rw [hV.files]; exact List.mem_map_of_mem hf); omega))
      clear hk1 hk2 hk3 hk4 hk5 hV hsn hnm hg hh rw4 hx hmem eL hmn e3
      generalize s.cols.length = nc at *
      generalize s.ver = ver at *
      generalize s.next = nxt at *
      go_wp2_with (first
        | (go_at_call 17; refine HST.out.mono ?_; rintro e wx ⟨m1, rfl, _, ⟨D1, hD1, hh1, hk1, hz1⟩, hbx⟩))
      have HBX := mkH hbx
      have HD1 := mkH hD1
      have HH1 := mkH hh1
      have HK1 := mkH hk1
      obtain ⟨D2, hD2, hh2, hk2, hz2⟩ := HK.out.below hbx
      have HD2 := mkH hD2
      have HH2 := mkH hh2
      have HK2 := mkH hk2
      have l1 : ∀ q, (Builtin.len_ #[47] 3 #[.map (some m1)]).run Tryz.prog (wx.drewN q) = .ok (.int .i64 (n2 : Int)) (wx.drewN q) := fun q => by
        have := (ownsMap_up hD1 (below_drewN (Below.refl _ _) q)).len Tryz.underlying47 3
        rw [hz1, HLN.out] at this
        exact this
      have l2 : ∀ q, (Builtin.len_ #[47] 3 #[.map (some bm)]).run Tryz.prog (wx.drewN q) = .ok (.int .i64 (n2 : Int)) (wx.drewN q) := fun q => by
        have := (ownsMap_up hD2 (below_drewN (Below.refl _ _) q)).len Tryz.underlying47 3
        rw [hz2, HMN.out] at this
        exact this
      have q5 : wx.cell? ⟨gs, n, none⟩ = some (.map (some bm)) := (hbx.cell (p := ⟨gs, n, none⟩) hgs).trans q4
      clear q0 q1 q2 q3 q4 hbx hD1 hh1 hk1 hD2 hh2 hk2 hz1 hz2
      go_quiet (fail)
      have HBQ : Hid (Below wx.heap.size wx (wx.drewN nq)) := mkH (below_drewN (Below.refl _ _) nq)
      have HQ2 := mkH (ownsMap_up HD2.out HBQ.out)
      have HQ1 := mkH (ownsMap_up HD1.out HBQ.out)
      have q6 : (wx.drewN nq).cell? ⟨gs, n, none⟩ = some (.map (some bm)) := (HBQ.out.cell (p := ⟨gs, n, none⟩) (Nat.lt_of_lt_of_le hgs HBX.out.size)).trans q5
      generalize wx.drewN nq = wq at *
      clear l1 l2 q5 HD1 HD2
      go_wp2_with (first
        | (at_range; refine wpList_range_own _ rfl _ 47 rfl 9 53 law9 Tryz.underlying47 _ bm nk D2 rfl HQ2.out ?_; intro w8 hrg8 hg8 hs8))
      go_frame
      have HB8 : Hid (Below wq.heap.size wq w8) := mkH ((Below.refl _ wq).grown hg8 (Nat.le_refl _) (fun j hj => by cases hj))
      have HBW : Hid (Below wr.heap.size wr wq) := mkH (Below.ups HBX.out HBQ.out)
      have HT : Hid (∀ x : ByteArray, x.size ≤ maxLen → has D2 (lit x) = true → ∃ (p : ByteArray) (r : Int) (s1 s2 : Sv), (∀ z, D2.atKey (lit x) z = entD p r s1) ∧ (∀ z, D1.atKey (lit x) z = entD p r s2) ∧ has D1 (lit x) = true ∧ plainS s1 ∧ plainS s2 ∧ ∀ W, Below wq.heap.size wq W → Calls Tryz.prog 20 #[sv s2, sv s1] W fun en w' => en = .returned (.bool true) ∧ Below W.heap.size W w') := mkH (fun x hx hh => by
        rw [HH2.out, List.any_eq_true] at hh
        obtain ⟨e, he, hex⟩ := hh
        have hex' : e.1.1 = x := by simpa using hex
        subst hex'
        obtain ⟨f, hf, hfe, pf, pe, hc⟩ := HTW.out e he
        refine ⟨e.1.1, e.1.2.1, e.2, f.2, HK2.out e he, ?_, ?_, pe, pf, fun W hW => hc W (Below.ups HBW.out hW)⟩
        · have := HK1.out f hf
          rwa [hfe] at this
        · rw [HH1.out, List.any_eq_true]
          exact ⟨f, hf, by simp [hfe]⟩)
      have HBR : Hid (Below w.heap.size w wq) := mkH (Below.ups HB.out HBW.out)
      clear q6 hg8 hs8 HTW HK1 HK2 HH1 HH2 HST HK HQ2 HB HBW HBX HBQ
      go_loopw [17] (fun _ wi => ∃ (left : Lit → Bool) (cnt : Nat), wi.ranges Tryz.prog 9 entE bm wq.heap.size nk D2 left cnt ∧ (∀ k, left k = true → has D2 k = true) ∧ Hid (Below wq.heap.size wq wi)) (fun _ wi => wi.rangeLeft bm wq.heap.size)
      case atStart => exact ⟨_, _, hrg8, fun _ h => h, HB8⟩
      case round =>
        obtain ⟨left, cnt, hrg, hsub, hbi⟩ := hrel
        go_wp2_with (first
          | (at_next; refine wpList_next_ent _ rfl _ rfl bm wq.heap.size nk D2 left cnt rfl hrg ?_ ?_))
        · intro _ _
          go_wp2_with fail
          go_roundw
          case rel => exact ⟨n + 1, by omega, by go_num, mkH (Below.ups HBR.out hbi.out)⟩
          case measure => simp [intOf]; omega
        · intro x p r' ea en ec w9 cnt9 hwx hlx hpl hat hrg9 hlt9 hg9 hs9 hen
          have hb9 : Hid (Below wq.heap.size wq w9) := mkH (hbi.out.grown hg9 hbi.out.size (fun j hj => by cases hj; exact Nat.le_refl _))
          obtain ⟨p2, r2, s1, s2, j1, j2, j3, j4, j5, j6⟩ := HT.out x hwx (hsub _ hlx)
          have e9 := (hat (entD p r' (ea, en, ec))).symm.trans (j1 _)
          obtain ⟨rfl, rfl, rfl⟩ := entD_inj e9 hpl j4
          obtain ⟨fa, fn, fc⟩ := s2
          clear j1 e9 hat
          have hd9 := ownsMap_up HQ1.out (hb9.out.alloc hb9.out.size (.cells #[.string p, .int .i64 r', .slice ea en ec] 53))
          have HE := mkH (j6 _ ((hb9.out.alloc hb9.out.size (.cells #[.string p, .int .i64 r', .slice ea en ec] 53)).alloc (Nat.le_trans hb9.out.size (by rw [World.size_alloc]; exact Nat.le_succ _)) (.cells #[.string p, .int .i64 r', .slice fa fn fc] 53)))
          have H9 := mkH hrg9
          clear j6 hrg9
          go_wp2_with (first
            | (at_lookup; refine wpList_look_ent _ rfl _ _ rfl m1 L.length D1 rfl hd9 x hwx rfl p r' fa fn fc j2 j5 j3 ?_)
            | (go_at_call 20; refine HE.out.mono ?_; rintro e w10 ⟨rfl, hb10⟩))
          have hb9' : Below w9.heap.size w9 w10 := Below.ups (((Below.refl _ w9).alloc (Nat.le_refl _) (.cells #[.string p, .int .i64 r', .slice ea en ec] 53)).alloc (by rw [World.size_alloc]; exact Nat.le_succ _) (.cells #[.string p, .int .i64 r', .slice fa fn fc] 53)) hb10
          have hr10 := H9.out.kept (row := none) ⟨hb9'.os, hb9'.tape, hb9'.output, hb9'.size, fun j hj _ => hb9'.block j hj⟩ (by simp) (by simp)
          go_roundw
          case rel => exact ⟨_, cnt9, hr10, fun k hk => hsub k (by simp only [Bool.and_eq_true] at hk; exact hk.1), mkH (Below.ups hb9.out hb9')⟩
          case measure =>
            rw [World.ranges.left_eq hr10, hrg.left_eq]
            omega
    · have hltz : ¬ (n : Int) < (H.length : Int) := by omega
      go_wp2_with fail
      exact HQ.out _ _ _ _ _ _ _ _ _ _ _ _ _ _ _ _ _ _ _ _ _ _ _ _ _ _ _ _ _ _ _ _ _ _ _ _ _ _ _ _ _ _ _ _ _ _ _ _ _ _ _ _ _ _ _ _ _ _ _ _ HB.out
end Go.Proofs.YtgpdojaehmdlpaaGreatDoor
