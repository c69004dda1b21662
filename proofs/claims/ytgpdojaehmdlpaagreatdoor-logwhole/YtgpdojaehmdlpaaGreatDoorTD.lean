/- LogWhole: a copy of the files of a table. -/
import Derived.Test.YtgpdojaehmdlpaaGreatDoorTA
import Derived.Deep.RegionHeld3
import Derived.Deep.QuietTactic
import Derived.BigQuiet
import Derived.Deep.DeepCutAuto
import Derived.Deep.CutBlock
namespace Go.Proofs.YtgpdojaehmdlpaaGreatDoor
open Go.RowKit Go.Proofs Go.Lib Go.Joins Go.Maps


theorem rises_at {m : List Int} {r : Int} (h : Rising (-1) r m) {j : Nat} (hj : j < m.length) : 0 ≤ m[j]! ∧ m[j]! < r := by
  have := h.2 m[j]! (by rw [getElem!_pos m j hj]; exact List.getElem_mem hj)
  omega
theorem rises_two {m : List Int} {r : Int} (h : Rising (-1) r m) {j : Nat} (h0 : 0 < j) (hj : j < m.length) : m[j - 1]! < m[j]! := by
  have := List.pairwise_iff_getElem.1 h.1 (j - 1) j (by omega) hj (by omega)
  rw [getElem!_pos m j hj, getElem!_pos m (j - 1) (by omega)]
  exact this

set_option maxHeartbeats 1600000 in
set_option maxRecDepth 1000000 in
theorem p6_ok (c0 c1 c2 c4 c5 c6 c7 c8 c9 c10 c11 c12 c13 c14 c15 c16 c17 c18 c19 c20 c21 c22 c23 c24 c25 c26 c27 c28 c29 c30 c31 c32 c33 c34 c35 c36 c37 c38 c39 c40 c41 c42 c43 c44 c45 c46 c47 c48 c49 c50 c51 c52 c53 c54 c55 c56 c57 c58 c59 c60 c61 c62 c63 c64 c65 c66 c67 c68 c69 c70 c71 c72 c73 c74 c75 c76 c77 c78 c79 c80 c81 c82 c83 c84 c85 c86 c87 c88 c89 c90 c91 c92 c93 c94 c95 c96 c97 c98 c99 c100 c101 c102 c103 c104 c105 c106 c107 c108 c109 c110 c111 c112 c113 c114 c115 c116 c117 c118 c119 c120 c121 c122 c123 c124 c125 c126 c127 c128 c129 c130 c131 c132 c133 c134 c135 c136 c137 c138 c139 c140 c141 c142 c143 c144 c145 c146 c147 c148 c149 c150 c151 c152 c153 c154 c155 c156 c157 c158 c159 c160 c161 c162 c163 c164 c165 c166 c167 c168 c169 c170 c171 c172 c173 c174 c175 c176 c177 c178 c179 c180 c181 c182 c183 c184 c185 c186 c187 c188 c189 c190 c191 c192 c193 c194 c195 c196 c197 c198 c199 c200 c201 c202 c203 c204 c205 c206 c207 c208 c209 c210 c211 c212 c213 c214 c215 c216 c217 : Value) (B : Nat) (s : Snap) (x0 : Int) (a1 : Option Addr) (n1 k1 : Nat) (x2 : Int) (a2 : Option Addr) (n2 k2 : Nat) (L : List EntV) (w : World) (Q : Exit → Act → World → Prop)
    (hbox : BoxS w B x0 a1 n1 k1 x2 a2 n2 k2) (hV : SnapV w s (.slice a1 n1 k1) (.slice a2 n2 k2) L) (hn : L.length = n2) (h40 : n2 ≤ 40) (hg : ∀ e ∈ L, Rising (-1) e.1.2.1 e.1.2.2 ∧ e.1.2.2.length ≤ 100)
    (hQ : ∀ (d2 d9 d10 d11 d89 d90 d91 d92 d93 d94 d95 d96 d97 d98 d99 d100 d101 d102 d103 d104 d105 d106 d107 d108 d109 d110 d111 d112 d113 d114 d115 d116 d117 d118 d119 d120 d121 d122 d123 d124 d125 d126 d127 d128 d129 d130 d131 d132 d133 d134 d135 d136 d137 d138 d139 d140 d141 : Value) (W : World), Below w.heap.size w W → Q .normal ⟨#[c0, c1, d2, .pointer (some ⟨B, 0, none⟩), c4, c5, c6, c7, c8, d9, d10, d11, c12, c13, c14, c15, c16, c17, c18, c19, c20, c21, c22, c23, c24, c25, c26, c27, c28, c29, c30, c31, c32, c33, c34, c35, c36, c37, c38, c39, c40, c41, c42, c43, c44, c45, c46, c47, c48, c49, c50, c51, c52, c53, c54, c55, c56, c57, c58, c59, c60, c61, c62, c63, c64, c65, c66, c67, c68, c69, c70, c71, c72, c73, c74, c75, c76, c77, c78, c79, c80, c81, c82, c83, c84, c85, c86, c87, c88, d89, d90, d91, d92, d93, d94, d95, d96, d97, d98, d99, d100, d101, d102, d103, d104, d105, d106, d107, d108, d109, d110, d111, d112, d113, d114, d115, d116, d117, d118, d119, d120, d121, d122, d123, d124, d125, d126, d127, d128, d129, d130, d131, d132, d133, d134, d135, d136, d137, d138, d139, d140, d141, c142, c143, c144, c145, c146, c147, c148, c149, c150, c151, c152, c153, c154, c155, c156, c157, c158, c159, c160, c161, c162, c163, c164, c165, c166, c167, c168, c169, c170, c171, c172, c173, c174, c175, c176, c177, c178, c179, c180, c181, c182, c183, c184, c185, c186, c187, c188, c189, c190, c191, c192, c193, c194, c195, c196, c197, c198, c199, c200, c201, c202, c203, c204, c205, c206, c207, c208, c209, c210, c211, c212, c213, c214, c215, c216, c217], []⟩ W) :
    Code.wp Tryz.prog wP6 Q ⟨#[c0, c1, c2, .pointer (some ⟨B, 0, none⟩), c4, c5, c6, c7, c8, c9, c10, c11, c12, c13, c14, c15, c16, c17, c18, c19, c20, c21, c22, c23, c24, c25, c26, c27, c28, c29, c30, c31, c32, c33, c34, c35, c36, c37, c38, c39, c40, c41, c42, c43, c44, c45, c46, c47, c48, c49, c50, c51, c52, c53, c54, c55, c56, c57, c58, c59, c60, c61, c62, c63, c64, c65, c66, c67, c68, c69, c70, c71, c72, c73, c74, c75, c76, c77, c78, c79, c80, c81, c82, c83, c84, c85, c86, c87, c88, c89, c90, c91, c92, c93, c94, c95, c96, c97, c98, c99, c100, c101, c102, c103, c104, c105, c106, c107, c108, c109, c110, c111, c112, c113, c114, c115, c116, c117, c118, c119, c120, c121, c122, c123, c124, c125, c126, c127, c128, c129, c130, c131, c132, c133, c134, c135, c136, c137, c138, c139, c140, c141, c142, c143, c144, c145, c146, c147, c148, c149, c150, c151, c152, c153, c154, c155, c156, c157, c158, c159, c160, c161, c162, c163, c164, c165, c166, c167, c168, c169, c170, c171, c172, c173, c174, c175, c176, c177, c178, c179, c180, c181, c182, c183, c184, c185, c186, c187, c188, c189, c190, c191, c192, c193, c194, c195, c196, c197, c198, c199, c200, c201, c202, c203, c204, c205, c206, c207, c208, c209, c210, c211, c212, c213, c214, c215, c216, c217], []⟩ w := by
  conv => arg 2; whnf
  have HBX := mkH hbox
  have HV := mkH hV
  have HN := mkH hn
  have HG := mkH hg
  have HQ := mkH hQ
  clear hbox hV hn hg hQ
  go_wp2_with fail
  go_loopw [9] (fun vk wr => ∃ k : Nat, k ≤ n2 ∧ vk = .int .i64 k ∧ Hid (Below w.heap.size w wr)) (fun vk _ => n2 - (intOf vk).toNat)
  case atStart => exact ⟨0, Nat.zero_le _, rfl, mkH (Below.refl _ _)⟩
  case round =>
    obtain ⟨k, hk, rfl, HB⟩ := hrel
    obtain ⟨s0, s1, s2, s3, _⟩ := cells4 ((HB.out.block B (blk_lt HBX.out)).trans HBX.out)
    by_cases hlt : k < n2
    · have hltz : (k : Int) < (n2 : Int) := by omega
      have hu := HV.out.up HB.out
      have hkL : k < L.length := by rw [HN.out]; exact hlt
      have hmem : L[k]! ∈ L := by rw [getElem!_pos L k hkL]; exact List.getElem_mem hkL
      rcases own_forms hu.row with ⟨_, e0⟩ | ⟨g, c, eg, _, hgl, hcap, _⟩
      · omega
      · have eg' := eg
        injection eg' with eg1 eg2 eg3
        subst eg1 eg3
        have hr := rowX (n := n2) (by have := hu.row; rw [HN.out] at this; exact this) HN.out.symm k hkL
        have hgk := HG.out _ hmem
        have hms := LiI.of_own (hu.masks _ hmem)
        obtain ⟨⟨⟨xp, xr, xm⟩, xa, xn, xc⟩, hxe⟩ : ∃ x, L[k]! = x := ⟨_, rfl⟩
        rw [hxe] at hgk hr hms
        have q0 := hr 0 _ rfl
        have q1 := hr 1 _ rfl
        have q2 := hr 2 _ rfl
        simp only [Nat.zero_add, Nat.add_zero] at q0 q1 q2
        have hxn : xn = xm.length := by
          rcases hms with ⟨⟨_, _, e⟩, e0⟩ | ⟨_, _, _, e, _⟩
          · injection e with _ e2 _; simp only at e0 e2; rw [e0, e2]; rfl
          · injection e with _ e2 _
        have HMS := mkH hms
        have HGK := mkH hgk
        subst hxn
        have hm100 : xm.length ≤ 100 := hgk.2
        have HX := mkH (heap_alloc_new wr (.cells #[.string xp, .int .i64 xr, .slice xa xm.length xc] 53))
        have HXB : Hid (Below wr.heap.size wr (wr.alloc (.cells #[.string xp, .int .i64 xr, .slice xa xm.length xc] 53))) := mkH ((Below.refl _ _).alloc (Nat.le_refl _) _)
        clear hr hms hgk hmem hxe hu eg eg2
        go_wp2_with fail
        generalize wr.alloc (.cells #[.string xp, .int .i64 xr, .slice xa xm.length xc] 53) = wX at *
        clear s0 s1 s2 s3 q0 q1 q2
        have HWR := mkH (Below.ups HB.out HXB.out)
        have HMX := mkH (HMS.out.below HXB.out)
        generalize wr.heap.size = bx at *
        clear HXB HMS
        go_loopw [11] (fun vj wi => ∃ j : Nat, j ≤ xm.length ∧ vj = .int .i64 j ∧ Hid (Below wX.heap.size wX wi)) (fun vj _ => xm.length - (intOf vj).toNat)
        case atStart => exact ⟨0, Nat.zero_le _, rfl, mkH (Below.refl _ _)⟩
        case round =>
          obtain ⟨j, hj, rfl, HBJ⟩ := hrel
          obtain ⟨r0, r1, r2, _⟩ := cells3 ((HBJ.out.block bx (blk_lt HX.out)).trans HX.out)
          by_cases hjt : j < xm.length
          · have hjtz : (j : Int) < (xm.length : Int) := by omega
            rcases HMX.out.below HBJ.out with ⟨_, e0⟩ | ⟨gm, om, cm, em, hgm, hcm, hmc⟩
            · rw [e0] at hjt; simp at hjt
            · injection em with em1 _ em2
              subst em1 em2
              have p1 := hmc j hjt
              obtain ⟨b1, b2⟩ := rises_at HGK.out.1 hjt
              by_cases hj0 : 0 < j
              · have hj0z : (0 : Int) < (j : Int) := by omega
                have hj1 : (0 : Int) ≤ (j : Int) - 1 := by omega
                have hj2 : (j : Int) - 1 < (xm.length : Int) := by omega
                have p0 := hmc (j - 1) (by omega)
                have b3 := rises_two HGK.out.1 hj0 hjt
                have ej : ((j : Int) - 1).toNat = j - 1 := by omega
                obtain ⟨i, rfl⟩ : ∃ i, j = i + 1 := ⟨j - 1, by omega⟩
                simp only [Nat.add_sub_cancel] at p0 b3
                have ei : ((i + 1 : Nat) : Int) - 1 = (i : Int) := by omega
                generalize xm[i]! = y0 at *
                generalize xm[i + 1]! = y1 at *
                have hy1 : ¬ y1 < 0 := by omega
                have hy2 : ¬ xr ≤ y1 := by omega
                have hy3 : ¬ y1 ≤ y0 := by omega
                clear ej hj1 hj2 hmc
                go_wp2_with fail
                have hd1 : decide (y1 < 0) = false := decide_eq_false (by omega)
                have hd2 : decide (xr ≤ y1) = false := decide_eq_false (by omega)
                have hd3 : decide (y1 ≤ y0) = false := decide_eq_false (by omega)
                have hd4 : decide ((0 : Int) < ((i + 1 : Nat) : Int)) = true := decide_eq_true (by omega)
                go_quiet (fail)
                go_wp2_with fail
                go_roundw
                case rel => exact ⟨i + 1 + 1, by omega, by go_num, mkH (below_drewN HBJ.out nq)⟩
                case measure => simp [intOf]; omega
              · have hj0z : j = 0 := by omega
                subst hj0z
                clear hmc
                simp only [Nat.add_zero] at p1
                generalize xm[0]! = y1 at *
                have hd1 : decide (y1 < 0) = false := decide_eq_false (by omega)
                have hd2 : decide (xr ≤ y1) = false := decide_eq_false (by omega)
                go_wp2_with fail
                go_quiet (fail)
                go_wp2_with fail
                go_roundw
                case rel => exact ⟨0 + 1, by omega, by go_num, mkH (below_drewN HBJ.out nq)⟩
                case measure => simp [intOf]; omega
          · have hjtz : ¬ (j : Int) < (xm.length : Int) := by omega
            go_wp2_with fail
            go_roundw
            case rel => exact ⟨k + 1, by omega, by go_num, mkH (Below.ups HWR.out HBJ.out)⟩
            case measure => simp [intOf]; omega
    · have hltz : ¬ (k : Int) < (n2 : Int) := by omega
      go_wp2_with fail
      exact HQ.out _ _ _ _ _ _ _ _ _ _ _ _ _ _ _ _ _ _ _ _ _ _ _ _ _ _ _ _ _ _ _ _ _ _ _ _ _ _ _ _ _ _ _ _ _ _ _ _ _ _ _ _ _ _ _ _ _ _ HB.out
end Go.Proofs.YtgpdojaehmdlpaaGreatDoor

namespace Go.Proofs.YtgpdojaehmdlpaaGreatDoor
open Go.RowKit Go.Proofs Go.Lib Go.Joins Go.Maps


/-- What has been copied. -/
structure Cop8 (wi : World) (bc : Nat) (D1 : DataW Unit) (left : Lit → Bool) (L M : List EntV) : Prop where
  sub : ∀ k, left k = true → has D1 k = true
  all : ∀ x : ByteArray, has D1 (lit x) = true → left (lit x) = true ∨ ∃ e ∈ M, e.1.1 = x
  gone : ∀ e ∈ M, left (lit e.1.1) = false
  once : (M.map (·.1.1)).Nodup
  mem : ∀ e ∈ M, e.1 ∈ L.map (·.1)
  set : SetAt wi bc M.length M
  own : ∀ e ∈ M, wi.ownsRow 0 3 1 (sv e.2) e.1.2.2.length (e.1.2.2.map (.int .i64))
theorem Cop8.up {w W : World} {bc : Nat} {D1 : DataW Unit} {left : Lit → Bool} {L M : List EntV} (h : Cop8 w bc D1 left L M) (hb : Below w.heap.size w W) : Cop8 W bc D1 left L M :=
  ⟨h.sub, h.all, h.gone, h.once, h.mem, h.set.below hb, fun e he => own_up (h.own e he) hb⟩
theorem keep3 {w W : World} {base z : Nat} {v : Value} {n : Nat} {xs : List Value} {row : Option Nat} (h : w.ownsRow base 3 z v n xs) (hg : w.grownBy W row) (hk : ∀ k cur, row = some k → w.heap[k]? ≠ some (.cells cur 3 (0, 0))) : W.ownsRow base 3 z v n xs :=
  own_keep h hg (fun k hk' e => by obtain ⟨c, h1⟩ := own_at h hk'; exact hk k c e h1)
theorem SetAt.grown {w W : World} {m n : Nat} {L : List EntV} {row : Option Nat} (h : SetAt w m n L) (hg : w.grownBy W row) (hne : some m ≠ row) : SetAt W m n L := by
  obtain ⟨D, ⟨es, clock, h1, h2⟩, h3⟩ := h
  exact ⟨D, ⟨es, clock, (hg.block m (blk_lt h1) hne).trans h1, h2⟩, h3⟩
theorem Cop8.grown {w W : World} {bc : Nat} {D1 : DataW Unit} {left : Lit → Bool} {L M : List EntV} {row : Option Nat} (h : Cop8 w bc D1 left L M) (hg : w.grownBy W row) (hne : some bc ≠ row) (hk : ∀ k cur, row = some k → w.heap[k]? ≠ some (.cells cur 3 (0, 0))) : Cop8 W bc D1 left L M :=
  ⟨h.sub, h.all, h.gone, h.once, h.mem, h.set.grown hg hne, fun e he => keep3 (h.own e he) hg hk⟩
theorem own_zero {w : World} {base : Nat} {t : TypeId} {z : Nat} {v : Value} {n : Nat} {xs : List Value} (h : w.ownsRow base t z v n xs) : w.ownsRow 0 t z v n xs := by
  refine ⟨h.1, ?_⟩
  rcases h.2 with h | ⟨g, c, cur, hv, hb', hr⟩
  · exact .inl h
  · exact .inr ⟨g, c, cur, hv, Nat.zero_le _, hr⟩
theorem Cop8.next {w W : World} {bc : Nat} {D1 : DataW Unit} {left : Lit → Bool} {L M : List EntV} (h : Cop8 w bc D1 left L M) (x : EntV) (hx : left (lit x.1.1) = true) (hm : x.1 ∈ L.map (·.1)) (ho : w.ownsRow 0 3 1 (sv x.2) x.1.2.2.length (x.1.2.2.map (.int .i64))) (hg : w.grownBy W (some bc)) (hk : ∀ cur, w.heap[bc]? ≠ some (.cells cur 3 (0, 0)))
    (hn : ∀ y ∈ M, y.1.1 ≠ x.1.1) (hs : SetAt W bc (M.length + 1) (M ++ [x])) : Cop8 W bc D1 (fun z => left z && !z.sameKey (lit x.1.1)) L (M ++ [x]) where
  sub := fun k hk => h.sub k (by simp only [Bool.and_eq_true] at hk; exact hk.1)
  all := fun y hy => by
    rcases h.all y hy with h1 | ⟨e, he, h2⟩
    · by_cases e : y = x.1.1
      · exact .inr ⟨x, by simp, e.symm⟩
      · refine .inl ?_
        simp only [Bool.and_eq_true, Bool.not_eq_true']
        refine ⟨h1, ?_⟩
        cases hq : (lit y).sameKey (lit x.1.1) with
        | false => rfl
        | true => exact absurd (lit_inj (WideAt.sameKey_eq hq)) e
    · exact .inr ⟨e, by simp [he], h2⟩
  gone := fun e he => by
    rcases List.mem_append.1 he with he | he
    · simp [h.gone e he]
    · simp only [List.mem_singleton] at he
      subst he
      simp [WideAt.sameKey_self (litKey _)]
  once := by
    rw [List.map_append, List.nodup_append]
    refine ⟨h.once, by simp, fun a ha b hb => ?_⟩
    obtain ⟨y, hy, rfl⟩ := List.mem_map.1 ha
    simp only [List.map_cons, List.map_nil, List.mem_singleton] at hb
    rw [hb]
    exact hn y hy
  mem := fun e he => by
    rcases List.mem_append.1 he with he | he
    · exact h.mem e he
    · simp only [List.mem_singleton] at he
      rw [he]
      exact hm
  set := by simpa using hs
  own := fun e he => by
    rcases List.mem_append.1 he with he | he
    · exact keep3 (h.own e he) hg (fun k cur e2 => by injection e2 with e2; subst e2; exact hk cur)
    · simp only [List.mem_singleton] at he
      subst he
      exact keep3 ho hg (fun k cur e2 => by injection e2 with e2; subst e2; exact hk cur)
theorem own_map {w W : World} {base : Nat} {t : TypeId} {z : Nat} {v : Value} {n : Nat} {xs : List Value} {b : Nat} (h : w.ownsRow base t z v n xs) (hm : ∃ es c, w.heap[b]? = some (.map es c)) (hg : w.grownBy W (some b)) : W.ownsRow base t z v n xs :=
  own_keep h hg (fun k hk e => by
    injection e with e
    subst e
    obtain ⟨c1, h1⟩ := own_at h hk
    obtain ⟨es, c, hm⟩ := hm
    rw [hm] at h1
    cases h1)

set_option maxHeartbeats 1600000 in
set_option maxRecDepth 1000000 in
theorem p8_ok (c0 c1 c2 c4 c5 c6 c7 c8 c9 c10 c11 c13 c14 c15 c16 c17 c18 c19 c20 c21 c22 c23 c24 c25 c26 c27 c28 c29 c30 c31 c32 c33 c34 c35 c36 c37 c38 c39 c40 c41 c42 c43 c44 c45 c46 c47 c48 c49 c50 c51 c52 c53 c54 c55 c56 c57 c58 c59 c60 c61 c62 c63 c64 c65 c66 c67 c68 c69 c70 c71 c72 c73 c74 c75 c76 c77 c78 c79 c80 c81 c82 c83 c84 c85 c86 c87 c88 c89 c90 c91 c92 c93 c94 c95 c96 c97 c98 c99 c100 c101 c102 c103 c104 c105 c106 c107 c108 c109 c110 c111 c112 c113 c114 c115 c116 c117 c118 c119 c120 c121 c122 c123 c124 c125 c126 c127 c128 c129 c130 c131 c132 c133 c134 c135 c136 c137 c138 c139 c140 c141 c142 c143 c144 c145 c146 c147 c148 c149 c150 c151 c152 c153 c154 c155 c156 c157 c158 c159 c160 c161 c162 c163 c164 c165 c166 c167 c168 c169 c170 c171 c172 c173 c174 c175 c176 c177 c178 c179 c180 c181 c182 c183 c184 c185 c186 c187 c188 c189 c190 c191 c192 c193 c194 c195 c196 c197 c198 c199 c200 c201 c202 c203 c204 c205 c206 c207 c208 c209 c210 c211 c212 c213 c214 c215 c216 c217 : Value) (B : Nat) (s : Snap) (x0 : Int) (a1 : Option Addr) (n1 k1 : Nat) (x2 : Int) (a2 : Option Addr) (n2 k2 : Nat) (L : List EntV) (w0 w : World) (Q : Exit → Act → World → Prop)
    (hb0 : Below w0.heap.size w0 w) (hbox : BoxS w0 B x0 a1 n1 k1 x2 a2 n2 k2) (hV : SnapV w0 s (.slice a1 n1 k1) (.slice a2 n2 k2) L) (h40 : L.length ≤ 40) (h100 : ∀ e ∈ L, e.1.2.2.length ≤ 100) (hnd : (L.map (·.1.1)).Nodup) (hmp : SetAt w w0.heap.size 0 [])
    (hst : ∀ W, Below w0.heap.size w0 W → Calls Tryz.prog 17 #[.agg #[.int .i64 x0, .slice a1 n1 k1, .int .i64 x2, .slice a2 n2 k2]] W (SetPost W L))
    (hQ : ∀ (d13 d14 d143 d144 d145 d146 d147 d148 d149 d150 d151 d152 d153 d154 d155 d156 d157 : Value) (W : World), Below w0.heap.size w0 W → KeptAt W s w0.heap.size → Q .normal ⟨#[c0, c1, c2, .pointer (some ⟨B, 0, none⟩), c4, c5, c6, c7, c8, c9, c10, c11, .map (some w0.heap.size), d13, d14, c15, c16, c17, c18, c19, c20, c21, c22, c23, c24, c25, c26, c27, c28, c29, c30, c31, c32, c33, c34, c35, c36, c37, c38, c39, c40, c41, c42, c43, c44, c45, c46, c47, c48, c49, c50, c51, c52, c53, c54, c55, c56, c57, c58, c59, c60, c61, c62, c63, c64, c65, c66, c67, c68, c69, c70, c71, c72, c73, c74, c75, c76, c77, c78, c79, c80, c81, c82, c83, c84, c85, c86, c87, c88, c89, c90, c91, c92, c93, c94, c95, c96, c97, c98, c99, c100, c101, c102, c103, c104, c105, c106, c107, c108, c109, c110, c111, c112, c113, c114, c115, c116, c117, c118, c119, c120, c121, c122, c123, c124, c125, c126, c127, c128, c129, c130, c131, c132, c133, c134, c135, c136, c137, c138, c139, c140, c141, c142, d143, d144, d145, d146, d147, d148, d149, d150, d151, d152, d153, d154, d155, d156, d157, c158, c159, c160, c161, c162, c163, c164, c165, c166, c167, c168, c169, c170, c171, c172, c173, c174, c175, c176, c177, c178, c179, c180, c181, c182, c183, c184, c185, c186, c187, c188, c189, c190, c191, c192, c193, c194, c195, c196, c197, c198, c199, c200, c201, c202, c203, c204, c205, c206, c207, c208, c209, c210, c211, c212, c213, c214, c215, c216, c217], []⟩ W) :
    Code.wp Tryz.prog wP8 Q ⟨#[c0, c1, c2, .pointer (some ⟨B, 0, none⟩), c4, c5, c6, c7, c8, c9, c10, c11, .map (some w0.heap.size), c13, c14, c15, c16, c17, c18, c19, c20, c21, c22, c23, c24, c25, c26, c27, c28, c29, c30, c31, c32, c33, c34, c35, c36, c37, c38, c39, c40, c41, c42, c43, c44, c45, c46, c47, c48, c49, c50, c51, c52, c53, c54, c55, c56, c57, c58, c59, c60, c61, c62, c63, c64, c65, c66, c67, c68, c69, c70, c71, c72, c73, c74, c75, c76, c77, c78, c79, c80, c81, c82, c83, c84, c85, c86, c87, c88, c89, c90, c91, c92, c93, c94, c95, c96, c97, c98, c99, c100, c101, c102, c103, c104, c105, c106, c107, c108, c109, c110, c111, c112, c113, c114, c115, c116, c117, c118, c119, c120, c121, c122, c123, c124, c125, c126, c127, c128, c129, c130, c131, c132, c133, c134, c135, c136, c137, c138, c139, c140, c141, c142, c143, c144, c145, c146, c147, c148, c149, c150, c151, c152, c153, c154, c155, c156, c157, c158, c159, c160, c161, c162, c163, c164, c165, c166, c167, c168, c169, c170, c171, c172, c173, c174, c175, c176, c177, c178, c179, c180, c181, c182, c183, c184, c185, c186, c187, c188, c189, c190, c191, c192, c193, c194, c195, c196, c197, c198, c199, c200, c201, c202, c203, c204, c205, c206, c207, c208, c209, c210, c211, c212, c213, c214, c215, c216, c217], []⟩ w := by
  conv => arg 2; whnf
  have HB0 := mkH hb0
  have HV := mkH hV
  have HST := mkH (hst w hb0)
  have HQ := mkH hQ
  have HH := mkH h100
  have HND := mkH hnd
  have HMP := mkH hmp
  obtain ⟨s0, s1, s2, s3, _⟩ := cells4 ((hb0.block B (blk_lt hbox)).trans hbox)
  clear hb0 hbox hV hnd hmp hst hQ h100
  go_wp2_with (first
    | (go_at_call 17; refine HST.out.mono ?_; rintro e wx ⟨m1, rfl, hm1, ⟨D1, hD1, hh1, hk1, hz1⟩, hbx⟩; have HBX := mkH hbx; have HD1 := mkH hD1; have HH1 := mkH hh1; have HK1 := mkH hk1; have HM1 := mkH hm1; clear hh1 hk1 hz1 hm1 hbx hD1)
    | (at_range; refine wpList_range_own _ rfl _ 47 rfl 9 53 law9 Tryz.underlying47 _ m1 L.length D1 rfl HD1.out ?_; intro w8 hrg8 hg8 hs8))
  go_frame
  have HB8 : Hid (Below wx.heap.size wx w8) := mkH ((Below.refl _ wx).grown hg8 (Nat.le_refl _) (fun j hj => by cases hj))
  have HB9 : Hid (Below w0.heap.size w0 w8) := mkH (Below.ups HB0.out (Below.ups HBX.out HB8.out))
  have HC0 : Hid (Cop8 w8 w0.heap.size D1 (has D1) L []) := mkH ⟨fun _ h => h, fun _ h => .inl h, (fun e he => by cases he), by simp, (fun e he => by cases he), HMP.out.below (Below.ups HBX.out HB8.out), (fun e he => by cases he)⟩
  have HXS : Hid (w0.heap.size < m1 ∧ w0.heap.size < wx.heap.size) := mkH (by
    have h1 := HM1.out
    have h2 := HBX.out.size
    obtain ⟨_, h3, _⟩ := HMP.out
    have := h3.lt
    omega)
  clear s0 s1 s2 s3 hg8 hs8
  go_loopw [13] (fun _ wi => ∃ (left : Lit → Bool) (cnt : Nat) (M : List EntV), wi.ranges Tryz.prog 9 entE m1 wx.heap.size L.length D1 left cnt ∧ Hid (Cop8 wi w0.heap.size D1 left L M) ∧ Hid (Below w0.heap.size w0 wi)) (fun _ wi => wi.rangeLeft m1 wx.heap.size)
  case atStart => exact ⟨_, _, [], hrg8, HC0, HB9⟩
  case round =>
    obtain ⟨left, cnt, M, hrg, HC, HBI⟩ := hrel
    go_wp2_with (first
      | (at_next; refine wpList_next_ent _ rfl _ rfl m1 wx.heap.size L.length D1 left cnt rfl hrg ?_ ?_))
    · intro _ hleft
      go_wp2_with fail
      refine HQ.out _ _ _ _ _ _ _ _ _ _ _ _ _ _ _ _ _ _ HBI.out ⟨_, M, HC.out.set, ?_, ?_, ?_, HC.out.own⟩
      · have : M.length ≤ L.length := by
          have h1 := nodup_len (l := M.map (·.1.1)) (m := L.map (·.1.1)) HC.out.once (fun x hx => by
            obtain ⟨e, he, rfl⟩ := List.mem_map.1 hx
            obtain ⟨f, hf, e2⟩ := List.mem_map.1 (HC.out.mem e he)
            exact List.mem_map.2 ⟨f, hf, by rw [e2]⟩)
          simpa using h1
        omega
      · rw [HV.out.files, List.length_map]
        have h1 := nodup_len (l := M.map (·.1.1)) (m := L.map (·.1.1)) HC.out.once (fun x hx => by
          obtain ⟨e, he, rfl⟩ := List.mem_map.1 hx
          obtain ⟨f, hf, e2⟩ := List.mem_map.1 (HC.out.mem e he)
          exact List.mem_map.2 ⟨f, hf, by rw [e2]⟩)
        have h2 := nodup_len (l := L.map (·.1.1)) (m := M.map (·.1.1)) HND.out (fun x hx => by
          obtain ⟨e, he, rfl⟩ := List.mem_map.1 hx
          rcases HC.out.all e.1.1 (by rw [HH1.out, List.any_eq_true]; exact ⟨e, he, by simp⟩) with h | ⟨f, hf, e2⟩
          · rw [hleft] at h; cases h
          · exact List.mem_map.2 ⟨f, hf, e2⟩)
        simp only [List.length_map] at h1 h2
        omega
      · intro e he
        rw [HV.out.files]
        exact HC.out.mem e he
    · intro x p r' ea en ec w9 cnt9 hwx hlx hpl hat hrg9 hlt9 hg9 hs9 hen
      have hhx := HC.out.sub _ hlx
      rw [HH1.out, List.any_eq_true] at hhx
      obtain ⟨e, he, hex⟩ := hhx
      have hex' : e.1.1 = x := by simpa using hex
      have hatE := HK1.out e he (entD p r' (ea, en, ec))
      rw [hex', hat] at hatE
      obtain ⟨rfl, hr', hs'⟩ := entD_inj hatE hpl (own_plain (HV.out.masks e he))
      have HMk := mkH (own_up (HV.out.masks e he) HBI.out)
      have HEM : Hid (e.1 ∈ L.map (·.1)) := mkH (List.mem_map_of_mem he)
      have hlen := HH.out e he
      obtain ⟨⟨xp, xr, xm⟩, xs⟩ := e
      simp only at hr' hs' hex' hlen
      subst hr' hs' hex'
      have hen2 : en = xm.length := by
        have := LiI.of_own HMk.out
        rcases this with ⟨⟨_, _, e1⟩, e0⟩ | ⟨_, _, _, e1, _⟩
        · injection e1 with _ e2 _; simp only at e0 e2; rw [e0, e2]; rfl
        · injection e1 with _ e2 _
      subst hen2
      have HNM : Hid (∀ y ∈ M, y.1.1 ≠ xp) := mkH (fun y hy ey => by
        have := HC.out.gone y hy
        rw [ey, hlx] at this
        cases this)
      have hrb : w0.heap.size < wx.heap.size := HXS.out.2
      have HML : Hid (M.length ≤ 40) := mkH (by
        have h1 := nodup_len (l := M.map (·.1.1)) (m := L.map (·.1.1)) HC.out.once (fun x hx => by
          obtain ⟨e, he, rfl⟩ := List.mem_map.1 hx
          obtain ⟨f, hf, e2⟩ := List.mem_map.1 (HC.out.mem e he)
          exact List.mem_map.2 ⟨f, hf, by rw [e2]⟩)
        simp only [List.length_map] at h1
        omega)
      have hwi := HBI.out.size
      have HC9 := mkH (HC.out.grown hg9 (fun e => by injection e with e; omega) (fun k cur e h => by
        injection e with e
        subst e
        obtain ⟨_, _, _, _, _, _, _, _, _, hrr, _⟩ := hrg
        rw [hrr] at h
        cases h))
      have HM9 := mkH (keep3 HMk.out hg9 (fun k cur e h => by
        injection e with e
        subst e
        obtain ⟨_, _, _, _, _, _, _, _, _, hrr, _⟩ := hrg
        rw [hrr] at h
        cases h))
      have HB9' : Hid (Below w0.heap.size w0 w9) := mkH (HBI.out.grown hg9 hwi (fun j hj => by cases hj; omega))
      have HAB : Hid (Below w9.heap.size w9 (w9.alloc (.cells #[.string xp, .int .i64 r', .slice ea xm.length ec] 53))) := mkH ((Below.refl _ _).alloc (Nat.le_refl _) _)
      have HCL := mkH (cloneI_own 0 (.slice ea xm.length ec) xm.length xm _ (own_up HM9.out HAB.out) (by have : xm.length ≤ 100 := hlen; omega))
      have HXA := mkH (heap_alloc_new w9 (.cells #[.string xp, .int .i64 r', .slice ea xm.length ec] 53))
      have HCA := mkH (HC9.out.up HAB.out)
      have HRA := mkH (hrg9.alloc (.cells #[.string xp, .int .i64 r', .slice ea xm.length ec] 53))
      have HBA := mkH (HB9'.out.alloc HB9'.out.size (.cells #[.string xp, .int .i64 r', .slice ea xm.length ec] 53))
      have h9s := HB9'.out.size
      have HL9 : Hid (wx.heap.size < w9.heap.size) := mkH hrg9.lt
      have HL8 : Hid (m1 < w9.heap.size) := mkH hrg9.owns.lt
      clear hrg9 hg9 hs9
      have hxpz : xp.size ≤ maxLen := hwx
      go_wp2_with (first
        | (go_at_call 19; refine HCL.out.mono ?_; rintro e w10 ⟨a', c', rfl, hown, hb10⟩; have HX10 := mkH ((hb10.block w9.heap.size (blk_lt HXA.out)).trans HXA.out); obtain ⟨z0, z1, z2, zf⟩ := cells3 HX10.out; have zf2 := zf 2
           have hk53 : ∀ k cur, some w9.heap.size = some k → w10.heap[k]? ≠ some (.cells cur 3 (0, 0)) := fun k cur e h => by
             injection e with e
             subst e
             rw [HX10.out] at h
             injection h with h
             injection h with _ h2
             revert h2
             decide
           have HC11 := mkH ((HCA.out.up hb10).grown (grown_setC w10 w9.heap.size 2 (.slice a' xm.length c')) (fun e => by injection e with e; have := HL9.out; omega) hk53)
           have HO11 := mkH (own_zero (keep3 hown (grown_setC w10 w9.heap.size 2 (.slice a' xm.length c')) hk53))
           have HR11 := mkH ((HRA.out.kept (row := none) ⟨hb10.os, hb10.tape, hb10.output, hb10.size, fun j hj _ => hb10.block j hj⟩ (by simp) (by simp)).kept (grown_setC w10 w9.heap.size 2 (.slice a' xm.length c')) (fun e => by injection e with e; have := HL8.out; omega) (fun e => by injection e with e; have := HL9.out; omega))
           have HB11 := mkH ((HBA.out.trans (hb10.mono (Nat.le_trans h9s (Nat.le_of_lt (by rw [World.size_alloc]; omega))))).setCell (p := ⟨w9.heap.size, 2, none⟩) h9s (.slice a' xm.length c'))
           have HPL := mkH (own_plain (s := (a', xm.length, c')) hown)
           obtain ⟨D, d1, d2, d3, d4⟩ := HC11.out.set
           have E1 := mkH d1
           have E2 := mkH d2
           have E3 := mkH d3
           have E4 := mkH d4
           clear hown hb10 zf hk53 d1 d2 d3 d4)
        | (at_mapUpdate; refine wpList_mapUpdate_in _ rfl _ _ _ 47 rfl 9 53 law9 Tryz.underlying47 _ w0.heap.size M.length D rfl E1.out (by have := HML.out; unfold maxLen; omega) _ _ _ rfl rfl (keyOf9 hxpz) _ [] (entE_mk HPL.out) ?_; intro w12 hown12 hturn12; have HO12 := mkH hown12; have HG12 := mkH hturn12.grown; clear hown12 hturn12))
      have hm1 := HXS.out.1
      have HR12 := mkH (HR11.out.kept HG12.out (fun e => by injection e with e; omega) (fun e => by injection e with e; omega))
      go_frame
      go_roundw
      case rel =>
        refine ⟨_, cnt9, M ++ [((xp, r', xm), (a', xm.length, c'))], HR12.out, mkH (HC11.out.next ((xp, r', xm), (a', xm.length, c')) hlx HEM.out HO11.out HG12.out (fun cur h => ?_) HNM.out (SetAt.put (x := ((xp, r', xm), (a', xm.length, c'))) E1.out E2.out E3.out E4.out HNM.out HO12.out)), mkH (HB11.out.grown HG12.out HB11.out.size (fun j hj => by cases hj; exact Nat.le_refl _))⟩
        obtain ⟨es, cl, h1, _⟩ := E1.out
        rw [h1] at h
        cases h
      case measure =>
        rw [World.ranges.left_eq HR12.out, hrg.left_eq]
        omega
end Go.Proofs.YtgpdojaehmdlpaaGreatDoor
