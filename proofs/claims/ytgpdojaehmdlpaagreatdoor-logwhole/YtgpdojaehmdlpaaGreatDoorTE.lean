/- LogWhole: what was is noted. -/
import Derived.Test.YtgpdojaehmdlpaaGreatDoorTA
import Derived.Deep.RegionHeld3
import Derived.Deep.DeepCutAuto
import Derived.Deep.CutBlock
namespace Go.Proofs.YtgpdojaehmdlpaaGreatDoor
open Go.RowKit Go.Proofs Go.Lib Go.Joins Go.Maps


theorem infoS : (Tryz.prog.info? 41).map (fun i => (i.zero, i.size, i.bytes)) = some (some zeroSV, 4, 64) := by kernel_rfl
theorem infoM : (Tryz.prog.info? 47).map (fun i => (i.zero, i.size, i.bytes)) = some (some (.map none), 1, 8) := by kernel_rfl
theorem Past.row {w W : World} {h : Was} (p : Past w h) {base : Nat} {T : TypeId} {z : Nat} {v : Value} {n : Nat} {xs : List Value} (hr : w.ownsRow base T z v n xs) (t1 : (3 : TypeId) ≠ T) (t2 : (80 : TypeId) ≠ T) (t3 : (53 : TypeId) ≠ T) (hg : w.grownBy W v.ownBlock) : Past W h := by
  cases hb : v.ownBlock with
  | none =>
    rw [hb] at hg
    exact p.up ((Below.refl _ w).grown hg (Nat.le_refl _) (fun j hj => by cases hj))
  | some b =>
    obtain ⟨cs, hc⟩ := own_at hr hb
    rw [hb] at hg
    exact p.put hc t1 t2 t3 hg
theorem row_row {w W : World} {b1 b2 : Nat} {T1 T2 : TypeId} {z1 z2 : Nat} {v1 v2 : Value} {n1 n2 : Nat} {x1 x2 : List Value} (h1 : w.ownsRow b1 T1 z1 v1 n1 x1) (h2 : w.ownsRow b2 T2 z2 v2 n2 x2) (ht : T1 ≠ T2) (hg : w.grownBy W v2.ownBlock) : W.ownsRow b1 T1 z1 v1 n1 x1 :=
  own_keep h1 hg (fun k hk e => by
    obtain ⟨c1, q1⟩ := own_at h1 hk
    obtain ⟨c2, q2⟩ := own_at h2 e
    rw [q1] at q2
    injection q2 with q2
    injection q2 with _ q3
    exact ht q3)
theorem row_low {w : World} {base : Nat} {T : TypeId} {z : Nat} {v : Value} {n : Nat} {xs : List Value} (h : w.ownsRow base T z v n xs) {k : Nat} (hk : v.ownBlock = some k) : base ≤ k := by
  rcases own_forms h with ⟨e, _⟩ | ⟨g, c, e, hb, _⟩
  · rw [e] at hk; cases hk
  · rw [e] at hk; cases hk; exact hb
theorem row_slice {w : World} {base : Nat} {T : TypeId} {z : Nat} {v : Value} {n : Nat} {xs : List Value} (h : w.ownsRow base T z v n xs) : ∃ a c, v = .slice a n c := by
  rcases own_forms h with ⟨e, e0⟩ | ⟨g, c, e, _⟩
  · exact ⟨none, 0, by rw [e, e0]⟩
  · exact ⟨_, c, e⟩

set_option maxHeartbeats 1600000 in
set_option maxRecDepth 1000000 in
theorem p9_ok (c0 c1 c2 c6 c7 c8 c9 c10 c11 c13 c14 c15 c16 c17 c18 c19 c20 c21 c22 c23 c24 c25 c26 c27 c28 c29 c30 c31 c32 c33 c34 c35 c36 c37 c38 c39 c40 c41 c42 c43 c44 c45 c46 c47 c48 c49 c50 c51 c52 c53 c54 c55 c56 c57 c58 c59 c60 c61 c62 c63 c64 c65 c66 c67 c68 c69 c70 c71 c72 c73 c74 c75 c76 c77 c78 c79 c80 c81 c82 c83 c84 c85 c86 c87 c88 c89 c90 c91 c92 c93 c94 c95 c96 c97 c98 c99 c100 c101 c102 c103 c104 c105 c106 c107 c108 c109 c110 c111 c112 c113 c114 c115 c116 c117 c118 c119 c120 c121 c122 c123 c124 c125 c126 c127 c128 c129 c130 c131 c132 c133 c134 c135 c136 c137 c138 c139 c140 c141 c142 c143 c144 c145 c146 c147 c148 c149 c150 c151 c152 c153 c154 c155 c156 c157 c158 c159 c160 c161 c162 c163 c164 c165 c166 c167 c168 c169 c170 c171 c172 c173 c174 c175 c176 c177 c178 c179 c180 c181 c182 c183 c184 c185 c186 c187 c188 c189 c190 c191 c192 c193 c194 c195 c196 c197 c198 c199 c200 c201 c202 c203 c204 c205 c206 c207 c208 c209 c210 c211 c212 c213 c214 c215 c216 c217 : Value) (B base : Nat) (H : List Was) (wa : Option Addr) (kw : Nat) (sa : Option Addr) (ks : Nat) (t : Snap) (x0 : Int) (a1 : Option Addr) (n1 k1 : Nat) (x2 : Int) (a2 : Option Addr) (n2 k2 bc : Nat) (w : World) (Q : Exit → Act → World → Prop)
    (hH : Hist base w (.slice wa H.length kw) (.slice sa H.length ks) H) (hbox : BoxS w B x0 a1 n1 k1 x2 a2 n2 k2) (hB : B < base) (hbase : base ≤ w.heap.size) (hp : Past w (t, (x0, (a1, n1, k1), x2, (a2, n2, k2)), bc)) (hl : H.length ≤ 1000)
    (hQ : ∀ (d158 d159 d160 d161 d162 d163 d164 d165 : Value) (wa2 : Option Addr) (kw2 : Nat) (sa2 : Option Addr) (ks2 : Nat) (W : World), Hist base W (.slice wa2 (H.length + 1) kw2) (.slice sa2 (H.length + 1) ks2) (H ++ [(t, (x0, (a1, n1, k1), x2, (a2, n2, k2)), bc)]) → BoxS W B x0 a1 n1 k1 x2 a2 n2 k2 → Below base w W → Q .normal ⟨#[c0, c1, c2, .pointer (some ⟨B, 0, none⟩), .slice wa2 (H.length + 1) kw2, .slice sa2 (H.length + 1) ks2, c6, c7, c8, c9, c10, c11, .map (some bc), c13, c14, c15, c16, c17, c18, c19, c20, c21, c22, c23, c24, c25, c26, c27, c28, c29, c30, c31, c32, c33, c34, c35, c36, c37, c38, c39, c40, c41, c42, c43, c44, c45, c46, c47, c48, c49, c50, c51, c52, c53, c54, c55, c56, c57, c58, c59, c60, c61, c62, c63, c64, c65, c66, c67, c68, c69, c70, c71, c72, c73, c74, c75, c76, c77, c78, c79, c80, c81, c82, c83, c84, c85, c86, c87, c88, c89, c90, c91, c92, c93, c94, c95, c96, c97, c98, c99, c100, c101, c102, c103, c104, c105, c106, c107, c108, c109, c110, c111, c112, c113, c114, c115, c116, c117, c118, c119, c120, c121, c122, c123, c124, c125, c126, c127, c128, c129, c130, c131, c132, c133, c134, c135, c136, c137, c138, c139, c140, c141, c142, c143, c144, c145, c146, c147, c148, c149, c150, c151, c152, c153, c154, c155, c156, c157, d158, d159, d160, d161, d162, d163, d164, d165, c166, c167, c168, c169, c170, c171, c172, c173, c174, c175, c176, c177, c178, c179, c180, c181, c182, c183, c184, c185, c186, c187, c188, c189, c190, c191, c192, c193, c194, c195, c196, c197, c198, c199, c200, c201, c202, c203, c204, c205, c206, c207, c208, c209, c210, c211, c212, c213, c214, c215, c216, c217], []⟩ W) :
    Code.wp Tryz.prog wP9 Q ⟨#[c0, c1, c2, .pointer (some ⟨B, 0, none⟩), .slice wa H.length kw, .slice sa H.length ks, c6, c7, c8, c9, c10, c11, .map (some bc), c13, c14, c15, c16, c17, c18, c19, c20, c21, c22, c23, c24, c25, c26, c27, c28, c29, c30, c31, c32, c33, c34, c35, c36, c37, c38, c39, c40, c41, c42, c43, c44, c45, c46, c47, c48, c49, c50, c51, c52, c53, c54, c55, c56, c57, c58, c59, c60, c61, c62, c63, c64, c65, c66, c67, c68, c69, c70, c71, c72, c73, c74, c75, c76, c77, c78, c79, c80, c81, c82, c83, c84, c85, c86, c87, c88, c89, c90, c91, c92, c93, c94, c95, c96, c97, c98, c99, c100, c101, c102, c103, c104, c105, c106, c107, c108, c109, c110, c111, c112, c113, c114, c115, c116, c117, c118, c119, c120, c121, c122, c123, c124, c125, c126, c127, c128, c129, c130, c131, c132, c133, c134, c135, c136, c137, c138, c139, c140, c141, c142, c143, c144, c145, c146, c147, c148, c149, c150, c151, c152, c153, c154, c155, c156, c157, c158, c159, c160, c161, c162, c163, c164, c165, c166, c167, c168, c169, c170, c171, c172, c173, c174, c175, c176, c177, c178, c179, c180, c181, c182, c183, c184, c185, c186, c187, c188, c189, c190, c191, c192, c193, c194, c195, c196, c197, c198, c199, c200, c201, c202, c203, c204, c205, c206, c207, c208, c209, c210, c211, c212, c213, c214, c215, c216, c217], []⟩ w := by
  conv => arg 2; whnf
  obtain ⟨iS, is1, is2, is3, is4⟩ := info_parts infoS
  obtain ⟨iM, im1, im2, im3, im4⟩ := info_parts infoM
  have HIS := mkH (And.intro is1 (And.intro is2 (And.intro is3 is4)))
  have HIM := mkH (And.intro im1 (And.intro im2 (And.intro im3 im4)))
  obtain ⟨s0, s1, s2, s3, _⟩ := cells4 hbox
  have HQ := mkH hQ
  have HHI := mkH hH
  have HBX := mkH hbox
  have HP := mkH hp
  have HA1 : Hid (Below w.heap.size w (w.alloc (.cells #[.int .i64 x0, .slice a1 n1 k1, .int .i64 x2, .slice a2 n2 k2] 41))) := mkH ((Below.refl _ _).alloc (Nat.le_refl _) _)
  clear is1 is2 is3 is4 im1 im2 im3 im4 hQ hH hbox hp
  go_wp2_with (first
    | (at_builtin; refine wpList_append_own _ rfl _ _ 46 rfl base 41 iS zeroSV 4 64 Tryz.underlying46 HIS.out.1 HIS.out.2.1 HIS.out.2.2.1 HIS.out.2.2.2 rfl (by decide) (.slice wa H.length kw) H.length (cellsW H) rfl (own_up HHI.out.was HA1.out) ⟨w.heap.size, 0, none⟩ 1 1 [.int .i64 x0, .slice a1 n1 k1, .int .i64 x2, .slice a2 n2 k2] rfl rfl (fun j u hj => World.news_of_block (heap_alloc_new _ _) j u hj) (by intro u hu; simp at hu; rcases hu with rfl | rfl | rfl | rfl <;> rfl) (by unfold maxLen; omega) (by omega) (by rw [World.size_alloc]; omega) ?_
       intro v1 w1 hown1 hg1 _
       have HO1 := mkH hown1
       have HG1 := mkH hg1
       clear hown1 hg1)
    | (at_builtin; refine wpList_append_own _ rfl _ _ 49 rfl base 47 iM (.map none) 1 8 Tryz.underlying49 HIM.out.1 HIM.out.2.1 HIM.out.2.2.1 HIM.out.2.2.2 rfl (by decide) (.slice sa H.length ks) H.length (cellsM H) rfl (own_up (row_row (own_up HHI.out.seen HA1.out) (own_up HHI.out.was HA1.out) (by decide) HG1.out) ((Below.refl _ _).alloc (Nat.le_refl _) _)) ⟨w1.heap.size, 0, none⟩ 1 1 [.map (some bc)] rfl rfl (fun j u hj => World.news_of_block (heap_alloc_new _ _) j u hj) (by intro u hu; simp at hu; subst hu; rfl) (by unfold maxLen; omega) (by omega) (by have := HG1.out.size; rw [World.size_alloc] at this ⊢; omega) ?_
       intro v2 w2 hown2 hg2 _
       have HO2 := mkH hown2
       have HG2 := mkH hg2
       clear hown2 hg2))
  obtain ⟨wa2, kw2, rfl⟩ := row_slice HO1.out
  obtain ⟨sa2, ks2, rfl⟩ := row_slice HO2.out
  have hA2 : Below w1.heap.size w1 (w1.alloc (.cells #[.map (some bc)] 47)) := (Below.refl _ _).alloc (Nat.le_refl _) _
  have hw1 := own_up HHI.out.was HA1.out
  have hs1 := row_row (own_up HHI.out.seen HA1.out) hw1 (by decide) HG1.out
  have hs2 := own_up hs1 hA2
  have hP : ∀ h, Past w h → Past w2 h := fun h p => (((p.up HA1.out).row hw1 (by decide) (by decide) (by decide) HG1.out).up hA2).row hs2 (by decide) (by decide) (by decide) HG2.out
  have b0 : Below base w (w.alloc (.cells #[.int .i64 x0, .slice a1 n1 k1, .int .i64 x2, .slice a2 n2 k2] 41)) := (Below.refl _ _).alloc hbase _
  have b1 : Below base w w1 := b0.grown HG1.out (Nat.le_trans hbase b0.size) (fun j hj => row_low hw1 hj)
  have b2 : Below base w (w1.alloc (.cells #[.map (some bc)] 47)) := b1.alloc (Nat.le_trans hbase b1.size) _
  have b3 : Below base w w2 := b2.grown HG2.out (Nat.le_trans hbase b2.size) (fun j hj => row_low hs2 hj)
  refine HQ.out _ _ _ _ _ _ _ _ wa2 kw2 sa2 ks2 w2 ⟨?_, ?_, ?_⟩ ((b3.block B hB).trans HBX.out) b3
  · have := row_row (own_up HO1.out hA2) hs2 (by decide) HG2.out
    simpa [cellsW, encS, sv] using this
  · have := HO2.out
    simpa [cellsM] using this
  · intro h hh
    rcases List.mem_append.1 hh with hh | hh
    · exact hP h (HHI.out.past h hh)
    · simp only [List.mem_singleton] at hh
      subst hh
      exact hP _ HP.out
end Go.Proofs.YtgpdojaehmdlpaaGreatDoor
