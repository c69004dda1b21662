/- LogWhole: a round. -/
import Derived.Test.YtgpdojaehmdlpaaGreatDoorTH
import Derived.Deep.RegionHeld3
import Derived.Deep.DeepCutAuto
import Derived.Deep.CutBlock
namespace Go.Proofs.YtgpdojaehmdlpaaGreatDoor
open Go.RowKit Go.Proofs Go.Lib Go.Joins Go.Maps


noncomputable def wP1 : Code := seqL wX
noncomputable def wP2 : Code := seqL (seqR wX)
noncomputable def wP3 : Code := seqL (seqR (seqR wX))
noncomputable def wP4 : Code := seqL (seqR (seqR (seqR wX)))
theorem nc_put4 {W : World} {B : Nat} {x0 : Int} {c1 c2 c3 : Value} (h : NcB W) (hx : W.heap[B]? = some (.cells #[.int .i64 x0, c1, c2, c3] 41 (0, 0))) (v0 v1 v2 v3 : Value) : NcB ((((W.setCell ⟨B, 0, none⟩ v0).setCell ⟨B, 1, none⟩ v1).setCell ⟨B, 2, none⟩ v2).setCell ⟨B, 3, none⟩ v3) := by
  have hB : B ≠ 0 := by
    rintro rfl
    obtain ⟨p0, _, _, _, _⟩ := cells4 hx
    have h4 := h.1
    rw [p0] at h4
    cases h4
  have hb : Below 1 W ((((W.setCell ⟨B, 0, none⟩ v0).setCell ⟨B, 1, none⟩ v1).setCell ⟨B, 2, none⟩ v2).setCell ⟨B, 3, none⟩ v3) := below_set4 (Below.refl _ _) (by omega) _ _ _ _
  exact ⟨(hb.cell (p := ⟨0, 0, none⟩) (Nat.lt_succ_self 0)).trans h.1, (hb.cell (p := ⟨0, 1, none⟩) (Nat.lt_succ_self 0)).trans h.2.1, (hb.cell (p := ⟨0, 2, none⟩) (Nat.lt_succ_self 0)).trans h.2.2.1, (hb.cell (p := ⟨0, 3, none⟩) (Nat.lt_succ_self 0)).trans h.2.2.2.1, (hb.cell (p := ⟨0, 4, none⟩) (Nat.lt_succ_self 0)).trans h.2.2.2.2⟩
theorem wX_eq : wX = Code.seq wP1 (Code.seq wP2 (Code.seq wP3 (Code.seq wP4 wT4))) := rfl

set_option maxHeartbeats 1600000 in
set_option maxRecDepth 1000000 in
theorem round_law (c1 c2 c7 c8 c9 c10 c11 c12 c13 c14 c15 c16 c17 c18 c19 c20 c21 c22 c23 c24 c25 c26 c27 c28 c29 c30 c31 c32 c33 c34 c35 c36 c37 c38 c39 c40 c41 c42 c43 c44 c45 c46 c47 c48 c49 c50 c51 c52 c53 c54 c55 c56 c57 c58 c59 c60 c61 c62 c63 c64 c65 c66 c67 c68 c69 c70 c71 c72 c73 c74 c75 c76 c77 c78 c79 c80 c81 c82 c83 c84 c85 c86 c87 c88 c89 c90 c91 c92 c93 c94 c95 c96 c97 c98 c99 c100 c101 c102 c103 c104 c105 c106 c107 c108 c109 c110 c111 c112 c113 c114 c115 c116 c117 c118 c119 c120 c121 c122 c123 c124 c125 c126 c127 c128 c129 c130 c131 c132 c133 c134 c135 c136 c137 c138 c139 c140 c141 c142 c143 c144 c145 c146 c147 c148 c149 c150 c151 c152 c153 c154 c155 c156 c157 c158 c159 c160 c161 c162 c163 c164 c165 c166 c167 c168 c169 c170 c171 c172 c173 c174 c175 c176 c177 c178 c179 c180 c181 c182 c183 c184 c185 c186 c187 c188 c189 c190 c191 c192 c193 c194 c195 c196 c197 c198 c199 c200 c201 c202 c203 c204 c205 c206 c207 c208 c209 c210 c211 c212 c213 c214 c215 c216 c217 : Value) (B base g o ln lc k : Nat) (H : List Was) (wa : Option Addr) (kw : Nat) (sa : Option Addr) (ks : Nat) (s : Snap) (x0 : Int) (a1 : Option Addr) (n1 k1 : Nat) (x2 : Int) (a2 : Option Addr) (n2 k2 : Nat) (tx : ByteArray) (rd : Bool) (acts : List Actn) (fa : Option Addr) (fn fc : Nat) (wr : World) (Q : Exit → Act → World → Prop)
    (hln : ln ≤ 20) (hk : k < ln) (hgl : g < wr.heap.size)
    (q0 : wr.cell? ⟨g, o + k * 3, none⟩ = some (.string tx)) (q1 : wr.cell? ⟨g, o + k * 3 + 1, none⟩ = some (.bool rd)) (q2 : wr.cell? ⟨g, o + k * 3 + 2, none⟩ = some (.slice fa fn fc))
    (hR : ActsR wr (.slice fa fn fc) acts) (hR1 : acts.length ≤ maxLen) (hR2 : tx.size ≤ maxLen)
    (hsn : SnapW wr s (.agg #[.int .i64 x0, .slice a1 n1 k1, .int .i64 x2, .slice a2 n2 k2])) (hbox : BoxS wr B x0 a1 n1 k1 x2 a2 n2 k2)
    (hgd : Good colB fitB s ∧ Named s ∧ 0 ≤ s.ver ∧ s.ver ≤ k) (hH : Hist base wr (.slice wa H.length kw) (.slice sa H.length ks) H) (hB : B + 1 = base) (hbase : base ≤ wr.heap.size) (hv : s.ver + 1 = (H.length : Int)) (hw : NcB wr)
    (hret : ∀ (d37 d38 d39 d40 d41 d42 : Value) (W : World), Below wr.heap.size wr W → Q .ret ⟨#[.slice (some ⟨g, o, none⟩) ln lc, c1, .bool true, .pointer (some ⟨B, 0, none⟩), .slice wa H.length kw, .slice sa H.length ks, .int .i64 (k : Int), c7, c8, c9, c10, c11, c12, c13, c14, c15, c16, c17, c18, c19, c20, c21, c22, c23, c24, c25, c26, c27, c28, c29, c30, c31, c32, c33, c34, c35, c36, d37, d38, d39, d40, d41, d42, c43, c44, c45, c46, c47, c48, c49, c50, c51, c52, c53, c54, c55, c56, c57, c58, c59, c60, c61, c62, c63, c64, c65, c66, c67, c68, c69, c70, c71, c72, c73, c74, c75, c76, c77, c78, c79, c80, c81, c82, c83, c84, c85, c86, c87, c88, c89, c90, c91, c92, c93, c94, c95, c96, c97, c98, c99, c100, c101, c102, c103, c104, c105, c106, c107, c108, c109, c110, c111, c112, c113, c114, c115, c116, c117, c118, c119, c120, c121, c122, c123, c124, c125, c126, c127, c128, c129, c130, c131, c132, c133, c134, c135, c136, c137, c138, c139, c140, c141, c142, c143, c144, c145, c146, c147, c148, c149, c150, c151, c152, c153, c154, c155, c156, c157, c158, c159, c160, c161, c162, c163, c164, c165, c166, c167, c168, c169, c170, c171, c172, c173, c174, c175, c176, c177, c178, c179, c180, c181, c182, c183, c184, c185, c186, c187, c188, c189, c190, c191, c192, c193, c194, c195, c196, c197, c198, c199, c200, c201, c202, c203, c204, c205, c206, c207, c208, c209, c210, c211, c212, c213, c214, c215, c216, c217], []⟩ W)
    (hexit : ∀ (d7 d8 d37 d38 d39 d40 d41 d42 d43 d44 d45 d46 d47 d48 d49 d50 d51 d52 d53 : Value) (W : World), Below wr.heap.size wr W → Q (.exit 1) ⟨#[.slice (some ⟨g, o, none⟩) ln lc, c1, c2, .pointer (some ⟨B, 0, none⟩), .slice wa H.length kw, .slice sa H.length ks, .int .i64 (k : Int), d7, d8, c9, c10, c11, c12, c13, c14, c15, c16, c17, c18, c19, c20, c21, c22, c23, c24, c25, c26, c27, c28, c29, c30, c31, c32, c33, c34, c35, c36, d37, d38, d39, d40, d41, d42, d43, d44, d45, d46, d47, d48, d49, d50, d51, d52, d53, c54, c55, c56, c57, c58, c59, c60, c61, c62, c63, c64, c65, c66, c67, c68, c69, c70, c71, c72, c73, c74, c75, c76, c77, c78, c79, c80, c81, c82, c83, c84, c85, c86, c87, c88, c89, c90, c91, c92, c93, c94, c95, c96, c97, c98, c99, c100, c101, c102, c103, c104, c105, c106, c107, c108, c109, c110, c111, c112, c113, c114, c115, c116, c117, c118, c119, c120, c121, c122, c123, c124, c125, c126, c127, c128, c129, c130, c131, c132, c133, c134, c135, c136, c137, c138, c139, c140, c141, c142, c143, c144, c145, c146, c147, c148, c149, c150, c151, c152, c153, c154, c155, c156, c157, c158, c159, c160, c161, c162, c163, c164, c165, c166, c167, c168, c169, c170, c171, c172, c173, c174, c175, c176, c177, c178, c179, c180, c181, c182, c183, c184, c185, c186, c187, c188, c189, c190, c191, c192, c193, c194, c195, c196, c197, c198, c199, c200, c201, c202, c203, c204, c205, c206, c207, c208, c209, c210, c211, c212, c213, c214, c215, c216, c217], []⟩ W)
    (hok : ∀ (d2 d7 d8 d9 d10 d11 d12 d13 d14 d15 d16 d17 d18 d19 d20 d37 d38 d39 d40 d41 d42 d43 d44 d45 d46 d47 d48 d49 d50 d51 d52 d53 d54 d55 d56 d57 d58 d59 d60 d61 d62 d63 d64 d65 d66 d67 d68 d69 d70 d71 d72 d73 d74 d75 d76 d77 d78 d79 d80 d81 d82 d83 d84 d85 d86 d87 d88 d89 d90 d91 d92 d93 d94 d95 d96 d97 d98 d99 d100 d101 d102 d103 d104 d105 d106 d107 d108 d109 d110 d111 d112 d113 d114 d115 d116 d117 d118 d119 d120 d121 d122 d123 d124 d125 d126 d127 d128 d129 d130 d131 d132 d133 d134 d135 d136 d137 d138 d139 d140 d141 d142 d143 d144 d145 d146 d147 d148 d149 d150 d151 d152 d153 d154 d155 d156 d157 d158 d159 d160 d161 d162 d163 d164 d165 d166 d167 d168 d169 d170 d171 d172 d173 d174 d175 d176 d177 d178 d179 d180 d181 d182 d183 d184 d185 d186 d187 d188 d189 d190 d191 d192 d193 d194 d195 d196 d197 d198 d199 d200 d201 d202 d203 d204 d205 d206 d207 d208 d209 d210 d211 d212 d213 d214 d215 d216 d217 : Value) (wa2 : Option Addr) (kw2 : Nat) (sa2 : Option Addr) (ks2 bc : Nat) (t : Snap) (b1 : Option Addr) (m1 e1 : Nat) (y2 : Int) (b2 : Option Addr) (m2 e2 : Nat) (W : World), AppliesL s (tx, rd, acts) t → SnapW W t (.agg #[.int .i64 (H.length : Int), .slice b1 m1 e1, .int .i64 y2, .slice b2 m2 e2]) → BoxS W B (H.length : Int) b1 m1 e1 y2 b2 m2 e2 → Hist base W (.slice wa2 (H.length + 1) kw2) (.slice sa2 (H.length + 1) ks2) (H ++ [(t, ((H.length : Int), (b1, m1, e1), y2, (b2, m2, e2)), bc)]) → Below B wr W → Q .normal ⟨#[.slice (some ⟨g, o, none⟩) ln lc, c1, d2, .pointer (some ⟨B, 0, none⟩), .slice wa2 (H.length + 1) kw2, .slice sa2 (H.length + 1) ks2, .int .i64 (k : Int), d7, d8, d9, d10, d11, d12, d13, d14, d15, d16, d17, d18, d19, d20, c21, c22, c23, c24, c25, c26, c27, c28, c29, c30, c31, c32, c33, c34, c35, c36, d37, d38, d39, d40, d41, d42, d43, d44, d45, d46, d47, d48, d49, d50, d51, d52, d53, d54, d55, d56, d57, d58, d59, d60, d61, d62, d63, d64, d65, d66, d67, d68, d69, d70, d71, d72, d73, d74, d75, d76, d77, d78, d79, d80, d81, d82, d83, d84, d85, d86, d87, d88, d89, d90, d91, d92, d93, d94, d95, d96, d97, d98, d99, d100, d101, d102, d103, d104, d105, d106, d107, d108, d109, d110, d111, d112, d113, d114, d115, d116, d117, d118, d119, d120, d121, d122, d123, d124, d125, d126, d127, d128, d129, d130, d131, d132, d133, d134, d135, d136, d137, d138, d139, d140, d141, d142, d143, d144, d145, d146, d147, d148, d149, d150, d151, d152, d153, d154, d155, d156, d157, d158, d159, d160, d161, d162, d163, d164, d165, d166, d167, d168, d169, d170, d171, d172, d173, d174, d175, d176, d177, d178, d179, d180, d181, d182, d183, d184, d185, d186, d187, d188, d189, d190, d191, d192, d193, d194, d195, d196, d197, d198, d199, d200, d201, d202, d203, d204, d205, d206, d207, d208, d209, d210, d211, d212, d213, d214, d215, d216, d217], []⟩ W) :
    Code.wp Tryz.prog wX Q ⟨#[.slice (some ⟨g, o, none⟩) ln lc, c1, c2, .pointer (some ⟨B, 0, none⟩), .slice wa H.length kw, .slice sa H.length ks, .int .i64 (k : Int), c7, c8, c9, c10, c11, c12, c13, c14, c15, c16, c17, c18, c19, c20, c21, c22, c23, c24, c25, c26, c27, c28, c29, c30, c31, c32, c33, c34, c35, c36, c37, c38, c39, c40, c41, c42, c43, c44, c45, c46, c47, c48, c49, c50, c51, c52, c53, c54, c55, c56, c57, c58, c59, c60, c61, c62, c63, c64, c65, c66, c67, c68, c69, c70, c71, c72, c73, c74, c75, c76, c77, c78, c79, c80, c81, c82, c83, c84, c85, c86, c87, c88, c89, c90, c91, c92, c93, c94, c95, c96, c97, c98, c99, c100, c101, c102, c103, c104, c105, c106, c107, c108, c109, c110, c111, c112, c113, c114, c115, c116, c117, c118, c119, c120, c121, c122, c123, c124, c125, c126, c127, c128, c129, c130, c131, c132, c133, c134, c135, c136, c137, c138, c139, c140, c141, c142, c143, c144, c145, c146, c147, c148, c149, c150, c151, c152, c153, c154, c155, c156, c157, c158, c159, c160, c161, c162, c163, c164, c165, c166, c167, c168, c169, c170, c171, c172, c173, c174, c175, c176, c177, c178, c179, c180, c181, c182, c183, c184, c185, c186, c187, c188, c189, c190, c191, c192, c193, c194, c195, c196, c197, c198, c199, c200, c201, c202, c203, c204, c205, c206, c207, c208, c209, c210, c211, c212, c213, c214, c215, c216, c217], []⟩ wr := by
  have hkz : (k : Int) < (ln : Int) := by omega
  have hB' : B < base := by omega
  have HSK := mkH (short_any tx rd acts fa fn fc wr hR hR1 hR2)
  have after : ∀ (b7 : Nat) (er : Value) (e37 e38 e39 e40 e41 e42 e43 e44 e45 e46 e47 e48 e49 e50 e51 : Value) (y0 : Int) (b1 : Option Addr) (m1 d1 : Nat) (y2 : Int) (b2 : Option Addr) (m2 d2 : Nat) (W : World), wr.heap.size ≤ b7 → W.heap[b7]? = some (.cells #[.int .i64 y0, .slice b1 m1 d1, .int .i64 y2, .slice b2 m2 d2] 41 (0, 0)) → ApOut s (tx, rd, acts) y0 b1 m1 d1 y2 b2 m2 d2 er W → Below wr.heap.size wr W → Code.wp Tryz.prog (Code.seq wP3 (Code.seq wP4 wT4)) Q ⟨#[.slice (some ⟨g, o, none⟩) ln lc, c1, c2, .pointer (some ⟨B, 0, none⟩), .slice wa H.length kw, .slice sa H.length ks, .int .i64 (k : Int), .pointer (some ⟨b7, 0, none⟩), er, c9, c10, c11, c12, c13, c14, c15, c16, c17, c18, c19, c20, c21, c22, c23, c24, c25, c26, c27, c28, c29, c30, c31, c32, c33, c34, c35, c36, e37, e38, e39, e40, e41, e42, e43, e44, e45, e46, e47, e48, e49, e50, e51, c52, c53, c54, c55, c56, c57, c58, c59, c60, c61, c62, c63, c64, c65, c66, c67, c68, c69, c70, c71, c72, c73, c74, c75, c76, c77, c78, c79, c80, c81, c82, c83, c84, c85, c86, c87, c88, c89, c90, c91, c92, c93, c94, c95, c96, c97, c98, c99, c100, c101, c102, c103, c104, c105, c106, c107, c108, c109, c110, c111, c112, c113, c114, c115, c116, c117, c118, c119, c120, c121, c122, c123, c124, c125, c126, c127, c128, c129, c130, c131, c132, c133, c134, c135, c136, c137, c138, c139, c140, c141, c142, c143, c144, c145, c146, c147, c148, c149, c150, c151, c152, c153, c154, c155, c156, c157, c158, c159, c160, c161, c162, c163, c164, c165, c166, c167, c168, c169, c170, c171, c172, c173, c174, c175, c176, c177, c178, c179, c180, c181, c182, c183, c184, c185, c186, c187, c188, c189, c190, c191, c192, c193, c194, c195, c196, c197, c198, c199, c200, c201, c202, c203, c204, c205, c206, c207, c208, c209, c210, c211, c212, c213, c214, c215, c216, c217], []⟩ W := by
    intro b7 er e37 e38 e39 e40 e41 e42 e43 e44 e45 e46 e47 e48 e49 e50 e51 y0 b1 m1 d1 y2 b2 m2 d2 W hb7 hx7 hao hbW
    refine wp_seq ?_
    conv => arg 2; whnf
    have HXM := mkH ((hbW.block B (blk_lt hbox)).trans hbox)
    have HX7 := mkH hx7
    have HBW := mkH hbW
    have HE := mkH hexit
    have HO := mkH hok
    have HHM := mkH (hH.up hbW)
    have HGD := mkH hgd
    have HNW := mkH (hw.below hbW)
    obtain ⟨rfl, t, hap, hst⟩ | ⟨ty, xx, rfl, _⟩ := hao
    case inr =>
      clear hx7 hbW hexit hok hH hsn hbox hR hret
      go_wp2_with fail
      exact HE.out _ _ _ _ _ _ _ _ _ _ _ _ _ _ _ _ _ _ _ W HBW.out
    have HAP := mkH hap
    have HST := mkH hst
    have hvt : t.ver = (H.length : Int) := by have := applies_ver hap; omega
    have ey' : y0 = (H.length : Int) := hst.vals.1.trans hvt
    subst ey'
    clear hvt
    obtain ⟨s0, s1, s2, s3, _⟩ := cells4 HX7.out
    obtain ⟨_, _, _, _, gf⟩ := cells4 HXM.out
    have gf0 := gf 0
    have gf1 := gf 1
    have gf2 := gf 2
    have gf3 := gf 3
    have hBlt := blk_lt hbox
    have ne7 : b7 ≠ B := by omega
    have HSZ : Hid (base ≤ W.heap.size) := mkH (Nat.le_trans hbase hbW.size)
    clear gf hx7 hbW hexit hok hH hsn hbox hR hret hap hst hgd hw
    go_wp2_with fail
    conv => arg 2; whnf
    go_wp2_with fail
    have HPT := mkH (put4 W B _ _ _ _ (.int .i64 (H.length : Int)) (.slice b1 m1 d1) (.int .i64 y2) (.slice b2 m2 d2) _ HXM.out)
    have HSD := mkH (HST.out.put HXM.out HPT.out.2)
    have HHD := mkH (HHM.out.put HXM.out hB' HPT.out.2)
    have HND : Hid (Below W.heap.size W W) := mkH (Below.refl _ _)
    have HNC2 : Hid (NcB ((((W.setCell ⟨B, 0, none⟩ (.int .i64 (H.length : Int))).setCell ⟨B, 1, none⟩ (.slice b1 m1 d1)).setCell ⟨B, 2, none⟩ (.int .i64 y2)).setCell ⟨B, 3, none⟩ (.slice b2 m2 d2))) := mkH (nc_put4 HNW.out HXM.out _ _ _ _)
    have HBD : Hid (Below B wr ((((W.setCell ⟨B, 0, none⟩ (.int .i64 (H.length : Int))).setCell ⟨B, 1, none⟩ (.slice b1 m1 d1)).setCell ⟨B, 2, none⟩ (.int .i64 y2)).setCell ⟨B, 3, none⟩ (.slice b2 m2 d2))) := mkH (below_set4 (HBW.out.mono (Nat.le_of_lt hBlt)) (Nat.le_refl _) _ _ _ _)
    have HSZ2 := HPT.out.2.size
    generalize (((W.setCell ⟨B, 0, none⟩ (.int .i64 (H.length : Int))).setCell ⟨B, 1, none⟩ (.slice b1 m1 d1)).setCell ⟨B, 2, none⟩ (.int .i64 y2)).setCell ⟨B, 3, none⟩ (.slice b2 m2 d2) = wd at *
    obtain ⟨hg2, hn2, _⟩ := next_good HAP.out HGD.out
    have hv0 := HGD.out.2.2.2
    show Code.wp Tryz.prog wT4 Q _ wd
    refine tail_ok _ _ _ _ _ _ _ _ _ _ _ _ _ _ _ _ _ _ _ _ _ _ _ _ _ _ _ _ _ _ _ _ _ _ _ _ _ _ _ _ _ _ _ _ _ _ _ _ _ _ _ _ _ _ _ _ _ _ _ _ _ _ _ _ _ _ _ _ _ _ _ _ _ _ _ _ _ _ _ _ _ _ _ _ _ _ _ _ _ _ _ _ _ _ _ _ _ _ _ _ _ _ _ _ _ _ _ _ _ _ _ _ _ _ _ _ _ _ _ _ _ _ _ _ _ _ _ _ _ _ _ _ _ _ _ _ _ _ _ _ _ _ _ _ _ _ _ _ _ _ _ _ _ _ _ _ _ _ _ _ _ _ _ _ _ _ _ _ _ _ _ _ _ _ _ _ _ _ _ _ _ _ _ _ _ _ _ _ _ _ _ _ _ _ _ _ _ _ _ _ _ _ _ _ _ _ _ _ _ _ _ _ _ _ _ B base H wa kw sa ks t b1 m1 d1 y2 b2 m2 d2 wd Q HHD.out HPT.out.1 hB' (Nat.le_trans HSZ.out HSZ2) HSD.out hg2 hn2 (by omega) HNC2.out ?_
    intro z2 z9 z10 z11 z12 z13 z14 z15 z16 z17 z18 z19 z20 z55 z56 z57 z58 z59 z60 z61 z62 z63 z64 z65 z66 z67 z68 z69 z70 z71 z72 z73 z74 z75 z76 z77 z78 z79 z80 z81 z82 z83 z84 z85 z86 z87 z88 z89 z90 z91 z92 z93 z94 z95 z96 z97 z98 z99 z100 z101 z102 z103 z104 z105 z106 z107 z108 z109 z110 z111 z112 z113 z114 z115 z116 z117 z118 z119 z120 z121 z122 z123 z124 z125 z126 z127 z128 z129 z130 z131 z132 z133 z134 z135 z136 z137 z138 z139 z140 z141 z142 z143 z144 z145 z146 z147 z148 z149 z150 z151 z152 z153 z154 z155 z156 z157 z158 z159 z160 z161 z162 z163 z164 z165 z166 z167 z168 z169 z170 z171 z172 z173 z174 z175 z176 z177 z178 z179 z180 z181 z182 z183 z184 z185 z186 z187 z188 z189 z190 z191 z192 z193 z194 z195 z196 z197 z198 z199 z200 z201 z202 z203 z204 z205 z206 z207 z208 z209 z210 z211 z212 z213 z214 z215 z216 z217 wa2 kw2 sa2 ks2 bc W2 hH2 hbox2 hb2
    exact HO.out _ _ _ _ _ _ _ _ _ _ _ _ _ _ _ _ _ _ _ _ _ _ _ _ _ _ _ _ _ _ _ _ _ _ _ _ _ _ _ _ _ _ _ _ _ _ _ _ _ _ _ _ _ _ _ _ _ _ _ _ _ _ _ _ _ _ _ _ _ _ _ _ _ _ _ _ _ _ _ _ _ _ _ _ _ _ _ _ _ _ _ _ _ _ _ _ _ _ _ _ _ _ _ _ _ _ _ _ _ _ _ _ _ _ _ _ _ _ _ _ _ _ _ _ _ _ _ _ _ _ _ _ _ _ _ _ _ _ _ _ _ _ _ _ _ _ _ _ _ _ _ _ _ _ _ _ _ _ _ _ _ _ _ _ _ _ _ _ _ _ _ _ _ _ _ _ _ _ _ _ _ _ _ _ _ _ _ _ _ _ _ _ _ _ _ _ wa2 kw2 sa2 ks2 bc t b1 m1 d1 y2 b2 m2 d2 W2 HAP.out ((hH2.past (t, ((H.length : Int), (b1, m1, d1), y2, (b2, m2, d2)), bc) (by simp)).snap) hbox2 hH2 (HBD.out.trans (hb2.mono (by omega)))
  rw [wX_eq]
  refine wp_seq ?_
  conv => arg 2; whnf
  have HA := mkH after
  have HRT := mkH hret
  clear after hret hexit hok
  cases hsk : shortB (tx, rd, acts) with
  | false =>
    rw [hsk] at HSK
    clear hsn hbox hH hR hgd hw
    go_wp2_with (first
      | (go_at_call 7; refine HSK.out.mono ?_; rintro e w6 ⟨rfl, hb6⟩))
    exact HRT.out _ _ _ _ _ _ w6 hb6
  | true =>
    rw [hsk] at HSK
    have HPK := mkH (short_parts hsk)
    have HSN := mkH hsn
    have HBX := mkH hbox
    have HGD := mkH hgd
    have HR := mkH hR
    have HR2 := mkH hR2
    have HNC := mkH hw
    obtain ⟨s0, s1, s2, s3, _⟩ := cells4 hbox
    have hBlt := blk_lt hbox
    clear hsk hsn hbox hH hR hgd hw HRT
    go_wp2_with (first
      | (go_at_call 7; refine HSK.out.mono ?_; rintro e w6 ⟨rfl, hb6⟩))
    have HB6 := mkH hb6
    have hb6s := hb6.size
    have HS6 : Hid (∀ W, Below w6.heap.size w6 W → W.cell? ⟨B, 0, none⟩ = some (.int .i64 x0) ∧ W.cell? ⟨B, 1, none⟩ = some (.slice a1 n1 k1) ∧ W.cell? ⟨B, 2, none⟩ = some (.int .i64 x2) ∧ W.cell? ⟨B, 3, none⟩ = some (.slice a2 n2 k2) ∧ W.cell? ⟨g, o + k * 3, none⟩ = some (.string tx) ∧ W.cell? ⟨g, o + k * 3 + 1, none⟩ = some (.bool rd) ∧ W.cell? ⟨g, o + k * 3 + 2, none⟩ = some (.slice fa fn fc)) := mkH (fun W hW => by
      have hu := Below.ups HB6.out hW
      exact ⟨(hu.cell (p := ⟨B, 0, none⟩) hBlt).trans s0, (hu.cell (p := ⟨B, 1, none⟩) hBlt).trans s1, (hu.cell (p := ⟨B, 2, none⟩) hBlt).trans s2, (hu.cell (p := ⟨B, 3, none⟩) hBlt).trans s3, (hu.cell (p := ⟨g, o + k * 3, none⟩) hgl).trans q0, (hu.cell (p := ⟨g, o + k * 3 + 1, none⟩) hgl).trans q1, (hu.cell (p := ⟨g, o + k * 3 + 2, none⟩) hgl).trans q2⟩)
    have HAK : Hid (∀ W, Below w6.heap.size w6 W → Calls Tryz.prog 14 #[.agg #[.int .i64 x0, .slice a1 n1 k1, .int .i64 x2, .slice a2 n2 k2], .agg #[.string tx, .bool rd, .slice fa fn fc]] W fun e w' => ∃ x0 a1 n1 c1 x2 a2 n2 c2 er, e = .returned (.tuple #[.agg #[.int .i64 x0, .slice a1 n1 c1, .int .i64 x2, .slice a2 n2 c2], er]) ∧ Below W.heap.size W w' ∧ ApOut s (tx, rd, acts) x0 a1 n1 c1 x2 a2 n2 c2 er w') := mkH (fun W hW => by
      have hu := Below.ups HB6.out hW
      exact apply_out s _ tx rd acts fa fn fc W (HSN.out.up hu) HGD.out.1 HGD.out.2.2.1 (by have := HGD.out.2.2.2; omega) ((HR.out.below hu).short HPK.out.2.2) (Nat.le_trans HPK.out.2.1 (by decide)) HR2.out (HNC.out.below hu))
    have HBL : Hid (Below w6.heap.size w6 w6.drew) := mkH (Below.refl _ _).drew
    have HBZ : Hid (Below w6.heap.size w6 (w6.alloc (.cells #[.int .i64 0, .slice none 0 0, .int .i64 0, .slice none 0 0] 41)).drew) := mkH ((Below.refl _ _).alloc (Nat.le_refl _) _).drew
    have HZX : Hid ((w6.alloc (.cells #[.int .i64 0, .slice none 0 0, .int .i64 0, .slice none 0 0] 41)).drew.heap[w6.heap.size]? = some (.cells #[.int .i64 0, .slice none 0 0, .int .i64 0, .slice none 0 0] 41)) := mkH (heap_alloc_new w6 _)
    clear hb6 s0 s1 s2 s3 q0 q1 q2 HSK
    have HKK := mkH ‹∀ (a : Act) (w : World), Code.wp Tryz.prog (Code.seq wP3 (Code.seq wP4 wT4)) Q a w → _›
    conv => arg 2; whnf
    go_region_held3 (fun W => W.cell? ⟨B, 0, none⟩ = some (.int .i64 x0) ∧ W.cell? ⟨B, 1, none⟩ = some (.slice a1 n1 k1) ∧ W.cell? ⟨B, 2, none⟩ = some (.int .i64 x2) ∧ W.cell? ⟨B, 3, none⟩ = some (.slice a2 n2 k2) ∧ W.cell? ⟨g, o + k * 3, none⟩ = some (.string tx) ∧ W.cell? ⟨g, o + k * 3 + 1, none⟩ = some (.bool rd) ∧ W.cell? ⟨g, o + k * 3 + 2, none⟩ = some (.slice fa fn fc))
      (first
        | exact HS6.out _ HBL.out
        | exact HS6.out _ (HBL.out.alloc HBL.out.size _)
        | exact HS6.out _ HBZ.out
        | exact HS6.out _ ((((HBL.out.setCell (p := ⟨w6.heap.size, 0, none⟩) (Nat.le_refl _) _).setCell (p := ⟨w6.heap.size, 1, none⟩) (Nat.le_refl _) _).setCell (p := ⟨w6.heap.size, 2, none⟩) (Nat.le_refl _) _).setCell (p := ⟨w6.heap.size, 3, none⟩) (Nat.le_refl _) _)
        | (go_keep; done)
        | fail)
      (first
        | (go_at_call 14; refine (HAK.out _ HBZ.out).mono ?_; rintro e w7 ⟨y0, b1, m1, d1, y2, b2, m2, d2, er, rfl, hb7, hao⟩; replace HBL := mkH (Below.ups HBZ.out hb7); have HAO := mkH hao; have HZ9 := mkH ((hb7.block w6.heap.size (blk_lt HZX.out)).trans HZX.out); obtain ⟨_, _, _, _, zf⟩ := cells4 HZ9.out; have zf0 := zf 0; have zf1 := zf 1; have zf2 := zf 2; have zf3 := zf 3; clear hb7 hao zf)
        | (go_at_call 14; refine (HAK.out _ HBL.out).mono ?_; rintro e w7 ⟨y0, b1, m1, d1, y2, b2, m2, d2, er, rfl, hb7, hao⟩; replace HBL := mkH (Below.ups HBL.out hb7); have HAO := mkH hao; clear hb7 hao)
        | fail)
    · refine HKK.out _ _ ?_
      exact HA.out _ _ _ _ _ _ _ _ _ _ _ _ _ _ _ _ _ y0 b1 m1 d1 y2 b2 m2 d2 _ (Nat.le_trans hb6s HBL.out.size) (heap_alloc_new w7 _) (HAO.out.move (fun t v h => h.up ((Below.refl _ _).alloc (Nat.le_refl _) _))) (Below.ups HB6.out (HBL.out.alloc HBL.out.size _))
    · refine HKK.out _ _ ?_
      exact HA.out _ _ _ _ _ _ _ _ _ _ _ _ _ _ _ _ _ y0 b1 m1 d1 y2 b2 m2 d2 _ hb6s (put4 w7 w6.heap.size _ _ _ _ _ _ _ _ _ HZ9.out).1 (HAO.out.move (fun t v h => h.put HZ9.out (put4 w7 w6.heap.size _ _ _ _ _ _ _ _ _ HZ9.out).2)) (Below.ups HB6.out (below_set4 HBL.out (Nat.le_refl _) _ _ _ _))
end Go.Proofs.YtgpdojaehmdlpaaGreatDoor
