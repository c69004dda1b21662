/- LogWhole: behind each table that came. -/
import Derived.Test.YtgpdojaehmdlpaaGreatDoorTD
import Derived.Test.YtgpdojaehmdlpaaGreatDoorTC
import Derived.Test.YtgpdojaehmdlpaaGreatDoorTF
import Derived.Test.YtgpdojaehmdlpaaGreatDoorTG
import Derived.Deep.RegionHeld3
import Derived.Deep.DeepCutAuto
import Derived.Deep.CutBlock
namespace Go.Proofs.YtgpdojaehmdlpaaGreatDoor
open Go.RowKit Go.Proofs Go.Lib Go.Joins Go.Maps


theorem t4_eq : wT4 = Code.seq wP5 wT5 := rfl
theorem t5_eq : wT5 = Code.seq wP6 wT6 := rfl
theorem t6_eq : wT6 = Code.seq wP7 wT7 := rfl
theorem t7_eq : wT7 = Code.seq wP8 wT8 := rfl
theorem t8_eq : wT8 = Code.seq wP9 wT9 := rfl
theorem map_new (W : World) : SetAt (W.alloc (.map #[] 0)) W.heap.size 0 [] := ⟨.map [], World.ownsMap_made W _ _ _, fun p => rfl, (fun x hx => (by cases hx)), rfl⟩

set_option maxHeartbeats 1600000 in
set_option maxRecDepth 1000000 in
theorem tail_ok (c0 c1 c2 c6 c7 c8 c9 c10 c11 c12 c13 c14 c15 c16 c17 c18 c19 c20 c21 c22 c23 c24 c25 c26 c27 c28 c29 c30 c31 c32 c33 c34 c35 c36 c37 c38 c39 c40 c41 c42 c43 c44 c45 c46 c47 c48 c49 c50 c51 c52 c53 c54 c55 c56 c57 c58 c59 c60 c61 c62 c63 c64 c65 c66 c67 c68 c69 c70 c71 c72 c73 c74 c75 c76 c77 c78 c79 c80 c81 c82 c83 c84 c85 c86 c87 c88 c89 c90 c91 c92 c93 c94 c95 c96 c97 c98 c99 c100 c101 c102 c103 c104 c105 c106 c107 c108 c109 c110 c111 c112 c113 c114 c115 c116 c117 c118 c119 c120 c121 c122 c123 c124 c125 c126 c127 c128 c129 c130 c131 c132 c133 c134 c135 c136 c137 c138 c139 c140 c141 c142 c143 c144 c145 c146 c147 c148 c149 c150 c151 c152 c153 c154 c155 c156 c157 c158 c159 c160 c161 c162 c163 c164 c165 c166 c167 c168 c169 c170 c171 c172 c173 c174 c175 c176 c177 c178 c179 c180 c181 c182 c183 c184 c185 c186 c187 c188 c189 c190 c191 c192 c193 c194 c195 c196 c197 c198 c199 c200 c201 c202 c203 c204 c205 c206 c207 c208 c209 c210 c211 c212 c213 c214 c215 c216 c217 : Value) (B base : Nat) (H : List Was) (wa : Option Addr) (kw : Nat) (sa : Option Addr) (ks : Nat) (t : Snap) (a1 : Option Addr) (n1 k1 : Nat) (x2 : Int) (a2 : Option Addr) (n2 k2 : Nat) (w : World) (Q : Exit → Act → World → Prop)
    (hH : Hist base w (.slice wa H.length kw) (.slice sa H.length ks) H) (hbox : BoxS w B (H.length : Int) a1 n1 k1 x2 a2 n2 k2) (hB : B < base) (hbase : base ≤ w.heap.size) (hs : SnapW w t (.agg #[.int .i64 (H.length : Int), .slice a1 n1 k1, .int .i64 x2, .slice a2 n2 k2])) (hg : Good colB fitB t) (hnm : Named t) (hl : H.length ≤ 900) (hw : NcB w)
    (hQ : ∀ (d2 d9 d10 d11 d12 d13 d14 d15 d16 d17 d18 d19 d20 d55 d56 d57 d58 d59 d60 d61 d62 d63 d64 d65 d66 d67 d68 d69 d70 d71 d72 d73 d74 d75 d76 d77 d78 d79 d80 d81 d82 d83 d84 d85 d86 d87 d88 d89 d90 d91 d92 d93 d94 d95 d96 d97 d98 d99 d100 d101 d102 d103 d104 d105 d106 d107 d108 d109 d110 d111 d112 d113 d114 d115 d116 d117 d118 d119 d120 d121 d122 d123 d124 d125 d126 d127 d128 d129 d130 d131 d132 d133 d134 d135 d136 d137 d138 d139 d140 d141 d142 d143 d144 d145 d146 d147 d148 d149 d150 d151 d152 d153 d154 d155 d156 d157 d158 d159 d160 d161 d162 d163 d164 d165 d166 d167 d168 d169 d170 d171 d172 d173 d174 d175 d176 d177 d178 d179 d180 d181 d182 d183 d184 d185 d186 d187 d188 d189 d190 d191 d192 d193 d194 d195 d196 d197 d198 d199 d200 d201 d202 d203 d204 d205 d206 d207 d208 d209 d210 d211 d212 d213 d214 d215 d216 d217 : Value) (wa2 : Option Addr) (kw2 : Nat) (sa2 : Option Addr) (ks2 bc : Nat) (W : World), Hist base W (.slice wa2 (H.length + 1) kw2) (.slice sa2 (H.length + 1) ks2) (H ++ [(t, ((H.length : Int), (a1, n1, k1), x2, (a2, n2, k2)), bc)]) → BoxS W B (H.length : Int) a1 n1 k1 x2 a2 n2 k2 → Below base w W → Q .normal ⟨#[c0, c1, d2, .pointer (some ⟨B, 0, none⟩), .slice wa2 (H.length + 1) kw2, .slice sa2 (H.length + 1) ks2, c6, c7, c8, d9, d10, d11, d12, d13, d14, d15, d16, d17, d18, d19, d20, c21, c22, c23, c24, c25, c26, c27, c28, c29, c30, c31, c32, c33, c34, c35, c36, c37, c38, c39, c40, c41, c42, c43, c44, c45, c46, c47, c48, c49, c50, c51, c52, c53, c54, d55, d56, d57, d58, d59, d60, d61, d62, d63, d64, d65, d66, d67, d68, d69, d70, d71, d72, d73, d74, d75, d76, d77, d78, d79, d80, d81, d82, d83, d84, d85, d86, d87, d88, d89, d90, d91, d92, d93, d94, d95, d96, d97, d98, d99, d100, d101, d102, d103, d104, d105, d106, d107, d108, d109, d110, d111, d112, d113, d114, d115, d116, d117, d118, d119, d120, d121, d122, d123, d124, d125, d126, d127, d128, d129, d130, d131, d132, d133, d134, d135, d136, d137, d138, d139, d140, d141, d142, d143, d144, d145, d146, d147, d148, d149, d150, d151, d152, d153, d154, d155, d156, d157, d158, d159, d160, d161, d162, d163, d164, d165, d166, d167, d168, d169, d170, d171, d172, d173, d174, d175, d176, d177, d178, d179, d180, d181, d182, d183, d184, d185, d186, d187, d188, d189, d190, d191, d192, d193, d194, d195, d196, d197, d198, d199, d200, d201, d202, d203, d204, d205, d206, d207, d208, d209, d210, d211, d212, d213, d214, d215, d216, d217], []⟩ W) :
    Code.wp Tryz.prog wT4 Q ⟨#[c0, c1, c2, .pointer (some ⟨B, 0, none⟩), .slice wa H.length kw, .slice sa H.length ks, c6, c7, c8, c9, c10, c11, c12, c13, c14, c15, c16, c17, c18, c19, c20, c21, c22, c23, c24, c25, c26, c27, c28, c29, c30, c31, c32, c33, c34, c35, c36, c37, c38, c39, c40, c41, c42, c43, c44, c45, c46, c47, c48, c49, c50, c51, c52, c53, c54, c55, c56, c57, c58, c59, c60, c61, c62, c63, c64, c65, c66, c67, c68, c69, c70, c71, c72, c73, c74, c75, c76, c77, c78, c79, c80, c81, c82, c83, c84, c85, c86, c87, c88, c89, c90, c91, c92, c93, c94, c95, c96, c97, c98, c99, c100, c101, c102, c103, c104, c105, c106, c107, c108, c109, c110, c111, c112, c113, c114, c115, c116, c117, c118, c119, c120, c121, c122, c123, c124, c125, c126, c127, c128, c129, c130, c131, c132, c133, c134, c135, c136, c137, c138, c139, c140, c141, c142, c143, c144, c145, c146, c147, c148, c149, c150, c151, c152, c153, c154, c155, c156, c157, c158, c159, c160, c161, c162, c163, c164, c165, c166, c167, c168, c169, c170, c171, c172, c173, c174, c175, c176, c177, c178, c179, c180, c181, c182, c183, c184, c185, c186, c187, c188, c189, c190, c191, c192, c193, c194, c195, c196, c197, c198, c199, c200, c201, c202, c203, c204, c205, c206, c207, c208, c209, c210, c211, c212, c213, c214, c215, c216, c217], []⟩ w := by
  obtain ⟨e0, e1, e2, e3, L, eL, hV⟩ := hs.vals
  have h40 : n2 ≤ 40 := by rw [e3]; exact hg.few
  have hst : ∀ W, Below w.heap.size w W → Calls Tryz.prog 17 #[.agg #[.int .i64 (H.length : Int), .slice a1 n1 k1, .int .i64 x2, .slice a2 n2 k2]] W (SetPost W L) := fun W hW => by
    have := set_any t a1 n1 k1 a2 k2 L W (by have := hV.up hW; rw [← eL] at this; exact this) (by omega) (fun e he => by have := hnm e.1 (by rw [hV.files]; exact List.mem_map_of_mem he); unfold maxLen; omega) (names_map hV.files hg)
    rw [← e2, ← e0, eL] at this
    exact this
  have hgm : ∀ e ∈ L, Rising (-1) e.1.2.1 e.1.2.2 ∧ e.1.2.2.length ≤ 100 := fun e he => by
    have hm : e.1 ∈ t.files := by rw [hV.files]; exact List.mem_map_of_mem he
    exact ⟨hg.masks e.1 hm, by have := good_mask_len hg hm; omega⟩
  have hnd := names_map hV.files hg
  have rest5 : ∀ (f2 f55 f56 f57 f58 f59 f60 f61 f62 f63 f64 f65 f66 f67 f68 f69 f70 f71 f72 f73 f74 f75 f76 f77 f78 f79 f80 f81 f82 f83 f84 f85 f86 f87 f88 : Value) (W5 : World), Below w.heap.size w W5 → Code.wp Tryz.prog wT5 Q ⟨#[c0, c1, f2, .pointer (some ⟨B, 0, none⟩), .slice wa H.length kw, .slice sa H.length ks, c6, c7, c8, c9, c10, c11, c12, c13, c14, c15, c16, c17, c18, c19, c20, c21, c22, c23, c24, c25, c26, c27, c28, c29, c30, c31, c32, c33, c34, c35, c36, c37, c38, c39, c40, c41, c42, c43, c44, c45, c46, c47, c48, c49, c50, c51, c52, c53, c54, f55, f56, f57, f58, f59, f60, f61, f62, f63, f64, f65, f66, f67, f68, f69, f70, f71, f72, f73, f74, f75, f76, f77, f78, f79, f80, f81, f82, f83, f84, f85, f86, f87, f88, c89, c90, c91, c92, c93, c94, c95, c96, c97, c98, c99, c100, c101, c102, c103, c104, c105, c106, c107, c108, c109, c110, c111, c112, c113, c114, c115, c116, c117, c118, c119, c120, c121, c122, c123, c124, c125, c126, c127, c128, c129, c130, c131, c132, c133, c134, c135, c136, c137, c138, c139, c140, c141, c142, c143, c144, c145, c146, c147, c148, c149, c150, c151, c152, c153, c154, c155, c156, c157, c158, c159, c160, c161, c162, c163, c164, c165, c166, c167, c168, c169, c170, c171, c172, c173, c174, c175, c176, c177, c178, c179, c180, c181, c182, c183, c184, c185, c186, c187, c188, c189, c190, c191, c192, c193, c194, c195, c196, c197, c198, c199, c200, c201, c202, c203, c204, c205, c206, c207, c208, c209, c210, c211, c212, c213, c214, c215, c216, c217], []⟩ W5 := by
    intro f2 f55 f56 f57 f58 f59 f60 f61 f62 f63 f64 f65 f66 f67 f68 f69 f70 f71 f72 f73 f74 f75 f76 f77 f78 f79 f80 f81 f82 f83 f84 f85 f86 f87 f88 W5 hb5
    rw [t5_eq]
    refine wp_seq ?_
    refine p6_ok _ _ _ _ _ _ _ _ _ _ _ _ _ _ _ _ _ _ _ _ _ _ _ _ _ _ _ _ _ _ _ _ _ _ _ _ _ _ _ _ _ _ _ _ _ _ _ _ _ _ _ _ _ _ _ _ _ _ _ _ _ _ _ _ _ _ _ _ _ _ _ _ _ _ _ _ _ _ _ _ _ _ _ _ _ _ _ _ _ _ _ _ _ _ _ _ _ _ _ _ _ _ _ _ _ _ _ _ _ _ _ _ _ _ _ _ _ _ _ _ _ _ _ _ _ _ _ _ _ _ _ _ _ _ _ _ _ _ _ _ _ _ _ _ _ _ _ _ _ _ _ _ _ _ _ _ _ _ _ _ _ _ _ _ _ _ _ _ _ _ _ _ _ _ _ _ _ _ _ _ _ _ _ _ _ _ _ _ _ _ _ _ _ _ _ _ _ _ _ _ _ _ _ _ _ _ _ _ _ _ _ _ _ _ _ _ _ B t (H.length : Int) a1 n1 k1 x2 a2 n2 k2 L W5 _ ((hb5.block B (blk_lt hbox)).trans hbox) (hV.up hb5) eL h40 hgm ?_
    intro g2 g9 g10 g11 g89 g90 g91 g92 g93 g94 g95 g96 g97 g98 g99 g100 g101 g102 g103 g104 g105 g106 g107 g108 g109 g110 g111 g112 g113 g114 g115 g116 g117 g118 g119 g120 g121 g122 g123 g124 g125 g126 g127 g128 g129 g130 g131 g132 g133 g134 g135 g136 g137 g138 g139 g140 g141 W6 hb6
    have hb6' := Below.ups hb5 hb6
    show Code.wp Tryz.prog wT6 Q _ W6
    rw [t6_eq]
    refine wp_seq ?_
    conv => arg 2; whnf
    have hmm := @run_makeMap Tryz.prog
    go_wp2_with fail
    show Code.wp Tryz.prog wT7 Q _ _
    rw [t7_eq]
    refine wp_seq ?_
    refine p8_ok _ _ _ _ _ _ _ _ _ _ _ _ _ _ _ _ _ _ _ _ _ _ _ _ _ _ _ _ _ _ _ _ _ _ _ _ _ _ _ _ _ _ _ _ _ _ _ _ _ _ _ _ _ _ _ _ _ _ _ _ _ _ _ _ _ _ _ _ _ _ _ _ _ _ _ _ _ _ _ _ _ _ _ _ _ _ _ _ _ _ _ _ _ _ _ _ _ _ _ _ _ _ _ _ _ _ _ _ _ _ _ _ _ _ _ _ _ _ _ _ _ _ _ _ _ _ _ _ _ _ _ _ _ _ _ _ _ _ _ _ _ _ _ _ _ _ _ _ _ _ _ _ _ _ _ _ _ _ _ _ _ _ _ _ _ _ _ _ _ _ _ _ _ _ _ _ _ _ _ _ _ _ _ _ _ _ _ _ _ _ _ _ _ _ _ _ _ _ _ _ _ _ _ _ _ _ _ _ _ _ _ _ _ _ _ _ B t (H.length : Int) a1 n1 k1 x2 a2 n2 k2 L W6 _ _ ((Below.refl _ _).alloc (Nat.le_refl _) _) ((hb6'.block B (blk_lt hbox)).trans hbox) (hV.up hb6') (by omega) (fun e he => (hgm e he).2) hnd (map_new W6) (fun W hW => hst W (Below.ups hb6' hW)) ?_
    intro h13 h14 h143 h144 h145 h146 h147 h148 h149 h150 h151 h152 h153 h154 h155 h156 h157 W8 hb8 hk8
    have hb8' := Below.ups hb6' hb8
    show Code.wp Tryz.prog wT8 Q _ W8
    rw [t8_eq]
    refine wp_seq ?_
    refine p9_ok _ _ _ _ _ _ _ _ _ _ _ _ _ _ _ _ _ _ _ _ _ _ _ _ _ _ _ _ _ _ _ _ _ _ _ _ _ _ _ _ _ _ _ _ _ _ _ _ _ _ _ _ _ _ _ _ _ _ _ _ _ _ _ _ _ _ _ _ _ _ _ _ _ _ _ _ _ _ _ _ _ _ _ _ _ _ _ _ _ _ _ _ _ _ _ _ _ _ _ _ _ _ _ _ _ _ _ _ _ _ _ _ _ _ _ _ _ _ _ _ _ _ _ _ _ _ _ _ _ _ _ _ _ _ _ _ _ _ _ _ _ _ _ _ _ _ _ _ _ _ _ _ _ _ _ _ _ _ _ _ _ _ _ _ _ _ _ _ _ _ _ _ _ _ _ _ _ _ _ _ _ _ _ _ _ _ _ _ _ _ _ _ _ _ _ _ _ _ _ _ _ _ _ _ _ _ _ _ _ _ _ _ _ _ B base H wa kw sa ks t (H.length : Int) a1 n1 k1 x2 a2 n2 k2 W6.heap.size W8 _ (hH.up hb8') ((hb8'.block B (blk_lt hbox)).trans hbox) hB (Nat.le_trans hbase hb8'.size) ⟨hs.up hb8', hg, hnm, hk8⟩ (by omega) ?_
    intro j158 j159 j160 j161 j162 j163 j164 j165 wa2 kw2 sa2 ks2 W9 hH9 hbox9 hb9
    have hlen : H.length + 1 = (H ++ [(t, ((H.length : Int), (a1, n1, k1), x2, (a2, n2, k2)), W6.heap.size)]).length := by simp
    show Code.wp Tryz.prog wT9 Q _ W9
    rw [hlen] at hH9 ⊢
    refine p10_ok _ _ _ _ _ _ _ _ _ _ _ _ _ _ _ _ _ _ _ _ _ _ _ _ _ _ _ _ _ _ _ _ _ _ _ _ _ _ _ _ _ _ _ _ _ _ _ _ _ _ _ _ _ _ _ _ _ _ _ _ _ _ _ _ _ _ _ _ _ _ _ _ _ _ _ _ _ _ _ _ _ _ _ _ _ _ _ _ _ _ _ _ _ _ _ _ _ _ _ _ _ _ _ _ _ _ _ _ _ _ _ _ _ _ _ _ _ _ _ _ _ _ _ _ _ _ _ _ _ _ _ _ _ _ _ _ _ _ _ _ _ _ _ _ _ _ _ _ _ _ _ _ _ _ _ _ _ _ _ _ _ _ _ _ _ _ _ _ _ _ _ _ _ _ _ _ _ _ _ _ _ _ _ _ _ _ _ _ _ _ _ _ _ _ _ _ _ _ _ _ _ _ _ _ _ _ _ _ _ _ _ _ _ _ _ _ base (H ++ [(t, ((H.length : Int), (a1, n1, k1), x2, (a2, n2, k2)), W6.heap.size)]) wa2 kw2 sa2 ks2 W9 Q hH9 (by rw [← hlen]; omega) ?_
    intro q2 q15 q16 q17 q18 q19 q20 q166 q167 q168 q169 q170 q171 q172 q173 q174 q175 q176 q177 q178 q179 q180 q181 q182 q183 q184 q185 q186 q187 q188 q189 q190 q191 q192 q193 q194 q195 q196 q197 q198 q199 q200 q201 q202 q203 q204 q205 q206 q207 q208 q209 q210 q211 q212 q213 q214 q215 q216 q217 W10 hb10
    rw [← hlen] at hH9 ⊢
    exact hQ _ _ _ _ _ _ _ _ _ _ _ _ _ _ _ _ _ _ _ _ _ _ _ _ _ _ _ _ _ _ _ _ _ _ _ _ _ _ _ _ _ _ _ _ _ _ _ _ _ _ _ _ _ _ _ _ _ _ _ _ _ _ _ _ _ _ _ _ _ _ _ _ _ _ _ _ _ _ _ _ _ _ _ _ _ _ _ _ _ _ _ _ _ _ _ _ _ _ _ _ _ _ _ _ _ _ _ _ _ _ _ _ _ _ _ _ _ _ _ _ _ _ _ _ _ _ _ _ _ _ _ _ _ _ _ _ _ _ _ _ _ _ _ _ _ _ _ _ _ _ _ _ _ _ _ _ _ _ _ _ _ _ _ _ _ _ _ _ _ _ _ _ _ _ _ _ wa2 kw2 sa2 ks2 _ W10 (hH9.up hb10) ((hb10.block B (blk_lt hbox9)).trans hbox9) ((hb8'.mono hbase).trans (hb9.trans (hb10.mono (Nat.le_trans hbase (Nat.le_trans hb8'.size hb9.size)))))
  rw [t4_eq]
  refine wp_seq ?_
  by_cases h0 : 0 < n1
  · refine p5_yes _ _ _ _ _ _ _ _ _ _ _ _ _ _ _ _ _ _ _ _ _ _ _ _ _ _ _ _ _ _ _ _ _ _ _ _ _ _ _ _ _ _ _ _ _ _ _ _ _ _ _ _ _ _ _ _ _ _ _ _ _ _ _ _ _ _ _ _ _ _ _ _ _ _ _ _ _ _ _ _ _ _ _ _ _ _ _ _ _ _ _ _ _ _ _ _ _ _ _ _ _ _ _ _ _ _ _ _ _ _ _ _ _ _ _ _ _ _ _ _ _ _ _ _ _ _ _ _ _ _ _ _ _ _ _ _ _ _ _ _ _ _ _ _ _ _ _ _ _ _ _ _ _ _ _ _ _ _ _ _ _ _ _ _ _ _ _ _ _ _ _ _ _ _ _ _ _ _ _ _ _ _ _ _ _ _ _ _ _ _ _ _ _ _ _ _ _ _ _ _ _ _ _ _ _ _ _ _ _ _ _ _ _ _ _ _ B wa H.length kw a1 n1 k1 x2 a2 n2 k2 L w _ hbox eL h40 h0 hst (fun W hW => ?_) (fun _ _ _ _ _ _ _ _ _ _ _ _ _ _ _ _ _ _ _ _ _ _ _ _ _ _ _ _ _ _ _ _ _ _ _ W hW => rest5 _ _ _ _ _ _ _ _ _ _ _ _ _ _ _ _ _ _ _ _ _ _ _ _ _ _ _ _ _ _ _ _ _ _ _ W hW)
    have hu := hV.up hW
    rw [e1] at hu h0 ⊢
    rw [e2]
    exact right_yes hu hg h0 (hw.below hW)
  · have h00 : n1 = 0 := by omega
    subst h00
    exact p5_no _ _ _ _ _ _ _ _ _ _ _ _ _ _ _ _ _ _ _ _ _ _ _ _ _ _ _ _ _ _ _ _ _ _ _ _ _ _ _ _ _ _ _ _ _ _ _ _ _ _ _ _ _ _ _ _ _ _ _ _ _ _ _ _ _ _ _ _ _ _ _ _ _ _ _ _ _ _ _ _ _ _ _ _ _ _ _ _ _ _ _ _ _ _ _ _ _ _ _ _ _ _ _ _ _ _ _ _ _ _ _ _ _ _ _ _ _ _ _ _ _ _ _ _ _ _ _ _ _ _ _ _ _ _ _ _ _ _ _ _ _ _ _ _ _ _ _ _ _ _ _ _ _ _ _ _ _ _ _ _ _ _ _ _ _ _ _ _ _ _ _ _ _ _ _ _ _ _ _ _ _ _ _ _ _ _ _ _ _ _ _ _ _ _ _ _ _ _ _ _ _ _ _ _ _ _ _ _ _ _ _ _ _ _ _ _ B wa H.length kw a1 k1 x2 a2 n2 k2 L w _ hbox eL h40 hst (fun _ _ _ _ _ _ _ _ _ _ _ _ _ _ _ _ _ _ _ _ _ _ _ _ _ _ _ _ _ _ _ _ _ _ _ W hW => rest5 _ _ _ _ _ _ _ _ _ _ _ _ _ _ _ _ _ _ _ _ _ _ _ _ _ _ _ _ _ _ _ _ _ _ _ W hW)
end Go.Proofs.YtgpdojaehmdlpaaGreatDoor
