/- LogWhole: what is asked of each new table. -/
import Derived.Test.YtgpdojaehmdlpaaGreatDoorTA
import Derived.Deep.RegionHeld3
import Derived.Deep.DrawnRows
import Derived.Deep.DeepCutAuto
import Derived.Deep.CutBlock
namespace Go.Proofs.YtgpdojaehmdlpaaGreatDoor
open Go.RowKit Go.Proofs Go.Lib Go.Joins Go.Maps


attribute [local go_sem ↓] Go.wp_at_zero Go.wp_at_succ
set_option maxHeartbeats 2000000 in
set_option maxRecDepth 1000000 in
theorem p5_yes (c0 c1 c2 c5 c6 c7 c8 c9 c10 c11 c12 c13 c14 c15 c16 c17 c18 c19 c20 c21 c22 c23 c24 c25 c26 c27 c28 c29 c30 c31 c32 c33 c34 c35 c36 c37 c38 c39 c40 c41 c42 c43 c44 c45 c46 c47 c48 c49 c50 c51 c52 c53 c54 c55 c56 c57 c58 c59 c60 c61 c62 c63 c64 c65 c66 c67 c68 c69 c70 c71 c72 c73 c74 c75 c76 c77 c78 c79 c80 c81 c82 c83 c84 c85 c86 c87 c88 c89 c90 c91 c92 c93 c94 c95 c96 c97 c98 c99 c100 c101 c102 c103 c104 c105 c106 c107 c108 c109 c110 c111 c112 c113 c114 c115 c116 c117 c118 c119 c120 c121 c122 c123 c124 c125 c126 c127 c128 c129 c130 c131 c132 c133 c134 c135 c136 c137 c138 c139 c140 c141 c142 c143 c144 c145 c146 c147 c148 c149 c150 c151 c152 c153 c154 c155 c156 c157 c158 c159 c160 c161 c162 c163 c164 c165 c166 c167 c168 c169 c170 c171 c172 c173 c174 c175 c176 c177 c178 c179 c180 c181 c182 c183 c184 c185 c186 c187 c188 c189 c190 c191 c192 c193 c194 c195 c196 c197 c198 c199 c200 c201 c202 c203 c204 c205 c206 c207 c208 c209 c210 c211 c212 c213 c214 c215 c216 c217 : Value) (B : Nat) (wa : Option Addr) (hl kw : Nat) (a1 : Option Addr) (n1 k1 : Nat) (x2 : Int) (a2 : Option Addr) (n2 k2 : Nat) (L : List EntV) (w : World) (Q : Exit → Act → World → Prop)
    (hbox : BoxS w B (hl : Int) a1 n1 k1 x2 a2 n2 k2) (hn : L.length = n2) (h40 : n2 ≤ 40) (h0 : 0 < n1)
    (hst : ∀ W, Below w.heap.size w W → Calls Tryz.prog 17 #[.agg #[.int .i64 (hl : Int), .slice a1 n1 k1, .int .i64 x2, .slice a2 n2 k2]] W (SetPost W L))
    (hrt : ∀ W, Below w.heap.size w W → Calls Tryz.prog 18 #[.slice a1 n1 k1, .int .i64 x2] W fun e w' => e = .returned (.bool true) ∧ Below W.heap.size W w')
    (hQ : ∀ (d2 d55 d56 d57 d58 d59 d60 d61 d62 d63 d64 d65 d66 d67 d68 d69 d70 d71 d72 d73 d74 d75 d76 d77 d78 d79 d80 d81 d82 d83 d84 d85 d86 d87 d88 : Value) (W : World), Below w.heap.size w W → Q .normal ⟨#[c0, c1, d2, .pointer (some ⟨B, 0, none⟩), .slice wa hl kw, c5, c6, c7, c8, c9, c10, c11, c12, c13, c14, c15, c16, c17, c18, c19, c20, c21, c22, c23, c24, c25, c26, c27, c28, c29, c30, c31, c32, c33, c34, c35, c36, c37, c38, c39, c40, c41, c42, c43, c44, c45, c46, c47, c48, c49, c50, c51, c52, c53, c54, d55, d56, d57, d58, d59, d60, d61, d62, d63, d64, d65, d66, d67, d68, d69, d70, d71, d72, d73, d74, d75, d76, d77, d78, d79, d80, d81, d82, d83, d84, d85, d86, d87, d88, c89, c90, c91, c92, c93, c94, c95, c96, c97, c98, c99, c100, c101, c102, c103, c104, c105, c106, c107, c108, c109, c110, c111, c112, c113, c114, c115, c116, c117, c118, c119, c120, c121, c122, c123, c124, c125, c126, c127, c128, c129, c130, c131, c132, c133, c134, c135, c136, c137, c138, c139, c140, c141, c142, c143, c144, c145, c146, c147, c148, c149, c150, c151, c152, c153, c154, c155, c156, c157, c158, c159, c160, c161, c162, c163, c164, c165, c166, c167, c168, c169, c170, c171, c172, c173, c174, c175, c176, c177, c178, c179, c180, c181, c182, c183, c184, c185, c186, c187, c188, c189, c190, c191, c192, c193, c194, c195, c196, c197, c198, c199, c200, c201, c202, c203, c204, c205, c206, c207, c208, c209, c210, c211, c212, c213, c214, c215, c216, c217], []⟩ W) :
    Code.wp Tryz.prog wP5 Q ⟨#[c0, c1, c2, .pointer (some ⟨B, 0, none⟩), .slice wa hl kw, c5, c6, c7, c8, c9, c10, c11, c12, c13, c14, c15, c16, c17, c18, c19, c20, c21, c22, c23, c24, c25, c26, c27, c28, c29, c30, c31, c32, c33, c34, c35, c36, c37, c38, c39, c40, c41, c42, c43, c44, c45, c46, c47, c48, c49, c50, c51, c52, c53, c54, c55, c56, c57, c58, c59, c60, c61, c62, c63, c64, c65, c66, c67, c68, c69, c70, c71, c72, c73, c74, c75, c76, c77, c78, c79, c80, c81, c82, c83, c84, c85, c86, c87, c88, c89, c90, c91, c92, c93, c94, c95, c96, c97, c98, c99, c100, c101, c102, c103, c104, c105, c106, c107, c108, c109, c110, c111, c112, c113, c114, c115, c116, c117, c118, c119, c120, c121, c122, c123, c124, c125, c126, c127, c128, c129, c130, c131, c132, c133, c134, c135, c136, c137, c138, c139, c140, c141, c142, c143, c144, c145, c146, c147, c148, c149, c150, c151, c152, c153, c154, c155, c156, c157, c158, c159, c160, c161, c162, c163, c164, c165, c166, c167, c168, c169, c170, c171, c172, c173, c174, c175, c176, c177, c178, c179, c180, c181, c182, c183, c184, c185, c186, c187, c188, c189, c190, c191, c192, c193, c194, c195, c196, c197, c198, c199, c200, c201, c202, c203, c204, c205, c206, c207, c208, c209, c210, c211, c212, c213, c214, c215, c216, c217], []⟩ w := by
  refine Code.wp_mono onlyN_up ?_
  conv => arg 2; whnf
  have HBX := mkH hbox
  have HN := mkH hn
  have HST := mkH hst
  have HQ := mkH hQ
  have HKD : Hid (∀ W, Below w.heap.size w W → W.cell? ⟨B, 0, none⟩ = some (.int .i64 (hl : Int)) ∧ W.cell? ⟨B, 1, none⟩ = some (.slice a1 n1 k1) ∧ W.cell? ⟨B, 2, none⟩ = some (.int .i64 x2) ∧ W.cell? ⟨B, 3, none⟩ = some (.slice a2 n2 k2)) := mkH (fun W hW => by
    obtain ⟨q0, q1, q2, q3, _⟩ := cells4 ((hW.block B (blk_lt HBX.out)).trans HBX.out)
    exact ⟨q0, q1, q2, q3⟩)
  have HBL : Hid (Below w.heap.size w w.drew) := mkH (Below.refl _ _).drew
  have hd1 : decide ((40 : Int) < (n2 : Int)) = false := decide_eq_false (by omega)
  clear hbox hn hst hQ
  have HRT := mkH hrt
  have h0z : (0 : Int) < (n1 : Int) := by omega
  have hd2 : decide ((0 : Int) < (n1 : Int)) = true := decide_eq_true (by omega)
  clear hrt
  go_wp2_with fail
  go_region_held (fun W => W.cell? ⟨B, 0, none⟩ = some (.int .i64 (hl : Int)) ∧ W.cell? ⟨B, 1, none⟩ = some (.slice a1 n1 k1) ∧ W.cell? ⟨B, 2, none⟩ = some (.int .i64 x2) ∧ W.cell? ⟨B, 3, none⟩ = some (.slice a2 n2 k2))
    (first
      | exact HKD.out _ HBL.out
      | (go_keep; done)
      | fail)
    (first
      | (go_at_call 17; refine (HST.out _ HBL.out).mono ?_; rintro e wx ⟨m1, rfl, hm1, hs1, hbx⟩; obtain ⟨D1, hD1, _, _, hz1⟩ := hs1; have l1 := hD1.len Tryz.underlying47 3; rw [hz1, HN.out] at l1; replace HBL := mkH (Below.ups HBL.out hbx); clear hm1 hbx hD1 hz1)
      | (go_at_call 18; refine (HRT.out _ HBL.out).mono ?_; rintro e wy ⟨rfl, hby⟩; replace HBL := mkH (Below.ups HBL.out hby); clear hby)
      | fail)
  all_goals
    go_wp2_with fail
    first
      | exact HQ.out _ _ _ _ _ _ _ _ _ _ _ _ _ _ _ _ _ _ _ _ _ _ _ _ _ _ _ _ _ _ _ _ _ _ _ _ HBL.out
      | (show Q .normal _ _; exact HQ.out _ _ _ _ _ _ _ _ _ _ _ _ _ _ _ _ _ _ _ _ _ _ _ _ _ _ _ _ _ _ _ _ _ _ _ _ HBL.out)
end Go.Proofs.YtgpdojaehmdlpaaGreatDoor
