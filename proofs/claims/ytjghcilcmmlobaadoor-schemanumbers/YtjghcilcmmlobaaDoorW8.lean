/- What slices.Grow, slices.Concat at columns and schema.Less do, said of every call. -/
import Derived.Test.YtjghcilcmmlobaaDoorW7
namespace Go.Proofs.YtjghcilcmmlobaaDoor
open Go.RowKit Go.Proofs Go.Lib Go.Joins
open Go.Sort (grow)

theorem alloc_lt (w : World) (o : Obj) : w.heap.size < (w.alloc o).heap.size := by simp
theorem zeroCells_size (n : Nat) : (Builtin.zeroCells zeroC.cells n).size = n * 7 := by
  simp [Builtin.zeroCells, show zeroC.cells.size = 7 from rfl]

theorem grow_any (n : Nat) (w : World) (h1 : 1 ≤ n) (h8 : n ≤ 8) :
    Calls Tryd.prog 72 #[.slice none 0 0, .int .i64 n] w fun e w' => ∃ g' c', e = .returned (.slice (some ⟨g', 0, none⟩) 0 c') ∧ w'.ownsRow w.heap.size 54 7 (.slice (some ⟨g', 0, none⟩) 0 c') 0 (cellsC []) ∧ Below w.heap.size w w' := by
  obtain ⟨i0, hi0, hz0, hz1, hz2⟩ := info_parts info54
  refine (Any8.slices_Grow_grow Tryd.layGro i0 zeroC hi0 hz0 (by omega) none 0 0 n [] w (Nat.le_refl _) (by omega) (by rw [hz2]; omega) (by omega) (by simp) (fun _ => rfl) (fun a ha => by cases ha)).mono ?_
  rintro e w' ⟨rfl, rfl⟩
  have hge : 0 + n ≤ grownCap w (0 + n) 0 54 := grownCap_ge w _ _ _
  have hle : grownCap w (0 + n) 0 54 ≤ maxLen := grownCap_le_maxLen w (0 + n) 0 54 (by unfold maxLen; omega)
  refine ⟨_, _, rfl, ?_, ((Below.refl _ _).drew).alloc (Nat.le_refl _) _⟩
  change (w.drew.alloc (.cells (#[] ++ Builtin.zeroCells zeroC.cells (0 + n - 0) ++ Builtin.zeroCells zeroC.cells (grownCap w (0 + n) 0 54 - (0 + n))) 54)).ownsRow w.heap.size 54 7 (.slice (some ⟨w.heap.size, 0, none⟩) 0 (grownCap w (0 + n) 0 54)) 0 []
  generalize grownCap w (0 + n) 0 54 = G at hge hle
  exact World.ownsRow_made (w := w.drew) _ G (Nat.le_refl _) hle (by simp only [Array.size_append, zeroCells_size, Array.size_empty]; omega)

theorem wpList_append_C {ops : Array Oper} {rest : List Oper} {o : Oper} {a : Act} {Q : Exit → Act → World → Prop} {W : World} (hgd : o.guard = none) (s x : Operand)
    (ho : o.op = .call { callee := .builtin .append, args := #[s, x], argTypes := #[55, 55] }) (base g c : Nat) (l : List Col) (hs : a.eval s = .slice (some ⟨g, 0, none⟩) l.length c) (hown : W.ownsRow base 54 7 (.slice (some ⟨g, 0, none⟩) l.length c) l.length (cellsC l))
    (g2 o2 c2 : Nat) (m : List Col) (hx : a.eval x = .slice (some ⟨g2, o2, none⟩) m.length c2) (hm : SlC W g2 o2 m) (hn : l.length + m.length ≤ 1000) (hbase : base ≤ W.heap.size)
    (h : ∀ g' cap w', Hid (w'.ownsRow base 54 7 (.slice (some ⟨g', 0, none⟩) (l.length + m.length) cap) (l.length + m.length) (cellsC (l ++ m)) ∧ W.grownBy w' (some g)) → wpList Tryd.prog ops Q rest (a.put o.dst (.slice (some ⟨g', 0, none⟩) (l.length + m.length) cap)) w') : wpList Tryd.prog ops Q (o :: rest) a W := by
  obtain ⟨i0, hi0, hz0, hz1, hz2⟩ := info_parts info54
  refine wpList_append_own W hgd s x 55 ho base 54 i0 zeroC 7 72 Tryd.underlying55 hi0 hz0 hz1 hz2 rfl (by omega) _ _ _ hs hown ⟨g2, o2, none⟩ m.length c2 (cellsC m) hx (cellsC_len m) (fun j u hj => by rw [Addr.add_lit]; exact hm.flat j u hj) (cellsC_one m) (by unfold maxLen; omega) (by omega) hbase ?_
  intro v' w' h2 h3 h4
  rcases ownsRow_forms h2 with ⟨e1, _⟩ | ⟨g', c', e1⟩
  · exact absurd (h4.1 e1).1 (by simp)
  · subst e1
    exact h g' c' w' ⟨by rw [cellsC_append]; exact h2, h3⟩

set_option maxHeartbeats 4000000 in
set_option maxRecDepth 100000 in
theorem concat_any (p g o c g2 o2 c2 : Nat) (a b : List Col) (w : World) (hp0 : w.cell? ⟨p, 0, none⟩ = some (.slice (some ⟨g, o, none⟩) a.length c)) (hp1 : w.cell? ⟨p, 1, none⟩ = some (.slice (some ⟨g2, o2, none⟩) b.length c2)) (hp : p < w.heap.size)
    (ha : SlC w g o a) (hb : SlC w g2 o2 b) (h1 : 1 ≤ a.length + b.length) (h8 : a.length + b.length ≤ 8) :
    Calls Tryd.prog 52 #[.slice (some ⟨p, 0, none⟩) 2 2] w fun e w' => ∃ g' c', e = .returned (.slice (some ⟨g', 0, none⟩) (a.length + b.length) c') ∧ w'.ownsRow w.heap.size 54 7 (.slice (some ⟨g', 0, none⟩) (a.length + b.length) c') (a.length + b.length) (cellsC (a ++ b)) ∧ Below w.heap.size w w' := by
  have HG : Hid (Calls Tryd.prog 72 #[.slice none 0 0, .int .i64 ((a.length : Int) + (b.length : Int))] w fun e w' => ∃ g' c', e = .returned (.slice (some ⟨g', 0, none⟩) 0 c') ∧ w'.ownsRow w.heap.size 54 7 (.slice (some ⟨g', 0, none⟩) 0 c') 0 (cellsC []) ∧ Below w.heap.size w w') := by
    have := grow_any (a.length + b.length) w h1 h8
    rwa [show ((a.length + b.length : Nat) : Int) = (a.length : Int) + (b.length : Int) by omega] at this
  have HA : Hid (SlC w g o a) := ha
  have HB : Hid (SlC w g2 o2 b) := hb
  have HP : Hid (∀ W, Below w.heap.size w W → W.cell? ⟨p, 0, none⟩ = some (.slice (some ⟨g, o, none⟩) a.length c) ∧ W.cell? ⟨p, 1, none⟩ = some (.slice (some ⟨g2, o2, none⟩) b.length c2)) := fun W hW => ⟨(hW.cell (p := ⟨p, 0, none⟩) hp).trans hp0, (hW.cell (p := ⟨p, 1, none⟩) hp).trans hp1⟩
  clear ha hb
  have n1 : ¬ (a.length : Int) < 0 := by omega
  have n2 : ¬ (a.length : Int) + (b.length : Int) < 0 := by omega
  have n3 : IntKind.i64.wrap ((a.length : Int) + (b.length : Int)) = (a.length : Int) + (b.length : Int) := by rw [IntKind.wrap_i64]; omega
  have n4 : IntKind.i64.wrap (a.length : Int) = (a.length : Int) := by rw [IntKind.wrap_i64]; omega
  go_enter Tryd.func52, Tryd.ntmps52
  go_wp2
  refine wp_loop_rounds 3 ?_
  rw [rounds_succ]
  go_wp2
  rw [rounds_succ]
  go_wp2
  rw [rounds_succ]
  go_wp2_with (first
    | (go_at_call 72; refine HG.out.mono ?_; rintro e w1 ⟨g3, c3, rfl, ho3, hb3⟩; obtain ⟨r0, r1⟩ := HP.out _ hb3))
  refine wp_loop_rounds 3 ?_
  rw [rounds_succ]
  go_wp2_with (at_builtin; refine wpList_append_C rfl _ _ rfl w.heap.size g3 c3 [] rfl ho3 g o c a rfl (HA.out.below hb3) (by simp; omega) hb3.size ?_; intro g4 c4 w4 ho4; have hb4 : Below w.heap.size w w4 := hb3.grown ho4.out.2 hb3.size (fun j hj => by cases hj; exact (ho3.lt _ rfl).1); obtain ⟨s0, s1⟩ := HP.out _ hb4; have HO4 : Hid (w4.ownsRow w.heap.size 54 7 (.slice (some ⟨g4, 0, none⟩) a.length c4) a.length (cellsC a)) := mkH (by have := ho4.out.1; simpa using this); clear ho4)
  rw [rounds_succ]
  go_wp2_with (at_builtin; refine wpList_append_C rfl _ _ rfl w.heap.size g4 c4 a rfl HO4.out g2 o2 c2 b rfl (HB.out.below hb4) (by omega) hb4.size ?_; intro g5 c5 w5 ho5; have hb5 : Below w.heap.size w w5 := hb4.grown ho5.out.2 hb4.size (fun j hj => by cases hj; exact (HO4.out.lt _ rfl).1))
  rw [rounds_succ]
  go_wp2
  go_ret
  exact ⟨g5, c5, rfl, ho5.out.1, hb5⟩

set_option maxHeartbeats 4000000 in
set_option maxRecDepth 100000 in
theorem less_yes (g cp : Nat) (l : List Col) (nm : ByteArray) (k : Nat) (w : World) (h : SlC w g 0 l) (hf : findC l nm = k) (hk : k < l.length) (h1 : l.length ≠ 1) (h8 : l.length ≤ 8) (hcap : l.length ≤ cp) :
    Calls Tryd.prog 29 #[.slice (some ⟨g, 0, none⟩) l.length cp, .string nm] w fun e w' => ∃ g' c', e = .returned (.tuple #[.slice (some ⟨g', 0, none⟩) (l.take k ++ l.drop (k + 1)).length c', .nilIface]) ∧ w'.ownsRow w.heap.size 54 7 (.slice (some ⟨g', 0, none⟩) (l.take k ++ l.drop (k + 1)).length c') (l.take k ++ l.drop (k + 1)).length (cellsC (l.take k ++ l.drop (k + 1))) ∧ Below w.heap.size w w' := by
  have HF : Hid (∀ W, Below w.heap.size w W → Calls Tryd.prog 33 #[.slice (some ⟨g, 0, none⟩) l.length cp, .string nm] W fun e w' => e = .returned (.int .i64 k) ∧ Below W.heap.size W w') := fun W hb => by
    have := find_any g 0 cp l nm W (h.below hb) h8
    rwa [hf] at this
  have la : (l.take k).length = k := by simp; omega
  have lb : (l.drop (k + 1)).length = l.length - (k + 1) := by simp
  obtain ⟨m, hm⟩ : ∃ m, m = k + 1 := ⟨_, rfl⟩
  rw [← hm] at lb ⊢
  have HC : Hid (∀ W p o2 c2 nb, Below w.heap.size w W → p < W.heap.size → nb = (l.drop m).length → W.heap[p]? = some (.cells #[.slice (some ⟨g, 0, none⟩) k cp, .slice (some ⟨g, o2, none⟩) nb c2] 55) → SlC W g o2 (l.drop m) → Calls Tryd.prog 52 #[.slice (some ⟨p, 0, none⟩) 2 2] W fun e w' => ∃ g' c', e = .returned (.slice (some ⟨g', 0, none⟩) (l.take k ++ l.drop m).length c') ∧ w'.ownsRow W.heap.size 54 7 (.slice (some ⟨g', 0, none⟩) (l.take k ++ l.drop m).length c') (l.take k ++ l.drop m).length (cellsC (l.take k ++ l.drop m)) ∧ Below W.heap.size W w') := fun W p o2 c2 nb hb hp hnb hh hs => by
    rw [List.length_append]
    exact concat_any p g 0 cp g o2 c2 (l.take k) (l.drop m) W (by rw [la]; simp [World.cell?, hh]) (by rw [← hnb]; simp [World.cell?, hh]) hp ((h.below hb).take k) hs (by omega) (by omega)
  have HS : Hid (SlC w g 0 l) := h
  have ex : ∃ x, l[0]! = x := ⟨_, rfl⟩
  obtain ⟨⟨x1, x2, x3, x4, x5, x6, x7⟩, hx⟩ := ex
  have HQ : Hid (∀ W, Below w.heap.size w W → W.cell? ⟨g, 0, none⟩ = some (.int .i64 x1)) := fun W hb => by have := ((h.below hb).cells (k := 0) (by omega) hx).1; simpa using this
  clear hx
  generalize hM : l.take k ++ l.drop m = M at *
  have hl1 : ((l.length : Int) == 1) = false := by
    have : ¬ (l.length : Int) = 1 := by omega
    simpa using this
  have hk0 : (0 : Int) ≤ (k : Int) := by omega
  have hk1 : IntKind.i64.wrap ((k : Int) + 1) = (m : Int) := by rw [IntKind.wrap_i64]; omega
  have hkc : (k : Int) ≤ (cp : Int) := by omega
  have hm0 : (0 : Int) ≤ (m : Int) := by omega
  have hml : (m : Int) ≤ (l.length : Int) := by omega
  have hmc : (m : Int) ≤ (cp : Int) := by omega
  have hlc : (l.length : Int) ≤ (cp : Int) := by omega
  have HL : Hid (l.length - m = (l.drop m).length) := by rw [lb, hm]; exact rfl
  have HD : Hid (cp = m → l.drop m = []) := fun e => List.drop_eq_nil_of_le (by omega)
  clear h hf la lb hm
  by_cases hcc : cp = m
  · have HN : Hid (l.drop m = []) := HD.out hcc
    subst hcc
    clear HD
    go_enter Tryd.func29, Tryd.ntmps29
    go_wp2_with (first
      | (go_at_call 33; refine (HF.out _ (Below.refl _ _)).mono ?_; rintro e w1 ⟨rfl, hb1⟩))
    have q0 := HQ.out w1 hb1
    have hgw : g < w1.heap.size := Nat.lt_of_lt_of_le HS.out.1 hb1.size
    go_region_held3 (fun w' => w'.cell? ⟨g, 0, none⟩ = some (.int .i64 x1)) (first | (go_keep; done) | exact HQ.out _ (Below.ups (hb1.alloc hb1.size _).drew hb3))
      (first
        | (go_at_call 52; refine (HC.out _ w1.heap.size 0 0 0 ?_ ?_ ?_ ?_ ?_).mono ?_; exact (hb1.alloc hb1.size _).drew; exact alloc_lt w1 _; (rw [HN.out]; rfl); exact heap_alloc_new w1 _; (rw [HN.out]; exact ⟨Nat.lt_of_lt_of_le HS.out.1 (hb1.alloc hb1.size _).size, fun j hj => by simp at hj⟩); rintro e w3 ⟨g3, c3, rfl, ho3, hb3⟩)
        | fail)
    go_wp2
    go_ret2
    exact ⟨g3, c3, rfl, ownsRow_le ho3 (hb1.alloc hb1.size _).size, Below.ups (hb1.alloc hb1.size _).drew hb3⟩
  · clear HD
    have hcc' : ¬ (cp : Int) = (m : Int) := by omega
    go_enter Tryd.func29, Tryd.ntmps29
    go_wp2_with (first
      | (go_at_call 33; refine (HF.out _ (Below.refl _ _)).mono ?_; rintro e w1 ⟨rfl, hb1⟩))
    have q0 := HQ.out w1 hb1
    have hgw : g < w1.heap.size := Nat.lt_of_lt_of_le HS.out.1 hb1.size
    go_region_held3 (fun w' => w'.cell? ⟨g, 0, none⟩ = some (.int .i64 x1)) (first | (go_keep; done) | exact HQ.out _ (Below.ups (hb1.alloc hb1.size _).drew hb3))
      (first
        | (go_at_call 52; refine (HC.out _ w1.heap.size (m * 7) (cp - m) (l.length - m) ?_ ?_ ?_ ?_ ?_).mono ?_; exact (hb1.alloc hb1.size _).drew; exact alloc_lt w1 _; exact HL.out; exact heap_alloc_new w1 _; (have := (HS.out.below (hb1.alloc hb1.size (.cells #[.slice (some ⟨g, 0, none⟩) k cp, .slice (some ⟨g, m * 7, none⟩) (l.length - m) (cp - m)] 55)).drew).drop m; rwa [Nat.zero_add] at this); rintro e w3 ⟨g3, c3, rfl, ho3, hb3⟩)
        | fail)
    go_wp2
    go_ret2
    exact ⟨g3, c3, rfl, ownsRow_le ho3 (hb1.alloc hb1.size _).size, Below.ups (hb1.alloc hb1.size _).drew hb3⟩

set_option maxHeartbeats 4000000 in
theorem less_no (g cp : Nat) (l : List Col) (nm : ByteArray) (w : World) (h : SlC w g 0 l) (hno : findC l nm = -1 ∨ l.length = 1) (h8 : l.length ≤ 8) :
    Calls Tryd.prog 29 #[.slice (some ⟨g, 0, none⟩) l.length cp, .string nm] w fun e w' => (∃ x, e = .returned (.tuple #[.slice none 0 0, .iface 87 (.int .i64 x)]) ∧ (0 ≤ findC l nm → x = 6)) ∧ Below w.heap.size w w' := by
  have HF : Hid (∀ W, Below w.heap.size w W → Calls Tryd.prog 33 #[.slice (some ⟨g, 0, none⟩) l.length cp, .string nm] W fun e w' => e = .returned (.int .i64 (findC l nm)) ∧ Below W.heap.size W w') := fun W hb => find_any g 0 cp l nm W (h.below hb) h8
  clear h
  by_cases hf : findC l nm < 0
  · generalize findC l nm = f at *
    clear hno h8
    go_enter Tryd.func29, Tryd.ntmps29
    go_wp2_with (first
      | (go_at_call 33; refine (HF.out _ (Below.refl _ _)).mono ?_; rintro e w1 ⟨rfl, hb1⟩))
    go_ret2
    exact ⟨⟨_, rfl, fun h => by omega⟩, hb1⟩
  · have hl : l.length = 1 := by rcases hno with h | h <;> omega
    have hl1 : ((l.length : Int) == 1) = true := by rw [hl]; rfl
    generalize findC l nm = f at *
    generalize l.length = n at *
    clear hno h8 hl
    go_enter Tryd.func29, Tryd.ntmps29
    go_wp2_with (first
      | (go_at_call 33; refine (HF.out _ (Below.refl _ _)).mono ?_; rintro e w1 ⟨rfl, hb1⟩))
    go_ret2
    exact ⟨⟨_, rfl, fun _ => rfl⟩, hb1⟩
end Go.Proofs.YtjghcilcmmlobaaDoor
