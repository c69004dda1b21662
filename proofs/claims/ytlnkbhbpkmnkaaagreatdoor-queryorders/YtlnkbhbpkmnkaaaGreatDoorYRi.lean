/- slices.Clone at rows wherever they lie; a stable sort of none. -/
import Derived.Test.YtlnkbhbpkmnkaaaGreatDoorYRg
import Derived.Deep.AppendLies
namespace Go.Proofs.YtlnkbhbpkmnkaaaGreatDoor.F
open Go.RowKit Go.Proofs Go.Shelf Go.Joins

def encN (s : ByteArray) : List Value := [.string s]
theorem SlE.ofmap {α β : Type} {k : Nat} {enc : β → List Value} {g : α → β} {w : World} {v : Value} {l : List α} (h : SlE k enc w v (l.map g)) : SlE k (fun x => enc (g x)) w v l := by
  obtain ⟨a, c, e, hc, hl⟩ := h
  rw [List.length_map] at e hc
  refine ⟨a, c, e, hc, fun hne => ?_⟩
  obtain ⟨b, off, e1, hb, hcell⟩ := hl (by simpa using hne)
  exact ⟨b, off, e1, hb, fun j x hx i u hu => hcell j (g x) (by rw [List.getElem?_map, hx]; rfl) i u hu⟩
/-- Items: what is made, and of which column. -/
def encF (x : Fn × ByteArray) : List Value := [.string (fnB x.1), .string x.2]
theorem infoPl : (Tryz.prog.info? 140).map (fun i => (i.zero, i.size, i.bytes)) = some (some (.agg #[.string ⟨#[]⟩, .int .i64 0]), 2, 24) := by kernel_rfl
theorem infoOr : (Tryz.prog.info? 128).map (fun i => (i.zero, i.size, i.bytes)) = some (some (.agg #[.int .i64 0, .bool false]), 2, 16) := by kernel_rfl
theorem ord_own {w : World} {B n : Nat} {T : TypeId} {v : Value} {os : List (Nat × Bool)} (h : w.ownsRow B T 2 v n (os.flatMap encO)) (hn : n = os.length) : OrdAt w v os := by
  obtain ⟨a, c, e, hc, hl⟩ := SlE.of_own (k := 2) (enc := encO) (fun _ => rfl) h hn
  refine ⟨a, c, e, hc, fun hne => ?_⟩
  obtain ⟨b, o, ea, hb, hcell⟩ := hl hne
  exact ⟨b, o, ea, hb, fun j x hx => ⟨hcell j x hx 0 _ rfl, hcell j x hx 1 _ rfl⟩⟩
set_option maxHeartbeats 4000000 in
set_option maxRecDepth 100000 in
theorem places_any (lv iv : Value) (cols : List Col) (L : List (Fn × ByteArray)) (w : World) (hc : SlE 7 C.encC w lv cols) (h1 : 0 < cols.length) (h8 : cols.length ≤ 8) (hi : SlE 2 encF w iv L) (hl : L.length ≤ 1000) :
    Calls Tryz.prog 42 #[lv, iv] w fun e w' => ∃ v, e = .returned v ∧ SlE 2 encPl w' v (L.map fun x => (x.1, C.findC cols x.2)) ∧ Below w.heap.size w w' := by
  have HI := mkH hi
  obtain ⟨cg, co, cc, rfl, _, hsc⟩ := slC_of hc h1
  have HF := mkH (fun nm W (hb : Below w.heap.size w W) => C.find_any cg co cc cols nm W (hsc.below hb) h8)
  obtain ⟨la, lc, rfl, _⟩ := hi.slice
  obtain ⟨iV, hiV, hzV, hz1V, hz2V⟩ := info_parts infoPl
  have HIV := mkH (And.intro hiV (And.intro hzV (And.intro hz1V hz2V)))
  clear hc hsc hi hiV hzV hz1V hz2V h1 h8
  go_enter Tryz.func42, Tryz.ntmps42
  go_wp2_with fail
  go_loopw [5, 10] (fun vl vi wr => ∃ (k : Nat) (a : Option Addr) (c : Nat), k ≤ L.length ∧ vi = .int .i64 k ∧ vl = .slice a k c ∧ Hid (wr.ownsRow w.heap.size 140 2 (.slice a k c) k (((L.take k).map fun x => (x.1, C.findC cols x.2)).flatMap encPl)) ∧ Hid (Below w.heap.size w wr)) (fun _ vi _ => L.length - (intOf vi).toNat)
  case atStart => exact ⟨0, none, 0, Nat.zero_le _, rfl, rfl, mkH (World.ownsRow_nil _ _ _ _), mkH (Below.refl _ _)⟩
  case round =>
    obtain ⟨k, a, c, hk, rfl, rfl, HO, HB⟩ := hrel
    by_cases hlt : k < L.length
    · obtain ⟨x, hx⟩ : ∃ x, L[k]? = some x := ⟨_, List.getElem?_eq_getElem hlt⟩
      have hkn : (k : Int) < (L.length : Int) := by omega
      obtain ⟨b1, o1, d1, e1, _, p1, r1⟩ := (HI.out.up HB.out).cons (by omega)
      injection e1 with e11 _ e13
      subst e11 e13
      have x0 : wr.cell? ⟨b1, o1 + k * 2, none⟩ = some (.string (fnB x.1)) := r1 k x hx 0 _ rfl
      have x1 : wr.cell? ⟨b1, o1 + k * 2 + 1, none⟩ = some (.string x.2) := r1 k x hx 1 _ rfl
      have HTK : Hid ((((L.take (k + 1)).map fun x => (x.1, C.findC cols x.2)).flatMap encPl) = (((L.take k).map fun x => (x.1, C.findC cols x.2)).flatMap encPl) ++ [.string (fnB x.1), .int .i64 (C.findC cols x.2)]) := mkH (by rw [S.take_one_more hx]; simp [encPl])
      obtain ⟨f, nm⟩ := x
      simp only at x0 x1 HTK
      generalize fnB f = fb at *
      have HFN := mkH (HF.out nm)
      generalize C.findC cols nm = q at *
      generalize ((L.take k).map fun x => (x.1, C.findC cols x.2)).flatMap encPl = xs at *
      clear hx r1
      go_upto_region 5 with fail
      have HBo : Hid (Below wr.heap.size wr (wr.alloc (.cells #[.string fb, .string nm] 120))) := mkH ((Below.refl _ _).alloc (Nat.le_refl _) _)
      have hown := E.ownsRow_up HO.out HBo.out
      have hbl : ∀ j, (Value.slice a k c).ownBlock = some j → j < wr.heap.size := fun j hj => (HO.out.lt j hj).2
      have hkb : (wr.alloc (.cells #[.string fb, .string nm] 120)).heap[wr.heap.size]? = some (.cells #[.string fb, .string nm] 120) := heap_alloc_new _ _
      have c0 : (wr.alloc (.cells #[.string fb, .string nm] 120)).cell? ⟨wr.heap.size, 0, none⟩ = some (.string fb) := cell_of_block hkb 0
      have c1 : (wr.alloc (.cells #[.string fb, .string nm] 120)).cell? ⟨wr.heap.size, 1, none⟩ = some (.string nm) := cell_of_block hkb 1
      have s1 : wr.heap.size < (wr.alloc (.cells #[.string fb, .string nm] 120)).heap.size := by simp
      have HBW := mkH (ups HB.out HBo.out)
      have HOW := mkH hown
      clear hkb hown HBo HO HB
      generalize wr.alloc (.cells #[.string fb, .string nm] 120) = wb at *
      generalize wr.heap.size = gI at *
      have HSB := mkH hbl
      have hws : w.heap.size ≤ wb.heap.size := HBW.out.size
      have HFb := mkH (fun W (hW : Below wb.heap.size wb W) => HFN.out W (ups HBW.out hW))
      clear HFN hbl
      go_region_held3 (fun w' => w'.cell? ⟨gI, 0, none⟩ = some (.string fb) ∧ w'.cell? ⟨gI, 1, none⟩ = some (.string nm))
        (first
          | (go_keep; done)
          | exact ⟨(hg6.cell ((B5.alloc B5.size _).cell (p := ⟨gI, 0, none⟩) s1 |>.trans c0) (fun e => by have := HSB.out gI e.symm; omega)), (hg6.cell ((B5.alloc B5.size _).cell (p := ⟨gI, 1, none⟩) s1 |>.trans c1) (fun e => by have := HSB.out gI e.symm; omega))⟩
          | fail)
        (first
          | (go_at_call 74
             with_reducible refine (HFb.out _ (by first | exact (Below.refl _ _).drew | exact Below.refl _ _)).mono ?_
             rintro e w5 ⟨rfl, hb5⟩
             have B5 : Below wb.heap.size wb w5 := ups (by first | exact (Below.refl _ _).drew | exact Below.refl _ _) hb5
             have q0 : w5.cell? ⟨gI, 0, none⟩ = some (.string fb) := (B5.cell (p := ⟨gI, 0, none⟩) s1).trans c0
             have q1 : w5.cell? ⟨gI, 1, none⟩ = some (.string nm) := (B5.cell (p := ⟨gI, 1, none⟩) s1).trans c1)
          | (refine step_append_lies _ (by rfl) (.tmp 14) (.tmp 22) 84 (by rfl) w.heap.size 140 iV (.agg #[.string ⟨#[]⟩, .int .i64 0]) 2 24 Tryz.underlying84 HIV.out.1 HIV.out.2.1 HIV.out.2.2.1 HIV.out.2.2.2 rfl (by omega) (.slice a k c) k xs (by rfl) (E.ownsRow_up HOW.out (B5.alloc B5.size _)) ⟨w5.heap.size, 0, none⟩ 1 1 [.string fb, .int .i64 q] (by rfl) (by rfl) (fun j u hj => World.news_of_block (heap_alloc_new _ _) j u (by simpa using hj)) (by simp [Value.oneCell']) (by omega) (by unfold maxLen; omega) (by omega) (Nat.le_trans hws (B5.alloc B5.size _).size) _ rfl (fun g6 c6 w6 ho6 hg6 _ _ => ?_))
          | fail)
      all_goals
        go_wp2
        go_roundw
        case rel =>
          exact ⟨k + 1, some ⟨g6, 0, none⟩, c6, hlt, by go_num, rfl, mkH (by rw [HTK.out]; exact ho6), mkH ((ups HBW.out (B5.alloc B5.size _)).grown hg6 (Nat.le_trans hws (B5.alloc B5.size _).size) (fun j hj => own_blk HOW.out hj))⟩
        case measure => simp [intOf]; omega
    · have hkn : ¬ (k : Int) < (L.length : Int) := by omega
      have hke : k = L.length := by omega
      subst hke
      have HO' := HO.out
      rw [List.take_length] at HO'
      have HOO := mkH HO'
      clear HO'
      go_wp2
      go_ret
      exact ⟨_, rfl, SlE.of_own (k := 2) (enc := encPl) (fun _ => rfl) HOO.out (by simp), HB.out⟩
set_option maxHeartbeats 4000000 in
set_option maxRecDepth 100000 in
theorem by_any (lv nv : Value) (cols : List Col) (names : List ByteArray) (ks : List Nat) (w : World) (hc : SlE 7 C.encC w lv cols) (h1 : 0 < cols.length) (h8 : cols.length ≤ 8) (hn : SlE 1 encN w nv names) (hk : ks.length = names.length) (hf : ∀ (j : Nat) nm (k : Nat), names[j]? = some nm → ks[j]? = some k → C.findC cols nm = (k : Int)) (hl : names.length ≤ 1000) :
    Calls Tryz.prog 79 #[lv, nv] w fun e w' => ∃ v, e = .returned v ∧ OrdAt w' v (ks.map fun k => (k, false)) ∧ Below w.heap.size w w' := by
  have HN := mkH hn
  obtain ⟨cg, co, cc, rfl, _, hsc⟩ := slC_of hc h1
  have HF := mkH (fun nm W (hb : Below w.heap.size w W) => C.find_any cg co cc cols nm W (hsc.below hb) h8)
  obtain ⟨la, lc, rfl, _⟩ := hn.slice
  obtain ⟨iV, hiV, hzV, hz1V, hz2V⟩ := info_parts infoOr
  have HIV := mkH (And.intro hiV (And.intro hzV (And.intro hz1V hz2V)))
  have HKS := mkH (And.intro hk hf)
  clear hc hsc hn hiV hzV hz1V hz2V h1 h8 hk hf
  go_enter Tryz.func79, Tryz.ntmps79
  go_wp2_with fail
  go_loopw [5, 10] (fun vl vi wr => ∃ (k : Nat) (a : Option Addr) (c : Nat), k ≤ names.length ∧ vi = .int .i64 k ∧ vl = .slice a k c ∧ Hid (wr.ownsRow w.heap.size 128 2 (.slice a k c) k (((ks.take k).map fun k => (k, false)).flatMap encO)) ∧ Hid (Below w.heap.size w wr)) (fun _ vi _ => names.length - (intOf vi).toNat)
  case atStart => exact ⟨0, none, 0, Nat.zero_le _, rfl, rfl, mkH (World.ownsRow_nil _ _ _ _), mkH (Below.refl _ _)⟩
  case round =>
    obtain ⟨k, a, c, hk, rfl, rfl, HO, HB⟩ := hrel
    by_cases hlt : k < names.length
    · obtain ⟨nm, hx⟩ : ∃ x, names[k]? = some x := ⟨_, List.getElem?_eq_getElem hlt⟩
      obtain ⟨q, hq⟩ : ∃ x, ks[k]? = some x := ⟨_, List.getElem?_eq_getElem (by have := HKS.out.1; omega)⟩
      have hkn : (k : Int) < (names.length : Int) := by omega
      obtain ⟨b1, o1, d1, e1, _, p1, r1⟩ := (HN.out.up HB.out).cons (by omega)
      injection e1 with e11 _ e13
      subst e11 e13
      have x0 : wr.cell? ⟨b1, o1 + k * 1, none⟩ = some (.string nm) := r1 k nm hx 0 _ rfl
      rw [Nat.mul_one] at x0
      have HTK : Hid ((((ks.take (k + 1)).map fun k => (k, false)).flatMap encO) = (((ks.take k).map fun k => (k, false)).flatMap encO) ++ [.int .i64 (q : Int), .bool false]) := mkH (by rw [S.take_one_more hq]; simp [encO])
      have HFN := mkH (HF.out nm wr HB.out)
      rw [HKS.out.2 k nm q hx hq] at HFN
      generalize ((ks.take k).map fun k => (k, false)).flatMap encO = xs at *
      clear hx hq r1
      go_wp2_with fail
      with_reducible refine HFN.out.mono ?_
      rintro e w2 ⟨rfl, hb2⟩
      have HO2 := mkH (E.ownsRow_up HO.out hb2)
      have HB2 := mkH (ups HB.out hb2)
      have hsz2 : w.heap.size ≤ w2.heap.size := HB2.out.size
      clear hb2 HO HFN
      have HA4 : Hid (Below w2.heap.size w2 (w2.alloc (.cells #[.int .i64 (q : Int), .bool false] 128))) := mkH ((Below.refl _ _).alloc (Nat.le_refl _) _)
      go_wp2_with (first
        | (at_builtin; refine wpList_append_own _ rfl _ _ 47 rfl w.heap.size 128 iV (.agg #[.int .i64 0, .bool false]) 2 16 Tryz.underlying47 HIV.out.1 HIV.out.2.1 HIV.out.2.2.1 HIV.out.2.2.2 rfl (by decide) (.slice a k c) k xs rfl (E.ownsRow_up HO2.out HA4.out) ⟨w2.heap.size, 0, none⟩ 1 1 [.int .i64 (q : Int), .bool false] rfl rfl (fun j u hj => World.news_of_block (heap_alloc_new _ _) j u hj) (by intro u hu; simp at hu; rcases hu with rfl | rfl <;> rfl) (by unfold maxLen; omega) (by omega) (Nat.le_trans hsz2 HA4.out.size) ?_
           intro v5 w5 hown5 hg5 _
           have HO5 := mkH hown5
           have HG5 := mkH hg5
           clear hown5 hg5))
      obtain ⟨a', c', rfl, _⟩ := own_slice HO5.out
      refine ⟨⟨k + 1, a', c', hlt, by go_num, rfl, mkH ?_, mkH ?_⟩, by simp [intOf]; omega⟩
      · rw [HTK.out]
        exact HO5.out
      · exact (ups HB2.out HA4.out).grown HG5.out (Nat.le_trans hsz2 HA4.out.size) (fun j hj => own_blk HO2.out hj)
    · have hkn : ¬ (k : Int) < (names.length : Int) := by omega
      have hke : k = names.length := by omega
      subst hke
      have HO' := HO.out
      rw [← HKS.out.1, List.take_length] at HO'
      have HOO := mkH HO'
      have HL := mkH HKS.out.1
      clear HO'
      rw [← HL.out]
      go_wp2
      go_ret
      exact ⟨_, rfl, ord_own HOO.out (by simp), HB.out⟩
end Go.Proofs.YtlnkbhbpkmnkaaaGreatDoor.F
namespace Go.Proofs.YtlnkbhbpkmnkaaaGreatDoor.F
open Go.RowKit Go.Proofs Go.Shelf Go.Joins

set_option maxHeartbeats 4000000 in
set_option maxRecDepth 100000 in
theorem clone0_any (a : Addr) (c : Nat) (w : World) :
    Calls Tryz.prog 32 #[.slice (some a) 0 c] w fun e w' => ∃ a' c', e = .returned (.slice a' 0 c') ∧ w'.ownsRow w.heap.size 35 1 (.slice a' 0 c') 0 [] ∧ Below w.heap.size w w' := by
  have q22 : ∀ (w : World) (a : Option Addr) (n c n' c' : Nat), (binOp .eql 23 (.slice a n c) (.slice none n' c')).run Tryz.prog w = .ok (.bool a.isNone) w := fun w a n c n' c' => Lib.run_eql_slice_nil w _ _ a n c n' c' Tryz.underlying23
  go_enter Tryz.func32, Tryz.ntmps32
  go_wp2_with fail
  go_ret
  exact ⟨_, 0, rfl, World.ownsRow_lit w #[] 0 (Nat.le_refl _) (by decide) rfl, (Below.refl _ _).alloc (Nat.le_refl _) _⟩
/-- Rows that are cloned. -/
def ClPost (rows : List (List V)) (w : World) (e : Ending) (w' : World) : Prop := ∃ a c vs, e = .returned (.slice a rows.length c) ∧ vs.length = rows.length ∧ w'.ownsRow w.heap.size 35 1 (.slice a rows.length c) rows.length vs ∧ (∀ (j : Nat) x r, vs[j]? = some x → rows[j]? = some r → E.Sl w' x r) ∧ Below w.heap.size w w'
theorem cloneS_any (v : Value) (rows : List (List V)) (w : World) (h : SlR w v rows) (hl : rows.length ≤ 1000000) :
    Calls Tryz.prog 32 #[v] w (ClPost rows w) := by
  obtain ⟨vs, h1, h2, h3⟩ := h
  obtain ⟨a, c, rfl, hc, hcell⟩ := h1
  by_cases hn : vs = []
  · subst hn
    have hr : rows = [] := List.length_eq_zero_iff.1 h2.symm
    subst hr
    cases a with
    | none =>
      refine (AnyE.slices_Clone_nil Tryz.layCloneR 0 c w).mono ?_
      rintro en w' ⟨rfl, rfl⟩
      exact ⟨none, 0, [], rfl, rfl, World.ownsRow_nil _ _ _ _, fun j x r hx => by simp at hx, Below.refl _ _⟩
    | some a =>
      refine (clone0_any a c w).mono ?_
      rintro en w' ⟨a', c', rfl, ho, hb⟩
      exact ⟨a', c', [], rfl, rfl, ho, fun j x r hx => by simp at hx, hb⟩
  · obtain ⟨b, off, rfl, hb, hcell⟩ := hcell hn
    obtain ⟨i0, hi0, hz0', hz1, hz2⟩ := info_parts infoSl
    refine (AnyE.slices_Clone Tryz.layCloneR i0 (.slice none 0 0) 1 24 hi0 hz0' hz1 hz2 rfl (by decide) Tryz.sizeOf35 b off vs.length c vs w (by omega) (by unfold maxLen; omega) (by omega) (fun j u hj => ?_) (fun u hu => ?_)).mono ?_
    · have := hcell j u hj 0 u rfl
      rwa [Nat.mul_one, Nat.add_zero] at this
    · obtain ⟨j, hj, rfl⟩ := List.mem_iff_getElem.mp hu
      obtain ⟨a, c, e, _⟩ := h3 j _ _ (List.getElem?_eq_getElem hj) (List.getElem?_eq_getElem (by omega))
      rw [e]; rfl
    · rintro en w' ⟨v', rfl, ho, _, hb'⟩
      obtain ⟨a, c', rfl, _⟩ := own_slice ho
      rw [h2] at ho ⊢
      exact ⟨a, c', vs, rfl, h2, ho, fun j x r hx hr => (h3 j x r hx hr).up hb', hb'⟩
set_option maxHeartbeats 4000000 in
set_option maxRecDepth 100000 in
theorem sort0_any (g : Nat) (w : World) :
    Calls Tryz.prog 43 #[.slice none 0 0, stF g] w fun e w' => e = .returned (.tuple #[]) ∧ w' = w := by
  have HI : Hid (∀ W, Calls Tryz.prog 90 #[.slice none 0 0, .int .i64 0, .int .i64 0, stF g] W fun e w' => e = .returned (.tuple #[]) ∧ w' = W) := mkH (fun W => by
    unfold stF
    go_enter Tryz.func90, Tryz.ntmps90
    go_wp2_with fail
    go_loopw [8] (fun vi wr => vi = .int .i64 1 ∧ wr = W) (fun _ _ => 0)
    case atStart => exact ⟨rfl, rfl⟩
    case round =>
      obtain ⟨rfl, rfl⟩ := hrel
      go_wp2
      go_end0
      exact ⟨rfl, rfl⟩)
  have HS : Hid (∀ W, Calls Tryz.prog 81 #[.slice none 0 0, .int .i64 0, stF g] W fun e w' => e = .returned (.tuple #[]) ∧ w' = W) := mkH (fun W => by
    unfold stF at HI ⊢
    go_enter Tryz.func81, Tryz.ntmps81
    go_wp2_with fail
    go_loopw [7, 8] (fun va vb wr => va = .int .i64 0 ∧ vb = .int .i64 20 ∧ wr = W) (fun _ _ _ => 0)
    case atStart => exact ⟨rfl, rfl, rfl⟩
    case round =>
      obtain ⟨rfl, rfl, rfl⟩ := hrel
      go_wp2_with fail
      refine (HI.out _).mono ?_
      rintro e w2 ⟨rfl, rfl⟩
      go_wp2_with fail
      go_loopw [6] (fun va wr => va = .int .i64 20 ∧ wr = w2) (fun _ _ => 0)
      case atStart => exact ⟨rfl, rfl⟩
      case round =>
        obtain ⟨rfl, rfl⟩ := hrel
        go_wp2
        go_end0
        exact ⟨rfl, rfl⟩)
  clear HI
  unfold stF at HS ⊢
  go_enter Tryz.func43, Tryz.ntmps43
  go_wp2_with fail
  refine (HS.out _).mono ?_
  rintro e w2 ⟨rfl, rfl⟩
  go_wp2
  go_end0
  exact ⟨rfl, rfl⟩
end Go.Proofs.YtlnkbhbpkmnkaaaGreatDoor.F
