/- What encode.inRuns does, said of every call. -/
import Derived.Test.YtodemklghajdeaaGreatDoorEW6
namespace Go.Proofs.YtodemklghajdeaaGreatDoor.E
open Go.RowKit Go.Proofs Go.Shelf

def lenOf : Value → Nat
  | .slice _ n _ => n
  | _ => 0
theorem runsB_fuel : ∀ (f : Nat) (l : List V), l.length ≤ f → runsB f l = runsB l.length l
  | 0, [], _ => rfl
  | 0, _ :: _, h => by simp at h
  | f + 1, [], _ => rfl
  | f + 1, v :: l, h => by
    have hs := same_le v l
    have h1 : (l.drop (same v l)).length ≤ f := by simp at h ⊢; omega
    have h2 : (l.drop (same v l)).length ≤ l.length := by simp
    simp only [List.length_cons, runsB]
    rw [runsB_fuel f _ h1, runsB_fuel l.length _ h2]
theorem find_same (v : V) : ∀ l : List V, findI (fun y => !decide (y = v)) l = same v l
  | [] => rfl
  | x :: l => by
    unfold findI same
    by_cases h : x = v
    · simp [h, find_same v l]
    · simp [h]
theorem runsB_cons (v : V) (l : List V) : runsB (v :: l).length (v :: l) = Lib.uvarint (same v l + 1) ++ valB v ++ runsB (l.drop (same v l)).length (l.drop (same v l)) := by
  simp only [List.length_cons, runsB]
  rw [runsB_fuel _ _ (by simp)]
theorem same_cons (v : V) (l : List V) : same v (v :: l) = same v l + 1 := by simp [same]
theorem ownsRow_up {w W : World} {B e z n : Nat} {v : Value} {xs : List Value} (h : w.ownsRow B e z v n xs) (hb : Below w.heap.size w W) : W.ownsRow B e z v n xs := by
  refine ⟨h.1, ?_⟩
  rcases h.2 with h' | ⟨g, cap, cur, e1, e2, e3, e4⟩
  · exact .inl h'
  · refine .inr ⟨g, cap, cur, e1, e2, ?_, e4⟩
    rw [hb.block g (by
      rcases Nat.lt_or_ge g w.heap.size with h' | h'
      · exact h'
      · rw [Array.getElem?_eq_none h'] at e3; cases e3)]
    exact e3
theorem ownsRow_base {w : World} {B B' e z n : Nat} {v : Value} {xs : List Value} (h : w.ownsRow B e z v n xs) (hB : B' ≤ B) : w.ownsRow B' e z v n xs := by
  refine ⟨h.1, ?_⟩
  rcases h.2 with h' | ⟨g, cap, cur, e1, e2, e3⟩
  · exact .inl h'
  · exact .inr ⟨g, cap, cur, e1, Nat.le_trans hB e2, e3⟩
theorem Few.drop {l : List V} (h : Few l) (k : Nat) : Few (l.drop k) := ⟨by have := h.1; simp; omega, fun x hx => h.2 x (List.mem_of_mem_drop hx)⟩
theorem blk_lt {w : World} {b : Nat} {o : Obj} (h : w.heap[b]? = some o) : b < w.heap.size := by
  rcases Nat.lt_or_ge b w.heap.size with h' | h'
  · exact h'
  · rw [Array.getElem?_eq_none h'] at h; cases h
theorem blk_up {w W : World} {b : Nat} {o : Obj} (h : w.heap[b]? = some o) (hb : Below w.heap.size w W) : W.heap[b]? = some o := (hb.block b (blk_lt h)).trans h
theorem runsB_len (l : List V) (h : ∀ x ∈ l, -9223372036854775808 ≤ x.2.1 ∧ x.2.1 ≤ 9223372036854775807 ∧ x.2.2.size ≤ 40) (hl : l.length ≤ 1000) : ∀ f, (runsB f l).length ≤ f * 60 := by
  intro f
  induction f generalizing l with
  | zero => simp [runsB]
  | succ f ih =>
    cases l with
    | nil => simp [runsB]
    | cons v l =>
      have h1 := valB_len (h v (by simp))
      have hs := same_le v l
      have h2 := ih (l.drop (same v l)) (fun x hx => h x (by simp [List.mem_of_mem_drop hx])) (by simp at hl ⊢; omega)
      have h3 := Lib.uvarint_length64 (x := same v l + 1) (by simp at hl; omega)
      simp only [runsB, List.length_append]; omega

theorem append_ctr {w : World} {B bx n : Nat} {vb : Value} {cs : Array Value} {xs : List Value} (x : Nat) (W : World) (hx : x < 9223372036854775808) (hB : B ≤ w.heap.size) (ho : W.ownsRow B 5 1 vb n xs) (hn : n ≤ 1000000) (hw : Wr B w W) (hb : W.heap[bx]? = some (.cells cs 45)) :
    Calls Tryz.prog 35 #[vb, .int .u64 (IntKind.u64.wrap (x : Int))] W fun e w' => ∃ v', e = .returned v' ∧ w'.ownsRow B 5 1 v' (n + (Lib.uvarint x).length) (xs ++ Lib.byteCells (Lib.uvarint x)) ∧ Wr B w w' ∧ w'.heap[bx]? = some (.cells cs 45) := by
  rw [show IntKind.u64.wrap (x : Int) = ((x : Nat) : Int) by rw [IntKind.wrap_u64]; omega]
  exact (append_any B n x (by omega) vb xs W ho (by have := hw.1.size; omega) (by omega)).mono fun e w' ⟨v', he, h2, h3⟩ => ⟨v', he, h2, hw.trans h3, cell_of_wr h3 hb (by decide)⟩
theorem value_ctr {w : World} {B bx n : Nat} {vb : Value} {cs : Array Value} {xs : List Value} (k x : Int) (t : ByteArray) (W : World) (hr : -9223372036854775808 ≤ x ∧ x ≤ 9223372036854775807 ∧ t.size ≤ 40) (hB : B ≤ w.heap.size) (ho : W.ownsRow B 5 1 vb n xs) (hn : n ≤ 1000000) (hw : Wr B w W) (hb : W.heap[bx]? = some (.cells cs 45)) :
    Calls Tryz.prog 160 #[vb, .agg #[.int .i64 k, .int .i64 x, .string t]] W fun e w' => ∃ v', e = .returned v' ∧ w'.ownsRow B 5 1 v' (n + (valB (k, x, t)).length) (xs ++ Lib.byteCells (valB (k, x, t))) ∧ Wr B w w' ∧ w'.heap[bx]? = some (.cells cs 45) :=
  (appendValue_any B n k x t hr.1 hr.2.1 (by omega) vb xs W ho (by have := hw.1.size; omega) hn).mono fun e w' ⟨v', he, h2, h3⟩ => ⟨v', he, h2, hw.trans h3, cell_of_wr h3 hb (by decide)⟩
theorem cell_box {W : World} {bx : Nat} {k n : Int} {t : ByteArray} (h : W.heap[bx]? = some (.cells #[.int .i64 k, .int .i64 n, .string t] 45)) :
    W.cell? ⟨bx, 0, none⟩ = some (.int .i64 k) ∧ W.cell? ⟨bx, 1, none⟩ = some (.int .i64 n) ∧ W.cell? ⟨bx, 2, none⟩ = some (.string t) := by
  simp [World.cell?, h]

theorem idx45 {w wr : World} {L : List V} {b off c : Nat} (kx nx : Int) (tx : ByteArray) (hS : Sl w (.slice (some ⟨b, off, none⟩) L.length c) L) (hw : Below w.heap.size w wr) (hl : L.length ≤ 1000) :
    Calls Tryz.prog 141 #[.slice (some ⟨b, off, none⟩) L.length c, .func (.func 159) #[] #[.pointer (some ⟨wr.heap.size, 0, none⟩)]] (wr.alloc (.cells #[.int .i64 kx, .int .i64 nx, .string tx] 45)) fun e w' => e = .returned (.int .i64 (idxI (fun y => !decide (y = ((kx, nx, tx) : V))) L)) ∧ Below (wr.alloc (.cells #[.int .i64 kx, .int .i64 nx, .string tx] 45)).heap.size (wr.alloc (.cells #[.int .i64 kx, .int .i64 nx, .string tx] 45)) w' ∧ w'.heap[wr.heap.size]? = some (.cells #[.int .i64 kx, .int .i64 nx, .string tx] 45) := by
  have hup : Below w.heap.size w (wr.alloc (.cells #[.int .i64 kx, .int .i64 nx, .string tx] 45)) := hw.alloc hw.size _
  have hbox : (wr.alloc (.cells #[.int .i64 kx, .int .i64 nx, .string tx] 45)).heap[wr.heap.size]? = some (.cells #[.int .i64 kx, .int .i64 nx, .string tx] 45) := heap_alloc_new _ _
  refine (indexFunc_any 159 #[.pointer (some ⟨wr.heap.size, 0, none⟩)] (fun y => !decide (y = ((kx, nx, tx) : V))) (enters_of Tryz.func159 (by kernel_rfl) rfl) _ L _ (hS.up hup) hl ?_).mono fun e w' ⟨he, hb⟩ => ⟨he, hb, blk_up hbox hb⟩
  intro W x _ hW
  have hbox' := blk_up hbox hW
  obtain ⟨d0, d1, d2⟩ := cell_box hbox'
  exact (closure45_any x.1 x.2.1 kx nx x.2.2 tx wr.heap.size W (blk_lt hbox') d0 d1 d2).mono fun e w' ⟨he, hb⟩ => ⟨he, hW.trans (hb.mono hW.size)⟩

set_option maxHeartbeats 8000000 in
set_option maxRecDepth 100000 in
theorem inRuns_any (v : Value) (l : List V) (w : World) (hs : Sl w v l) (hf : Few l) :
    Calls Tryz.prog 142 #[v] w fun e w' => ∃ v', e = .returned v' ∧ w'.ownsRow w.heap.size 5 1 v' (runsB l.length l).length (Lib.byteCells (runsB l.length l)) ∧ Wr w.heap.size w w' := by
  have HS := mkHid hs
  have HF := mkHid hf
  have HN : Hid ((runsB l.length l).length ≤ 3600) := by have h1 := runsB_len l hf.2 (by have := hf.1; omega) l.length; have h2 := hf.1; show (runsB l.length l).length ≤ 3600; omega
  obtain ⟨a, c, rfl, _, _⟩ := hs
  clear hf
  have e45 : ∀ args w, (callFunc 159 args).run Tryz.prog w = .ok (.enter 159 args) w := enters_of Tryz.func159 (by kernel_rfl) rfl
  go_enter Tryz.func142, Tryz.ntmps142
  go_wp2
  go_loopw [0, 3] (fun v0 vb wr => ∃ (L : List V) (pre : List UInt8), Hid (Sl w v0 L) ∧ Hid (Few L) ∧ Hid (runsB l.length l = pre ++ runsB L.length L) ∧ Hid (wr.ownsRow w.heap.size 5 1 vb pre.length (Lib.byteCells pre)) ∧ Hid (Wr w.heap.size w wr)) (fun v0 _ _ => lenOf v0)
  case atStart => exact ⟨l, [], HS, HF, mkHid rfl, World.ownsRow_nil _ _ _ _, Wr.refl _ _⟩
  case round =>
    obtain ⟨L, pre, hS, hF, hR, ho, hw⟩ := hrel
    obtain ⟨a, c, rfl, hcp, hl⟩ := hS.out
    cases L with
    | nil =>
      have HE : Hid (runsB l.length l = pre) := mkHid (by rw [hR.out]; simp [runsB])
      have hl0 : ([] : List V).length = 0 := rfl
      clear hl
      rw [hl0]
      go_wp2
      go_ret
      exact ⟨_, rfl, by rw [HE.out]; exact ho.out, hw.out⟩
    | cons x R =>
      obtain ⟨kx, nx, tx⟩ := x
      obtain ⟨b, off, rfl, hb, hc⟩ := hl (by simp)
      obtain ⟨g0, g1, g2⟩ := hc 0 _ rfl
      simp only [Nat.zero_mul, Nat.add_zero] at g0 g1 g2
      have c0 : wr.cell? ⟨b, off, none⟩ = some (.int .i64 kx) := (hw.out.1.cell (p := ⟨b, off, none⟩) hb).trans g0
      have c1 : wr.cell? ⟨b, off + 1, none⟩ = some (.int .i64 nx) := (hw.out.1.cell (p := ⟨b, off + 1, none⟩) hb).trans g1
      have c2 : wr.cell? ⟨b, off + 2, none⟩ = some (.string tx) := (hw.out.1.cell (p := ⟨b, off + 2, none⟩) hb).trans g2
      have hsz := hw.out.1.size
      have HI := mkHid (idx45 (w := w) (wr := wr) (L := (kx, nx, tx) :: R) (c := c) (b := b) (off := off) kx nx tx hS.out hw.out.1 (by have := hF.out.1; omega))
      have hle := same_le (kx, nx, tx) R
      have hfl := hF.out.1
      have HRC := mkHid (runsB_cons (kx, nx, tx) R)
      have HV := hF.out.get (j := 0) (x := (kx, nx, tx)) rfl
      have HPL : Hid (pre.length ≤ 3600) := by have h1 := congrArg List.length hR.out; rw [List.length_append] at h1; have h2 := HN.out; show pre.length ≤ 3600; omega
      have HCV := mkHid (fun W vb' n' xs' h1 h2 h3 h4 => value_ctr (w := w) (B := w.heap.size) (bx := wr.heap.size) (n := n') (vb := vb') (cs := #[.int .i64 kx, .int .i64 nx, .string tx]) (xs := xs') kx nx tx W HV (Nat.le_refl _) h1 h2 h3 h4)
      have HCA := mkHid (fun W x vb' n' xs' h0 h1 h2 h3 h4 => append_ctr (w := w) (B := w.heap.size) (bx := wr.heap.size) (n := n') (vb := vb') (cs := #[.int .i64 kx, .int .i64 nx, .string tx]) (xs := xs') x W h0 (Nat.le_refl _) h1 h2 h3 h4)
      simp only [List.length_cons] at HI hcp hfl ⊢
      generalize hn : R.length = n at *
      obtain ⟨r, hrn⟩ : ∃ r, r = same (kx, nx, tx) R + 1 := ⟨_, rfl⟩
      have HRN := mkHid hrn
      have HNL := mkHid hn
      have hr1 : 1 ≤ r := by omega
      have hr2 : r ≤ n + 1 := by omega
      have hsz2 : w.heap.size ≤ wr.heap.size + 1 := by omega
      have HWB : Hid (Wr w.heap.size w (wr.alloc (.cells #[.int .i64 kx, .int .i64 nx, .string tx] 45))) := hw.out.alloc hsz _
      have HOB : Hid ((wr.alloc (.cells #[.int .i64 kx, .int .i64 nx, .string tx] 45)).ownsRow w.heap.size 5 1 _ pre.length (Lib.byteCells pre)) := mkHid (ho.out.alloc _)
      have HEND : Hid (∀ (v0' : Value) (w4 : World), w4.ownsRow w.heap.size 5 1 v0' (pre.length + (Lib.uvarint r).length + (valB (kx, nx, tx)).length) (Lib.byteCells pre ++ Lib.byteCells (Lib.uvarint r) ++ Lib.byteCells (valB (kx, nx, tx))) → ∃ pre', runsB l.length l = pre' ++ runsB (R.drop (same (kx, nx, tx) R)).length (R.drop (same (kx, nx, tx) R)) ∧ w4.ownsRow w.heap.size 5 1 v0' pre'.length (Lib.byteCells pre')) := fun v0' w4 h4 => ⟨pre ++ Lib.uvarint r ++ valB (kx, nx, tx), by rw [hR.out, HRC.out, HRN.out]; simp, by rw [List.length_append, List.length_append, byteCells_app, byteCells_app]; exact h4⟩
      have HUL : Hid ((Lib.uvarint r).length ≤ 10) := Lib.uvarint_length64 (by omega)
      have HSD : Hid (∀ a' c', n + 1 - r ≤ c' → (r < n + 1 → a' = some ⟨b, off + r * 3, none⟩) → Sl w (.slice a' (n + 1 - r) c') (R.drop (same (kx, nx, tx) R)) ∧ (R.drop (same (kx, nx, tx) R)).length = n + 1 - r) := fun a' c' h1 h2 => by
        have hlen : (R.drop (same (kx, nx, tx) R)).length = n + 1 - r := by simp; have := HNL.out; have := HRN.out; omega
        refine ⟨⟨a', c', by rw [hlen], by rw [hlen]; exact h1, fun hne => ⟨b, off + r * 3, h2 ?_, hb, fun j x hj => ?_⟩⟩, hlen⟩
        · rcases Nat.lt_or_ge r (n + 1) with h' | h'
          · exact h'
          · exact absurd (List.eq_nil_of_length_eq_zero (by omega)) hne
        · have := hc (r + j) x (by rw [HRN.out, Nat.add_right_comm, List.getElem?_cons_succ]; rwa [List.getElem?_drop] at hj)
          rw [show off + r * 3 + j * 3 = off + (r + j) * 3 by omega]
          exact this
      have HFD : Hid (Few (R.drop (same (kx, nx, tx) R))) := by have := hF.out.drop (same (kx, nx, tx) R + 1); rw [List.drop_succ_cons] at this; exact this
      clear hn hrn g0 g1 g2 hl HV hle
      have hidx : idxI (fun y => !decide (y = ((kx, nx, tx) : V))) ((kx, nx, tx) :: R) = if r < n + 1 then ((r : Nat) : Int) else -1 := by
        unfold idxI; rw [find_same, same_cons, ← HRN.out, List.length_cons, HNL.out]
      rw [hidx] at HI
      clear hidx
      by_cases hA : r < n + 1
      · rw [if_pos hA] at HI
        go_wp2_with (go_at_call 141; refine HI.out.mono ?_; rintro e w2 ⟨rfl, hb2, hbx2⟩)
        have HA := mkHid (HCA.out w2.drew r _ _ _ (by omega) (ownsRow_up HOB.out hb2.drew) (by have := HPL.out; omega) (HWB.out.trans (Wr.of_below hb2 (by simp; omega))).drew hbx2)
        go_region_held3 (fun w' => w'.cell? ⟨wr.heap.size, 0, none⟩ = some (.int .i64 kx) ∧ w'.cell? ⟨wr.heap.size, 1, none⟩ = some (.int .i64 nx) ∧ w'.cell? ⟨wr.heap.size, 2, none⟩ = some (.string tx))
          (first
            | (go_keep; done)
            | exact cell_box hbx2
            | exact cell_box hbx3
            | exact cell_box hbx4)
          (first
            | (go_at_call 35; refine HA.out.mono ?_; rintro e w3 ⟨v3, rfl, ho3, hw3, hbx3⟩)
            | (go_at_call 160; refine (HCV.out _ _ _ _ ho3 ?_ hw3 hbx3).mono ?_; (have := HPL.out; have := HUL.out; omega); rintro e w4 ⟨v4, rfl, ho4, hw4, hbx4⟩))
        obtain ⟨pre', hR', ho'⟩ := HEND.out _ _ ho4
        have HR' := mkHid hR'
        have HO' := mkHid ho'
        clear hR' ho'
        go_wp2
        obtain ⟨hSl, _⟩ := HSD.out (some ⟨b, off + r * 3, none⟩) (c - r) (by omega) (fun _ => rfl)
        exact ⟨⟨_, pre', mkHid hSl, HFD, HR', HO', mkHid hw4⟩, by show n + 1 - r < n + 1; omega⟩
      · rw [if_neg hA] at HI
        have er : ((r : Nat) : Int) = (n : Int) + 1 := by omega
        go_wp2_with (go_at_call 141; refine HI.out.mono ?_; rintro e w2 ⟨rfl, hb2, hbx2⟩)
        have HA := HCA.out w2.drew r _ _ _ (by omega) (ownsRow_up HOB.out hb2.drew) (by have := HPL.out; omega) (HWB.out.trans (Wr.of_below hb2 (by simp; omega))).drew hbx2
        rw [er] at HA
        have HA := mkHid HA
        clear er
        go_region_held3 (fun w' => w'.cell? ⟨wr.heap.size, 0, none⟩ = some (.int .i64 kx) ∧ w'.cell? ⟨wr.heap.size, 1, none⟩ = some (.int .i64 nx) ∧ w'.cell? ⟨wr.heap.size, 2, none⟩ = some (.string tx))
          (first
            | (go_keep; done)
            | exact cell_box hbx2
            | exact cell_box hbx3
            | exact cell_box hbx4)
          (first
            | (go_at_call 35; refine HA.out.mono ?_; rintro e w3 ⟨v3, rfl, ho3, hw3, hbx3⟩)
            | (go_at_call 160; refine (HCV.out _ _ _ _ ho3 ?_ hw3 hbx3).mono ?_; (have := HPL.out; have := HUL.out; omega); rintro e w4 ⟨v4, rfl, ho4, hw4, hbx4⟩))
        obtain ⟨pre', hR', ho'⟩ := HEND.out _ _ ho4
        have HR' := mkHid hR'
        have HO' := mkHid ho'
        clear hR' ho'
        go_wp2
        obtain ⟨hSl, _⟩ := HSD.out (if c = n + 1 then some ⟨b, off, none⟩ else some ⟨b, off + (n + 1) * 3, none⟩) (c - (n + 1)) (by omega) (fun h => absurd h hA)
        rw [show n + 1 - r = 0 by omega] at hSl
        exact ⟨⟨_, pre', mkHid hSl, HFD, HR', HO', mkHid hw4⟩, by show 0 < n + 1; omega⟩
end Go.Proofs.YtodemklghajdeaaGreatDoor.E
