/- Slices of values in memory; what is known, as it lies in memory; what stats.Of does, said of every call. -/
import Derived.Test.YtmghdphafepifaaDoorB3
import Derived.Lib.SmallJoins
import Derived.Deep.RegionWith
namespace Go.Proofs.YtmghdphafepifaaDoor
open Go.RowKit Go.Joins

/-- The slice v holds the values l. -/
def Sl (w : World) (v : Value) (l : List V) : Prop :=
  ∃ a c, v = .slice a l.length c ∧ l.length ≤ c ∧ (l ≠ [] → ∃ b off, a = some ⟨b, off, none⟩ ∧ b < w.heap.size ∧
    ∀ j x, l[j]? = some x → w.cell? ⟨b, off + j * 3, none⟩ = some (.int .i64 x.1) ∧ w.cell? ⟨b, off + j * 3 + 1, none⟩ = some (.int .i64 x.2.1) ∧ w.cell? ⟨b, off + j * 3 + 2, none⟩ = some (.string x.2.2))
theorem Sl.up {w W : World} {v : Value} {l : List V} (h : Sl w v l) (hb : Below w.heap.size w W) : Sl W v l := by
  obtain ⟨a, c, e, hcp, hl⟩ := h
  refine ⟨a, c, e, hcp, fun hne => ?_⟩
  obtain ⟨b, off, ea, hlt, hc⟩ := hl hne
  refine ⟨b, off, ea, Nat.lt_of_lt_of_le hlt hb.size, fun j x hj => ?_⟩
  obtain ⟨h0, h1, h2⟩ := hc j x hj
  exact ⟨(hb.cell (p := ⟨b, off + j * 3, none⟩) hlt).trans h0, (hb.cell (p := ⟨b, off + j * 3 + 1, none⟩) hlt).trans h1, (hb.cell (p := ⟨b, off + j * 3 + 2, none⟩) hlt).trans h2⟩
theorem getEx {α : Type} {l : List α} {k : Nat} (h : k < l.length) : ∃ x, l[k]? = some x := ⟨_, List.getElem?_eq_getElem h⟩
theorem take_one_more {α : Type} {l : List α} {k : Nat} {x : α} (h : l[k]? = some x) : l.take (k + 1) = l.take k ++ [x] := by
  have hk : k < l.length := by
    rcases Nat.lt_or_ge k l.length with h' | h'
    · exact h'
    · rw [List.getElem?_eq_none h'] at h; cases h
  rw [List.take_succ_eq_append_getElem hk]
  rw [List.getElem?_eq_getElem hk] at h
  injection h with h
  rw [h]

def stOf (l : List V) : St := l.foldl (fun s v => bothS s (oneS v)) zeroS
theorem stOf_next {l : List V} {k : Nat} {x : V} (h : l[k]? = some x) : stOf (l.take (k + 1)) = bothS (stOf (l.take k)) (oneS x) := by
  rw [take_one_more h]; simp [stOf]
theorem oneS_cnt (x : V) : (oneS x).1 = 1 ∧ 0 ≤ (oneS x).2.1 ∧ (oneS x).2.1 ≤ 1 := by unfold oneS; split <;> simp
theorem stOf_snoc (l : List V) (x : V) : stOf (l ++ [x]) = bothS (stOf l) (oneS x) := by simp [stOf]
theorem stOf_take_cnt (l : List V) : ∀ k, k ≤ l.length → (stOf (l.take k)).1 = k ∧ 0 ≤ (stOf (l.take k)).2.1 ∧ (stOf (l.take k)).2.1 ≤ k
  | 0, _ => by simp [stOf, zeroS]
  | k + 1, h => by
    obtain ⟨x, hx⟩ := getEx (show k < l.length by omega)
    have ih := stOf_take_cnt l k (by omega)
    have ho := oneS_cnt x
    rw [stOf_next hx]
    simp only [bothS]; omega
theorem isSt_take (l : List V) (hn : ∀ x ∈ l, 0 ≤ x.1) : ∀ k, k ≤ l.length → IsSt (l.take k) (stOf (l.take k))
  | 0, _ => IsSt.nil
  | k + 1, h => by
    obtain ⟨x, hx⟩ := getEx (show k < l.length by omega)
    rw [stOf_next hx, take_one_more hx]
    exact (isSt_take l hn k (by omega)).both (IsSt.single x) (fun y hy => hn y (List.mem_of_mem_take hy)) (fun y hy => by rw [List.mem_singleton.1 hy]; exact hn x (List.mem_of_getElem? hx))
theorem isSt_of (l : List V) (hn : ∀ x ∈ l, 0 ≤ x.1) : IsSt l (stOf l) := by
  have := isSt_take l hn l.length (Nat.le_refl _)
  rwa [List.take_of_length_le (Nat.le_refl _)] at this

/-- What is known, as its eight cells. -/
def cellsS (s : St) : Array Value := #[.int .i64 s.1, .int .i64 s.2.1, .int .i64 s.2.2.1.1, .int .i64 s.2.2.1.2.1, .string s.2.2.1.2.2, .int .i64 s.2.2.2.1, .int .i64 s.2.2.2.2.1, .string s.2.2.2.2.2]
def KAt (w : World) (g : Nat) (s : St) : Prop := w.heap[g]? = some (.cells (cellsS s) 45)
theorem KAt.lt {w : World} {g : Nat} {s : St} (h : KAt w g s) : g < w.heap.size := by
  rcases Nat.lt_or_ge g w.heap.size with h' | h'
  · exact h'
  · unfold KAt at h; rw [Array.getElem?_eq_none h'] at h; cases h
theorem KAt.up {w W : World} {g : Nat} {s : St} (h : KAt w g s) (hb : Below w.heap.size w W) : KAt W g s := (hb.block g h.lt).trans h
theorem KAt.cells {w : World} {g : Nat} {c m k n : Int} {t : ByteArray} {k' n' : Int} {t' : ByteArray} (h : KAt w g (c, m, (k, n, t), (k', n', t'))) :
    w.cell? ⟨g, 0, none⟩ = some (.int .i64 c) ∧ w.cell? ⟨g, 1, none⟩ = some (.int .i64 m) ∧ w.cell? ⟨g, 2, none⟩ = some (.int .i64 k) ∧ w.cell? ⟨g, 3, none⟩ = some (.int .i64 n) ∧ w.cell? ⟨g, 4, none⟩ = some (.string t) ∧ w.cell? ⟨g, 5, none⟩ = some (.int .i64 k') ∧ w.cell? ⟨g, 6, none⟩ = some (.int .i64 n') ∧ w.cell? ⟨g, 7, none⟩ = some (.string t') :=
  ⟨cell_of_block h 0, cell_of_block h 1, cell_of_block h 2, cell_of_block h 3, cell_of_block h 4, cell_of_block h 5, cell_of_block h 6, cell_of_block h 7⟩
theorem KAt.free {w : World} {g : Nat} {s : St} (h : KAt w g s) :
    w.frozen? ⟨g, 0, none⟩ = false ∧ w.frozen? ⟨g, 1, none⟩ = false ∧ w.frozen? ⟨g, 2, none⟩ = false ∧ w.frozen? ⟨g, 3, none⟩ = false ∧ w.frozen? ⟨g, 4, none⟩ = false ∧ w.frozen? ⟨g, 5, none⟩ = false ∧ w.frozen? ⟨g, 6, none⟩ = false ∧ w.frozen? ⟨g, 7, none⟩ = false :=
  ⟨unfrozen_of_block h 0, unfrozen_of_block h 1, unfrozen_of_block h 2, unfrozen_of_block h 3, unfrozen_of_block h 4, unfrozen_of_block h 5, unfrozen_of_block h 6, unfrozen_of_block h 7⟩
theorem KAt.put {w : World} {g : Nat} {s s' : St} (h : KAt w g s) :
    KAt ((((((((w.setCell ⟨g, 0, none⟩ (.int .i64 s'.1)).setCell ⟨g, 1, none⟩ (.int .i64 s'.2.1)).setCell ⟨g, 2, none⟩ (.int .i64 s'.2.2.1.1)).setCell ⟨g, 3, none⟩ (.int .i64 s'.2.2.1.2.1)).setCell ⟨g, 4, none⟩ (.string s'.2.2.1.2.2)).setCell ⟨g, 5, none⟩ (.int .i64 s'.2.2.2.1)).setCell ⟨g, 6, none⟩ (.int .i64 s'.2.2.2.2.1)).setCell ⟨g, 7, none⟩ (.string s'.2.2.2.2.2)) g s' := by
  unfold KAt at h ⊢
  rw [block_setCell (block_setCell (block_setCell (block_setCell (block_setCell (block_setCell (block_setCell (block_setCell h _) _) _) _) _) _) _) _]
  simp [cellsS]
theorem KAt.put' {w : World} {g : Nat} {s s' : St} {c m k n : Int} {t : ByteArray} {k' n' : Int} {t' : ByteArray} (h : KAt w g s) (e : s' = (c, m, (k, n, t), (k', n', t'))) :
    KAt ((((((((w.setCell ⟨g, 0, none⟩ (.int .i64 c)).setCell ⟨g, 1, none⟩ (.int .i64 m)).setCell ⟨g, 2, none⟩ (.int .i64 k)).setCell ⟨g, 3, none⟩ (.int .i64 n)).setCell ⟨g, 4, none⟩ (.string t)).setCell ⟨g, 5, none⟩ (.int .i64 k')).setCell ⟨g, 6, none⟩ (.int .i64 n')).setCell ⟨g, 7, none⟩ (.string t')) g s' := by
  subst e
  have := KAt.put (s' := (c, m, (k, n, t), (k', n', t'))) h
  exact this
theorem KAt.off {w : World} {g r i : Nat} {s : St} {v : Value} (h : KAt w r s) (hn : r < g) : KAt (w.setCell ⟨g, i, none⟩ v) r s :=
  (((Below.refl g w).setCell (Nat.le_refl _) v).block r hn).trans h
theorem KAt.off8 {w : World} {g r : Nat} {s : St} {v0 v1 v2 v3 v4 v5 v6 v7 : Value} (h : KAt w r s) (hn : r < g) :
    KAt ((((((((w.setCell ⟨g, 0, none⟩ v0).setCell ⟨g, 1, none⟩ v1).setCell ⟨g, 2, none⟩ v2).setCell ⟨g, 3, none⟩ v3).setCell ⟨g, 4, none⟩ v4).setCell ⟨g, 5, none⟩ v5).setCell ⟨g, 6, none⟩ v6).setCell ⟨g, 7, none⟩ v7) r s :=
  (((((((h.off hn).off hn).off hn).off hn).off hn).off hn).off hn).off hn

theorem heap_new1 (w : World) (X Y : Obj) : ((w.alloc X).alloc Y).heap[w.heap.size + 1]? = some Y := by
  rw [← show (w.alloc X).heap.size = w.heap.size + 1 by simp]
  exact heap_alloc_new _ _

set_option maxHeartbeats 8000000 in
set_option maxRecDepth 100000 in
theorem of_any (v : Value) (l : List V) (w : World) (hs : Sl w v l) (hl : l.length ≤ 40) :
    Calls Tryd.prog 19 #[v] w fun e w' => e = .returned (.agg (cellsS (stOf l))) ∧ Below w.heap.size w w' := by
  obtain ⟨a, c, rfl, _, hL⟩ := hs
  have HL := mkH hL
  clear hL
  go_enter Tryd.func19, Tryd.ntmps19
  go_wp2
  go_loopw [8] (fun vi wr => ∃ k : Nat, k ≤ l.length ∧ vi = .int .i64 k ∧ Hid (KAt wr w.heap.size zeroS ∧ KAt wr (w.heap.size + 1) (stOf (l.take k)) ∧ Below w.heap.size w wr)) (fun vi _ => l.length - (intOf vi).toNat)
  case atStart => exact ⟨0, Nat.zero_le _, rfl, ⟨(Below.heap_alloc _ _ _ (by simp)).trans (heap_alloc_new _ _), heap_new1 w _ _, below_a2 _ _ _⟩⟩
  case round =>
    obtain ⟨k, hk, rfl, hw⟩ := hrel
    by_cases hlt : k < l.length
    · obtain ⟨b, off, rfl, hb, hc⟩ := HL.out (by intro e; rw [e] at hlt; simp at hlt)
      obtain ⟨⟨kx, nx, tx⟩, hx⟩ := getEx hlt
      obtain ⟨g0, g1, g2⟩ := hc k _ hx
      have d0 : wr.cell? ⟨b, off + k * 3, none⟩ = some (.int .i64 kx) := (hw.out.2.2.cell (p := ⟨b, off + k * 3, none⟩) hb).trans g0
      have d1 : wr.cell? ⟨b, off + k * 3 + 1, none⟩ = some (.int .i64 nx) := (hw.out.2.2.cell (p := ⟨b, off + k * 3 + 1, none⟩) hb).trans g1
      have d2 : wr.cell? ⟨b, off + k * 3 + 2, none⟩ = some (.string tx) := (hw.out.2.2.cell (p := ⟨b, off + k * 3 + 2, none⟩) hb).trans g2
      have HN := mkH (stOf_next hx)
      have hcn := stOf_take_cnt l k (by omega)
      have hon := oneS_cnt (kx, nx, tx)
      have HO := mkH (ofOne_any kx nx tx)
      clear g0 g1 g2 hc hx
      generalize stOf (l.take k) = s1 at *
      generalize oneS (kx, nx, tx) = so at *
      obtain ⟨c1, m1, ⟨k1, n1, t1⟩, ⟨p1, q1, u1⟩⟩ := s1
      obtain ⟨c2, m2, ⟨k2, n2, t2⟩, ⟨p2, q2, u2⟩⟩ := so
      obtain ⟨e0, e1, e2, e3, e4, e5, e6, e7⟩ := hw.out.2.1.cells
      obtain ⟨f0, f1, f2, f3, f4, f5, f6, f7⟩ := hw.out.2.1.free
      have hgl := hw.out.2.1.lt
      have HB : Hid (∀ W, _) := mkH (fun W => both_any c1 m1 k1 n1 t1 p1 q1 u1 c2 m2 k2 n2 t2 p2 q2 u2 W (by simp only at hcn; omega) (by simp only at hcn; omega) (by simp only at hon; omega) (by simp only at hon; omega) (by simp only at hcn; omega) (by simp only at hcn; omega) (by simp only at hon; omega) (by simp only at hon; omega))
      clear hcn hon
      have hn1 : ¬ wr.heap.size = w.heap.size + 1 := by omega
      have hn2 : ¬ w.heap.size + 1 = wr.heap.size := by omega
      have hz : w.heap.size + 1 < wr.heap.size + 1 := by omega
      go_wp2_with fail
      go_region_with (first
          | (go_at_call 37; refine (HO.out _).mono ?_; rintro e w1 ⟨rfl, hb1⟩; obtain ⟨hcl, hfl⟩ := bcell hb1; have z0 : w.heap.size + 1 < w1.heap.size := Nat.lt_of_lt_of_le (by first | assumption | (simp; done) | (simp; omega)) hb1.size; have z1 : wr.heap.size < w1.heap.size := Nat.lt_of_lt_of_le (by first | assumption | (simp; done) | (simp; omega)) hb1.size)
          | (go_at_call 24; refine (HB.out _).mono ?_; rintro e w2 ⟨rfl, hb2⟩; obtain ⟨hcg, hfg⟩ := bcell hb2; have y0 : w.heap.size + 1 < w2.heap.size := Nat.lt_of_lt_of_le (by first | assumption | (simp; done) | (simp; omega)) hb2.size; have y1 : wr.heap.size < w2.heap.size := Nat.lt_of_lt_of_le (by first | assumption | (simp; done) | (simp; omega)) hb2.size))
      all_goals
        go_wp2
        go_roundw
        case rel =>
          have B2 : Below wr.heap.size wr w2 := Below.ups (Below.ups (((Below.refl _ wr).alloc (Nat.le_refl _) _).drew) hb1) hb2
          exact ⟨k + 1, by omega, by go_num, mkH ⟨(hw.out.1.up B2).off8 (by omega), KAt.put' (hw.out.2.1.up B2) (HN.out.trans rfl), b8c (Below.ups hw.out.2.2 B2) (by omega) _ _ _ _ _ _ _ _⟩⟩
        case measure => simp [intOf]; omega
    · have e : l.take k = l := List.take_of_length_le (by omega)
      rw [e] at hw
      clear e HL
      obtain ⟨s1, hs1⟩ : ∃ s1, stOf l = s1 := ⟨_, rfl⟩
      rw [hs1] at hw
      have HE := mkH hs1
      clear hs1
      obtain ⟨c1, m1, ⟨k1, n1, t1⟩, ⟨p1, q1, u1⟩⟩ := s1
      obtain ⟨e0, e1, e2, e3, e4, e5, e6, e7⟩ := hw.out.2.1.cells
      obtain ⟨z0, z1, z2, z3, z4, z5, z6, z7⟩ := KAt.cells (c := 0) (m := 0) (k := 0) (n := 0) (t := ⟨#[]⟩) (k' := 0) (n' := 0) (t' := ⟨#[]⟩) hw.out.1
      obtain ⟨f0, f1, f2, f3, f4, f5, f6, f7⟩ := hw.out.1.free
      go_wp2
      exact bodyPost_ret (v := .agg #[.int .i64 c1, .int .i64 m1, .int .i64 k1, .int .i64 n1, .string t1, .int .i64 p1, .int .i64 q1, .string u1]) (by simp [results, Tryd.results19, go_sem, z0, z1, z2, z3, z4, z5, z6, z7]) rfl ⟨by rw [HE.out]; rfl, b8c hw.out.2.2 (Nat.le_refl _) _ _ _ _ _ _ _ _⟩
end Go.Proofs.YtmghdphafepifaaDoor
