/- What slices.Equal does at these values, and encode.inRuns with its closure, said of every call. -/
import Derived.Test.YtodemklghajdeaaGreatDoorEW4
namespace Go.Proofs.YtodemklghajdeaaGreatDoor.E
open Go.RowKit Go.Proofs Go.Shelf

theorem eqV_is (kx nx ky ny : Int) (tx ty : ByteArray) (w : World) : (Op.equalIn 10000 45 (.agg #[.int .i64 kx, .int .i64 nx, .string tx]) (.agg #[.int .i64 ky, .int .i64 ny, .string ty])).run Tryz.prog w = .ok (decide (((kx, nx, tx) : V) = (ky, ny, ty))) w := eqV_run (kx, nx, tx) (ky, ny, ty) w

set_option maxHeartbeats 8000000 in
set_option maxRecDepth 100000 in
theorem index_any (v : Value) (l : List V) (ky ny : Int) (ty : ByteArray) (w : World) (hs : Sl w v l) (h60 : l.length ≤ 1000) :
    Calls Tryz.prog 161 #[v, .agg #[.int .i64 ky, .int .i64 ny, .string ty]] w fun e w' => e = .returned (.int .i64 (idxI (fun x => decide (((ky, ny, ty) : V) = x)) l)) ∧ Below w.heap.size w w' := by
  obtain ⟨a, c, rfl, _, hl⟩ := hs
  have HL := mkHid hl
  clear hl
  go_enter Tryz.func161, Tryz.ntmps161
  go_wp2
  go_loopw [8] (fun vi wr => ∃ k q : Nat, k ≤ l.length ∧ vi = .int .i64 k ∧ Hid (findI (fun x => decide (((ky, ny, ty) : V) = x)) l = k + findI (fun x => decide (((ky, ny, ty) : V) = x)) (l.drop k)) ∧ Hid (wr = (w.alloc (.cells #[.int .i64 ky, .int .i64 ny, .string ty] 45)).drewN q)) (fun vi _ => l.length - (intOf vi).toNat)
  case atStart => exact ⟨0, 0, Nat.zero_le _, rfl, mkHid (by simp), mkHid rfl⟩
  case round =>
    obtain ⟨k, q, hk, rfl, hi, hw⟩ := hrel
    have HB : Hid (∀ m, Below w.heap.size w (wr.drewN m)) := fun m => by
      rw [hw.out]
      exact ⟨rfl, rfl, rfl, by show _ ≤ (w.alloc _).heap.size; simp, fun i hh => Below.heap_alloc _ _ _ hh⟩
    have HX : Hid (∀ m i, (wr.drewN m).cell? ⟨w.heap.size, i, none⟩ = (#[.int .i64 ky, .int .i64 ny, .string ty] : Array Value)[i]?) := fun m i => by
      rw [hw.out, World.cell?_drewN, World.cell?_drewN]; exact World.cell?_alloc_mark w _ 45 (0, 0) i
    by_cases hlt : k < l.length
    · obtain ⟨b, off, rfl, hb, hc⟩ := HL.out (by intro e; rw [e] at hlt; simp at hlt)
      obtain ⟨⟨kx, nx, tx⟩, hx⟩ := getEx hlt
      obtain ⟨g0, g1, g2⟩ := hc k _ hx
      have c0 : ∀ m, (wr.drewN m).cell? ⟨b, off + k * 3, none⟩ = some (.int .i64 kx) := fun m => ((HB.out m).cell (p := ⟨b, off + k * 3, none⟩) hb).trans g0
      have c1 : ∀ m, (wr.drewN m).cell? ⟨b, off + k * 3 + 1, none⟩ = some (.int .i64 nx) := fun m => ((HB.out m).cell (p := ⟨b, off + k * 3 + 1, none⟩) hb).trans g1
      have c2 : ∀ m, (wr.drewN m).cell? ⟨b, off + k * 3 + 2, none⟩ = some (.string tx) := fun m => ((HB.out m).cell (p := ⟨b, off + k * 3 + 2, none⟩) hb).trans g2
      have d0 : ∀ m, (wr.drewN m).cell? ⟨w.heap.size, 0, none⟩ = some (.int .i64 ky) := fun m => HX.out m 0
      have d1 : ∀ m, (wr.drewN m).cell? ⟨w.heap.size, 1, none⟩ = some (.int .i64 ny) := fun m => HX.out m 1
      have d2 : ∀ m, (wr.drewN m).cell? ⟨w.heap.size, 2, none⟩ = some (.string ty) := fun m => HX.out m 2
      have HD := mkHid (drop_at hx)
      clear g0 g1 g2 hc
      by_cases hq : ((ky, ny, ty) : V) = (kx, nx, tx)
      · have hr : ∀ W, (Op.equalIn 10000 45 (.agg #[.int .i64 ky, .int .i64 ny, .string ty]) (.agg #[.int .i64 kx, .int .i64 nx, .string tx])).run Tryz.prog W = .ok true W := fun W => by rw [eqV_is]; simp [hq]
        have HR : Hid ((k : Int) = idxI (fun x => decide (((ky, ny, ty) : V) = x)) l) := by
          have : findI (fun x => decide (((ky, ny, ty) : V) = x)) l = k := by rw [hi.out, HD.out]; simp [findI, hq]
          show (k : Int) = idxI _ l
          unfold idxI; rw [this, if_pos hlt]
        clear hq hi
        go_wp2_with fail
        go_quiet (fail)
        go_wp2
        go_ret
        exact ⟨ret_int HR.out, HB.out _⟩
      · have hr : ∀ W, (Op.equalIn 10000 45 (.agg #[.int .i64 ky, .int .i64 ny, .string ty]) (.agg #[.int .i64 kx, .int .i64 nx, .string tx])).run Tryz.prog W = .ok false W := fun W => by rw [eqV_is]; simp [hq]
        have HR : Hid (findI (fun x => decide (((ky, ny, ty) : V) = x)) l = k + 1 + findI (fun x => decide (((ky, ny, ty) : V) = x)) (l.drop (k + 1))) := by
          show findI _ l = k + 1 + findI _ (l.drop (k + 1))
          rw [hi.out, HD.out]; simp [findI, hq]; omega
        clear hq hi
        go_wp2_with fail
        go_quiet (fail)
        go_wp2
        go_roundw
        case rel => exact ⟨k + 1, q + nq, by omega, by go_num, HR, mkHid (by rw [hw.out, World.drewN_drewN])⟩
        case measure => simp [intOf]; omega
    · have HR : Hid (-1 = idxI (fun x => decide (((ky, ny, ty) : V) = x)) l) := by
        have : findI (fun x => decide (((ky, ny, ty) : V) = x)) l = l.length := by rw [hi.out, List.drop_eq_nil_of_le (by omega)]; simp [findI]; omega
        show -1 = idxI _ l
        unfold idxI; rw [if_neg (by omega)]
      clear hi
      go_wp2
      go_ret
      exact ⟨ret_int HR.out, HB.out 0⟩
end Go.Proofs.YtodemklghajdeaaGreatDoor.E

namespace Go.Proofs.YtodemklghajdeaaGreatDoor.E
open Go.RowKit Go.Proofs Go.Shelf

theorem take_eq_ext {α : Type} {l m : List α} {k : Nat} {x y : α} (h : l.take k = m.take k) (hx : l[k]? = some x) (hy : m[k]? = some y) (e : x = y) : l.take (k + 1) = m.take (k + 1) := by
  rw [take_next hx, take_next hy, h, e]
theorem ne_of_at {α : Type} {l m : List α} {k : Nat} {x y : α} (hx : l[k]? = some x) (hy : m[k]? = some y) (e : x ≠ y) : l ≠ m := by
  rintro rfl; rw [hx] at hy; exact e (Option.some.inj hy)

set_option maxHeartbeats 8000000 in
set_option maxRecDepth 100000 in
theorem equal_any (v1 v2 : Value) (l m : List V) (w : World) (hs1 : Sl w v1 l) (hs2 : Sl w v2 m) (h60 : l.length ≤ 1000) (_h61 : m.length ≤ 1000) :
    Calls Tryz.prog 45 #[v1, v2] w fun e w' => e = .returned (.bool (decide (l = m))) ∧ Below w.heap.size w w' := by
  obtain ⟨a1, cc1, rfl, _, hl1⟩ := hs1
  obtain ⟨a2, cc2, rfl, _, hl2⟩ := hs2
  have HL1 := mkHid hl1
  have HL2 := mkHid hl2
  clear hl1 hl2
  by_cases hn : l.length = m.length
  · generalize hN : m.length = n at *
    have HE : Hid (l.length = n ∧ m.length = n) := ⟨hn, hN⟩
    rw [hn]
    rw [hn] at h60
    clear hn hN
    go_enter Tryz.func45, Tryz.ntmps45
    go_wp2
    go_loopw [13] (fun vi wr => ∃ k q : Nat, k ≤ n ∧ vi = .int .i64 k ∧ Hid (l.take k = m.take k) ∧ Hid (wr = w.drewN q)) (fun vi _ => n - (intOf vi).toNat)
    case atStart => exact ⟨0, 0, Nat.zero_le _, rfl, mkHid (by simp), mkHid rfl⟩
    case round =>
      obtain ⟨k, q, hk, rfl, hi, hw⟩ := hrel
      have HB : Hid (∀ m, Below w.heap.size w (wr.drewN m)) := fun m => by
        rw [hw.out]
        exact ⟨rfl, rfl, rfl, Nat.le_refl _, fun i hh => rfl⟩
      by_cases hlt : k < n
      · obtain ⟨b1, off1, rfl, hb1, hc1⟩ := HL1.out (by intro e; have := HE.out.1; rw [e] at this; simp at this; omega)
        obtain ⟨b2, off2, rfl, hb2, hc2⟩ := HL2.out (by intro e; have := HE.out.2; rw [e] at this; simp at this; omega)
        obtain ⟨⟨kx, nx, tx⟩, hx⟩ := getEx (l := l) (k := k) (by have := HE.out.1; omega)
        obtain ⟨⟨ky, ny, ty⟩, hy⟩ := getEx (l := m) (k := k) (by have := HE.out.2; omega)
        obtain ⟨g0, g1, g2⟩ := hc1 k _ hx
        obtain ⟨f0, f1, f2⟩ := hc2 k _ hy
        have c0 : ∀ m, (wr.drewN m).cell? ⟨b1, off1 + k * 3, none⟩ = some (.int .i64 kx) := fun m => ((HB.out m).cell (p := ⟨b1, off1 + k * 3, none⟩) hb1).trans g0
        have c1 : ∀ m, (wr.drewN m).cell? ⟨b1, off1 + k * 3 + 1, none⟩ = some (.int .i64 nx) := fun m => ((HB.out m).cell (p := ⟨b1, off1 + k * 3 + 1, none⟩) hb1).trans g1
        have c2 : ∀ m, (wr.drewN m).cell? ⟨b1, off1 + k * 3 + 2, none⟩ = some (.string tx) := fun m => ((HB.out m).cell (p := ⟨b1, off1 + k * 3 + 2, none⟩) hb1).trans g2
        have d0 : ∀ m, (wr.drewN m).cell? ⟨b2, off2 + k * 3, none⟩ = some (.int .i64 ky) := fun m => ((HB.out m).cell (p := ⟨b2, off2 + k * 3, none⟩) hb2).trans f0
        have d1 : ∀ m, (wr.drewN m).cell? ⟨b2, off2 + k * 3 + 1, none⟩ = some (.int .i64 ny) := fun m => ((HB.out m).cell (p := ⟨b2, off2 + k * 3 + 1, none⟩) hb2).trans f1
        have d2 : ∀ m, (wr.drewN m).cell? ⟨b2, off2 + k * 3 + 2, none⟩ = some (.string ty) := fun m => ((HB.out m).cell (p := ⟨b2, off2 + k * 3 + 2, none⟩) hb2).trans f2
        clear g0 g1 g2 hc1 f0 f1 f2 hc2
        by_cases hq : ((kx, nx, tx) : V) = (ky, ny, ty)
        · have hr : ∀ W, (Op.equalIn 10000 45 (.agg #[.int .i64 kx, .int .i64 nx, .string tx]) (.agg #[.int .i64 ky, .int .i64 ny, .string ty])).run Tryz.prog W = .ok true W := fun W => by rw [eqV_is]; simp [hq]
          have HR : Hid (l.take (k + 1) = m.take (k + 1)) := take_eq_ext hi.out hx hy hq
          clear hq hi hx hy
          go_wp2_with fail
          go_quiet (fail)
          go_wp2
          go_roundw
          case rel => exact ⟨k + 1, q + nq, by omega, by go_num, HR, mkHid (by rw [hw.out, World.drewN_drewN])⟩
          case measure => simp [intOf]; omega
        · have hr : ∀ W, (Op.equalIn 10000 45 (.agg #[.int .i64 kx, .int .i64 nx, .string tx]) (.agg #[.int .i64 ky, .int .i64 ny, .string ty])).run Tryz.prog W = .ok false W := fun W => by rw [eqV_is]; simp [hq]
          have HR : Hid (false = decide (l = m)) := by
            have := ne_of_at hx hy hq
            show false = decide (l = m)
            simp [this]
          clear hq hi hx hy
          go_wp2_with fail
          go_quiet (fail)
          go_wp2
          go_ret
          exact ⟨ret_bool HR.out, HB.out _⟩
      · have HR : Hid (true = decide (l = m)) := by
          have h1 := hi.out
          rw [List.take_of_length_le (by have := HE.out.1; omega), List.take_of_length_le (by have := HE.out.2; omega)] at h1
          show true = decide (l = m)
          simp [h1]
        clear hi
        go_wp2
        go_ret
        exact ⟨ret_bool HR.out, HB.out 0⟩
  · have HR : Hid (false = decide (l = m)) := by
      show false = decide (l = m)
      have : l ≠ m := fun e => hn (by rw [e])
      simp [this]
    have hn1 : ¬ (l.length : Int) = (m.length : Int) := by omega
    have hn2 : ((l.length : Int) == (m.length : Int)) = false := by simpa using hn1
    clear hn hn1
    go_enter Tryz.func45, Tryz.ntmps45
    go_wp2
    go_ret
    exact ⟨ret_bool HR.out, Below.refl _ _⟩

set_option maxHeartbeats 8000000 in
set_option maxRecDepth 100000 in
theorem closure45_any (kx nx ky ny : Int) (tx ty : ByteArray) (bx : Nat) (w : World) (hb : bx < w.heap.size) (d0 : w.cell? ⟨bx, 0, none⟩ = some (.int .i64 ky)) (d1 : w.cell? ⟨bx, 1, none⟩ = some (.int .i64 ny)) (d2 : w.cell? ⟨bx, 2, none⟩ = some (.string ty)) :
    Calls Tryz.prog 159 #[.agg #[.int .i64 kx, .int .i64 nx, .string tx], .pointer (some ⟨bx, 0, none⟩)] w fun e w' => e = .returned (.bool (!decide (((kx, nx, tx) : V) = (ky, ny, ty)))) ∧ Below w.heap.size w w' := by
  have hne : ¬ w.heap.size = bx := by omega
  have hr := eqV_is kx nx ky ny tx ty
  generalize decide (((kx, nx, tx) : V) = (ky, ny, ty)) = q at hr
  go_enter Tryz.func159, Tryz.ntmps159
  go_wp2
  go_ret
  exact ⟨rfl, (Below.refl _ _).alloc (Nat.le_refl _) _⟩
end Go.Proofs.YtodemklghajdeaaGreatDoor.E
