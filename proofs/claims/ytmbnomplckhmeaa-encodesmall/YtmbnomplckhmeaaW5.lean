/- What slices.Index, slices.Equal and encode.inRuns do at these values, said of every call. -/
import Derived.Test.YtmbnomplckhmeaaW4
namespace Go.Proofs.Ytmbnomplckhmeaa
open Go.RowKit Go.Proofs Go.Shelf

theorem eqV_is (kx nx ky ny : Int) (tx ty : ByteArray) (w : World) : (Op.equalIn 10000 32 (.agg #[.int .i64 kx, .int .i64 nx, .string tx]) (.agg #[.int .i64 ky, .int .i64 ny, .string ty])).run Try.prog w = .ok (decide (((kx, nx, tx) : V) = (ky, ny, ty))) w := eqV_run (kx, nx, tx) (ky, ny, ty) w

set_option maxHeartbeats 8000000 in
set_option maxRecDepth 100000 in
theorem index_any (v : Value) (l : List V) (ky ny : Int) (ty : ByteArray) (w : World) (hs : Sl w v l) (h60 : l.length ≤ 1000) :
    Calls Try.prog 50 #[v, .agg #[.int .i64 ky, .int .i64 ny, .string ty]] w fun e w' => e = .returned (.int .i64 (idxI (fun x => decide (((ky, ny, ty) : V) = x)) l)) ∧ Below w.heap.size w w' := by
  obtain ⟨a, c, rfl, _, hl⟩ := hs
  have HL := mkHid hl
  clear hl
  go_enter Try.func50, Try.ntmps50
  go_wp2
  go_loopw [8] (fun vi wr => ∃ k q : Nat, k ≤ l.length ∧ vi = .int .i64 k ∧ Hid (findI (fun x => decide (((ky, ny, ty) : V) = x)) l = k + findI (fun x => decide (((ky, ny, ty) : V) = x)) (l.drop k)) ∧ Hid (wr = (w.alloc (.cells #[.int .i64 ky, .int .i64 ny, .string ty] 32)).drewN q)) (fun vi _ => l.length - (intOf vi).toNat)
  case atStart => exact ⟨0, 0, Nat.zero_le _, rfl, mkHid (by simp), mkHid rfl⟩
  case round =>
    obtain ⟨k, q, hk, rfl, hi, hw⟩ := hrel
    have HB : Hid (∀ m, Below w.heap.size w (wr.drewN m)) := fun m => by
      rw [hw.out]
      exact ⟨rfl, rfl, rfl, by show _ ≤ (w.alloc _).heap.size; simp, fun i hh => Below.heap_alloc _ _ _ hh⟩
    have HX : Hid (∀ m i, (wr.drewN m).cell? ⟨w.heap.size, i, none⟩ = (#[.int .i64 ky, .int .i64 ny, .string ty] : Array Value)[i]?) := fun m i => by
      rw [hw.out, World.cell?_drewN, World.cell?_drewN]; exact World.cell?_alloc_mark w _ 32 (0, 0) i
    by_cases hlt : k < l.length
    · obtain ⟨b, off, rfl, hb, hc⟩ := HL.out (by intro e; rw [e] at hlt; simp at hlt)
      obtain ⟨⟨kx, nx, tx⟩, hx⟩ := getEx hlt
      obtain ⟨g0, g1, g2⟩ := hc k _ hx
      have c0 : ∀ m, (wr.drewN m).cell? ⟨b, off + k * 3, none⟩ = some (.int .i64 kx) := fun m => ((HB.out m).cell (p := ⟨b, off + k * 3, none⟩) hb).trans g0
      have c1 : ∀ m, (wr.drewN m).cell? ⟨b, off + k * 3 + 1, none⟩ = some (.int .i64 nx) := fun m => ((HB.out m).cell (p := ⟨b, off + k * 3 + 1, none⟩) hb).trans g1
      have c2 : ∀ m, (wr.drewN m).cell? ⟨b, off + k * 3 + 2, none⟩ = some (.string tx) := fun m => ((HB.out m).cell (p := ⟨b, off + k * 3 + 2, none⟩) hb).trans g2
      have d0 : ∀ m, (wr.drewN m).cell? ⟨w.heap.size, 0, none⟩ = some (.int .i64 ky) := fun m => HX.out m 0
      have d1 : ∀ m, (wr.drewN m).cell? ⟨w.heap.size, 1, none⟩ = some (.int .i64 ny) := fun m => HX.out m 1
      have d2 : ∀ m, (wr.drewN m).cell? ⟨w.heap.size, 2, none⟩ = some (.string ty) := fun m => HX.out m 2
      have HD := mkHid (drop_at hx)
      clear g0 g1 g2 hc
      by_cases hq : ((ky, ny, ty) : V) = (kx, nx, tx)
      · have hr : ∀ W, (Op.equalIn 10000 32 (.agg #[.int .i64 ky, .int .i64 ny, .string ty]) (.agg #[.int .i64 kx, .int .i64 nx, .string tx])).run Try.prog W = .ok true W := fun W => by rw [eqV_is]; simp [hq]
        have HR : Hid ((k : Int) = idxI (fun x => decide (((ky, ny, ty) : V) = x)) l) := by
          have : findI (fun x => decide (((ky, ny, ty) : V) = x)) l = k := by rw [hi.out, HD.out]; simp [findI, hq]
          show (k : Int) = idxI _ l
          unfold idxI; rw [this, if_pos hlt]
        clear hq hi
        go_wp2_with fail
        go_quiet (fail)
        go_wp2
        go_ret
        exact ⟨ret_int HR.out, HB.out _⟩
      · have hr : ∀ W, (Op.equalIn 10000 32 (.agg #[.int .i64 ky, .int .i64 ny, .string ty]) (.agg #[.int .i64 kx, .int .i64 nx, .string tx])).run Try.prog W = .ok false W := fun W => by rw [eqV_is]; simp [hq]
        have HR : Hid (findI (fun x => decide (((ky, ny, ty) : V) = x)) l = k + 1 + findI (fun x => decide (((ky, ny, ty) : V) = x)) (l.drop (k + 1))) := by
          show findI _ l = k + 1 + findI _ (l.drop (k + 1))
          rw [hi.out, HD.out]; simp [findI, hq]; omega
        clear hq hi
        go_wp2_with fail
        go_quiet (fail)
        go_wp2
        go_roundw
        case rel => exact ⟨k + 1, q + nq, by omega, by go_num, HR, mkHid (by rw [hw.out, World.drewN_drewN])⟩
        case measure => simp [intOf]; omega
    · have HR : Hid (-1 = idxI (fun x => decide (((ky, ny, ty) : V) = x)) l) := by
        have : findI (fun x => decide (((ky, ny, ty) : V) = x)) l = l.length := by rw [hi.out, List.drop_eq_nil_of_le (by omega)]; simp [findI]; omega
        show -1 = idxI _ l
        unfold idxI; rw [if_neg (by omega)]
      clear hi
      go_wp2
      go_ret
      exact ⟨ret_int HR.out, HB.out 0⟩
end Go.Proofs.Ytmbnomplckhmeaa
