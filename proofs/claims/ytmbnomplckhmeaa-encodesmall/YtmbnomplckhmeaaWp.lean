/- What the statements' small functions do: num, pick, packed, said of every call. -/
import Derived.Test.YtmbnomplckhmeaaM3
namespace Go.Proofs.Ytmbnomplckhmeaa
open Go.RowKit Go.Proofs Go.Shelf

set_option maxHeartbeats 1000000 in
theorem num_any (n : Int) (w : World) :
    Calls Try.prog 11 #[.int .i64 n] w fun e w' => e = .returned (.agg #[.int .i64 1, .int .i64 n, .string ⟨#[]⟩]) ∧ Below w.heap.size w w' := by
  go_enter Try.func11, Try.ntmps11
  go_wp2
  exact bodyPost_ret (v := .agg #[.int .i64 1, .int .i64 n, .string ⟨#[]⟩]) (by simp [results, Try.results11, go_sem]) rfl ⟨rfl, (Below.refl _ _).alloc (Nat.le_refl _) _⟩

set_option maxHeartbeats 1000000 in
theorem pick_any (a : Int) (n : Nat) (hn : 0 < n) (hn2 : n ≤ 1000000) (w : World) :
    Calls Try.prog 9 #[.int .i64 a, .int .i64 n] w fun e w' => ∃ r : Nat, r < n ∧ e = .returned (.int .i64 r) ∧ w' = w := by
  have hw : (0 : Int) ≤ IntKind.u64.wrap a ∧ IntKind.u64.wrap a < 18446744073709551616 := by rw [IntKind.wrap_u64]; omega
  have hz : ((n : Int) == 0) = false := by simp; omega
  have hnz : ¬ (n : Int) = 0 := by omega
  go_enter Try.func9, Try.ntmps9
  go_wp2
  go_ret
  have hm0 : 0 ≤ IntKind.u64.wrap a % (n : Int) := Int.emod_nonneg _ hnz
  have hm1 : IntKind.u64.wrap a % (n : Int) < (n : Int) := Int.emod_lt_of_pos _ (by omega)
  refine ⟨(IntKind.u64.wrap a % (n : Int)).toNat, by omega, ret_int ?_, rfl⟩
  rw [wr_eq, wr64_id (by omega) (by omega)]; omega

theorem seven : encRes 1 [(1, 7, ⟨#[]⟩), (0, 0, ⟨#[]⟩), (1, 7, ⟨#[]⟩)] = .tuple #[.string ⟨#[3, 2, 0, 14, 14]⟩, .nilIface] := by
  have u : ∀ x, x < 128 → Lib.uvarint x = [x.toUInt8] := fun x h => Lib.uvarint_small h
  have hf : fitsB 1 [(1, 7, ⟨#[]⟩), (0, 0, ⟨#[]⟩), (1, 7, ⟨#[]⟩)] = true := by simp [fitsB, badV, rightV, ByteArray.toList_eq]
  have hk : known [(1, 7, ⟨#[]⟩), (0, 0, ⟨#[]⟩), (1, 7, ⟨#[]⟩)] = [(1, 7, ⟨#[]⟩), (1, 7, ⟨#[]⟩)] := by decide
  have hm : marksB [(1, 7, ⟨#[]⟩), (0, 0, ⟨#[]⟩), (1, 7, ⟨#[]⟩)] = [2] := by decide
  have hz : Lib.zigzag 7 = 14 := by decide
  have hv : valB (1, 7, ⟨#[]⟩) = [14] := by unfold valB; rw [if_pos rfl]; show Lib.uvarint (Lib.zigzag 7) = _; rw [hz, u 14 (by decide)]; rfl
  have ho : orderB [(1, 7, ⟨#[]⟩), (1, 7, ⟨#[]⟩)] = [14, 14] := by simp [orderB, hv]
  have hfew : fewB 1 [(1, 7, ⟨#[]⟩), (1, 7, ⟨#[]⟩)] = [0, 14, 14] := by
    have h1 : runsB 2 [(1, 7, ⟨#[]⟩), (1, 7, ⟨#[]⟩)] = [2, 14] := by
      simp [runsB, same, hv, u 2 (by decide)]
    have h2 : (whichB [(1, 7, ⟨#[]⟩), (1, 7, ⟨#[]⟩)]) = [1, 14, 0, 0] := by
      simp [whichB, whichS, place, orderB, hv, u 1 (by decide), u 0 (by decide)]
    have h3 : stepsB 0 [(1, 7, ⟨#[]⟩), (1, 7, ⟨#[]⟩)] = [14, 0] := by
      simp [stepsB, wr64, u 14 (by decide), u 0 (by decide), Lib.zigzag]
    simp [fewB, fewTo, wayB, ho, h1, h2, h3, better]
  unfold encRes
  rw [hf]
  unfold encB
  rw [hk, hm, hfew]
  simp [u 3 (by decide), str]
abbrev L7 : List V := [(1, 7, ⟨#[]⟩), (0, 0, ⟨#[]⟩), (1, 7, ⟨#[]⟩)]
theorem okl7 : Okl L7 := by
  have hs : (⟨#[]⟩ : ByteArray).size = 0 := rfl
  intro x hx
  simp only [L7, List.mem_cons, List.not_mem_nil, or_false] at hx
  rcases hx with rfl | rfl | rfl <;> (refine ⟨by decide, by decide, ?_⟩; show (⟨#[]⟩ : ByteArray).size ≤ _; rw [hs]; exact Nat.zero_le _)
theorem fits7 : fitsB 1 L7 = true := by simp [L7, fitsB, badV, rightV, ByteArray.toList_eq]
theorem str7 : str (encB 1 L7) = ⟨#[3, 2, 0, 14, 14]⟩ := by
  have h := seven
  unfold encRes at h
  rw [show fitsB 1 [(1, 7, ⟨#[]⟩), (0, 0, ⟨#[]⟩), (1, 7, ⟨#[]⟩)] = true from fits7] at h
  simpa using h
theorem dec7 : decR 1 [3, 2, 0, 14, 14] = some L7 := by
  have h := decR_enc fits7 okl7 (by decide)
  have e : encB 1 L7 = [3, 2, 0, 14, 14] := str_inj (str7.trans rfl)
  rwa [e] at h
theorem sl7 (W : World) : Sl (W.alloc (.cells #[.int .i64 1, .int .i64 7, .string ⟨#[]⟩, .int .i64 0, .int .i64 0, .string ⟨#[]⟩, .int .i64 1, .int .i64 7, .string ⟨#[]⟩] 32)) (.slice (some ⟨W.heap.size, 0, none⟩) 3 3) L7 :=
  Sl_of_owns (B := W.heap.size) (l := L7) (World.ownsRow_lit W #[.int .i64 1, .int .i64 7, .string ⟨#[]⟩, .int .i64 0, .int .i64 0, .string ⟨#[]⟩, .int .i64 1, .int .i64 7, .string ⟨#[]⟩] 3 (Nat.le_refl _) (by unfold maxLen; omega) rfl)

set_option maxHeartbeats 2000000 in
set_option maxRecDepth 100000 in
theorem packed_any (w : World) : Calls Try.prog 5 #[] w fun e w' => e = .returned (.bool true) ∧ Below w.heap.size w w' := by
  have HN := mkHid (num_any 7)
  have HE := mkHid (fun W => encode_any 1 _ L7 _ (sl7 W) (by decide) okl7)
  rw [seven] at HE
  have HD := mkHid (fun W => decode_any 1 ⟨#[3, 2, 0, 14, 14]⟩ W (by decide))
  rw [show (⟨#[3, 2, 0, 14, 14]⟩ : ByteArray).data.toList = [3, 2, 0, 14, 14] from rfl, dec7] at HD
  go_enter Try.func5, Try.ntmps5
  go_wp2_with fail
  refine (HN.out _).mono ?_
  rintro e w1 ⟨rfl, hb1⟩
  have hs1 := hb1.size
  go_wp2_with fail
  refine (HN.out _).mono ?_
  rintro e w2 ⟨rfl, hb2⟩
  have hs2 := hb2.size
  have hb02 : Below w.heap.size w w2 := hb1.trans (hb2.mono hs1)
  go_wp2_with fail
  refine (HE.out _).mono ?_
  rintro e w3 ⟨rfl, hb3⟩
  have hs3 := hb3.size
  have hb03 : Below w.heap.size w w3 := (hb02.alloc (by omega) _).trans (hb3.mono (by simp; omega))
  go_wp2_with fail
  refine (HD.out _).mono ?_
  rintro e w4 ⟨v4, rfl, hS4, hb4⟩
  have hs4 := hb4.size
  have hb04 : Below w.heap.size w w4 := hb03.trans (hb4.mono (by simp at hs3; omega))
  have HS4 := mkHid hS4
  clear hS4
  go_wp2_with fail
  refine (HN.out _).mono ?_
  rintro e w5 ⟨rfl, hb5⟩
  have hs5 := hb5.size
  go_wp2_with fail
  refine (HN.out _).mono ?_
  rintro e w6 ⟨rfl, hb6⟩
  have hs6 := hb6.size
  have hb46 : Below w4.heap.size w4 w6 := hb5.trans (hb6.mono hs5)
  have hb06 : Below w.heap.size w w6 := hb04.trans (hb46.mono (by simp at hs3; omega))
  have HQ := mkHid (equal_any _ _ L7 L7 _ (HS4.out.up (hb46.alloc (by omega) _)) (sl7 w6) (by decide) (by decide))
  rw [decide_eq_true rfl] at HQ
  go_wp2_with fail
  refine HQ.out.mono ?_
  rintro e w7 ⟨rfl, hb7⟩
  have hs7 := hb7.size
  go_wp2
  go_ret
  exact ⟨rfl, (hb06.alloc (by simp at hs3; omega) _).trans (hb7.mono (by simp at hs3 ⊢; omega))⟩
end Go.Proofs.Ytmbnomplckhmeaa
