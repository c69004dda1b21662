/- What number.Read does, said of every call. -/
import Derived.Test.YtmbnomplckhmeaaWf
import Derived.Laws.ShiftsVarLaws
import Derived.Deep.RegionWith
import Derived.Laws.Closers25b
import Derived.Lib.Strings
import Derived.Lib.IndexBytes
namespace Go.Proofs.Ytmbnomplckhmeaa
open Go.RowKit Go.Proofs Go.Shelf

theorem or_shift (k acc c : Nat) (hk : k ≤ 9) (hacc : acc < 2 ^ (7 * k)) (hc : c < 256) :
    bits .or .u64 (acc : Int) (IntKind.u64.wrap (IntKind.u64.wrap (bits .and .u8 (c : Int) 127) * 2 ^ (7 * k))) = ((acc + c % 128 * 2 ^ (7 * k) % 18446744073709551616 : Nat) : Int) := by
  have h63 : 2 ^ (7 * k) ≤ 2 ^ 63 := pow_mono (by omega)
  have e1 : IntKind.u64.wrap (bits .and .u8 (c : Int) 127) = ((c % 128 : Nat) : Int) := by
    rw [u8_and127 _ (by omega) (by omega), IntKind.wrap_u64]; omega
  have e2 : (((c % 128 : Nat) : Int) * 2 ^ (7 * k)) = ((c % 128 * 2 ^ (7 * k) : Nat) : Int) := by simp
  have e3 : IntKind.u64.wrap ((c % 128 * 2 ^ (7 * k) : Nat) : Int) = ((c % 128 * 2 ^ (7 * k) % 18446744073709551616 : Nat) : Int) := by
    rw [IntKind.wrap_u64]; omega
  rw [e1, e2, e3]
  have hd : (2 : Nat) ^ (7 * k) ∣ 18446744073709551616 := ⟨2 ^ (64 - 7 * k), by rw [← Nat.pow_add, show 7 * k + (64 - 7 * k) = 64 by omega]⟩
  have hm : (c % 128 * 2 ^ (7 * k) % 18446744073709551616) % 2 ^ (7 * k) = 0 := by
    rw [Nat.mod_mod_of_dvd _ hd]; simp
  rw [bits_join_low .u64 64 (by decide) wraps_u64 (7 * k) (acc : Int) _ (by omega) (by exact_mod_cast hacc) (by omega) (by omega) (by exact_mod_cast hm) (by omega)]
  simp
theorem acc_lt {k acc c : Nat} (hk : k ≤ 9) (hacc : acc < 2 ^ (7 * k)) : acc + c % 128 * 2 ^ (7 * k) % 18446744073709551616 < 2 ^ (7 * (k + 1)) ∧ acc + c % 128 * 2 ^ (7 * k) % 18446744073709551616 < 18446744073709551616 := by
  have h1 : c % 128 * 2 ^ (7 * k) % 18446744073709551616 ≤ c % 128 * 2 ^ (7 * k) := Nat.mod_le _ _
  have h2 : c % 128 * 2 ^ (7 * k) ≤ 127 * 2 ^ (7 * k) := Nat.mul_le_mul_right _ (by omega)
  have e : 2 ^ (7 * (k + 1)) = 128 * 2 ^ (7 * k) := by rw [show 7 * (k + 1) = 7 * k + 7 by omega, Nat.pow_add, Nat.mul_comm]
  refine ⟨by rw [e]; omega, ?_⟩
  have hd : (2 : Nat) ^ (7 * k) ∣ 18446744073709551616 := ⟨2 ^ (64 - 7 * k), by rw [← Nat.pow_add, show 7 * k + (64 - 7 * k) = 64 by omega]⟩
  have hm : (2 : Nat) ^ (7 * k) ∣ c % 128 * 2 ^ (7 * k) % 18446744073709551616 := (Nat.dvd_mod_iff hd).2 ⟨c % 128, by rw [Nat.mul_comm]⟩
  obtain ⟨q, hq⟩ := hd
  obtain ⟨p, hp⟩ := hm
  have hlt : c % 128 * 2 ^ (7 * k) % 18446744073709551616 < 18446744073709551616 := Nat.mod_lt _ (by decide)
  rw [hp]
  rw [hp, hq] at hlt
  have hpq : p < q := Nat.lt_of_mul_lt_mul_left hlt
  have : 2 ^ (7 * k) * (p + 1) ≤ 2 ^ (7 * k) * q := Nat.mul_le_mul_left _ hpq
  rw [Nat.mul_add, Nat.mul_one] at this
  omega
theorem extract_head (s : ByteArray) (b : Nat) : s.extract 0 b = str (s.data.toList.take b) := by
  apply ByteArray.ext
  apply Array.toList_inj.mp
  rw [str_toList, Lib.extract_data]; simp
theorem extract_tail (s : ByteArray) (a : Nat) : s.extract a s.size = str (s.data.toList.drop a) := by
  apply ByteArray.ext
  apply Array.toList_inj.mp
  rw [str_toList, Lib.extract_to_end]
theorem eq_bytes (a : List UInt8) (s : ByteArray) (b : Nat) : ((str a).toList == (s.extract 0 b).toList) = decide (a = s.data.toList.take b) := by
  rw [extract_head, ByteArray.toList_eq, ByteArray.toList_eq, str_toList, str_toList]
  by_cases h : a = s.data.toList.take b <;> simp [h]
theorem conv_row {W : World} {B n : Nat} {v : Value} {l : List UInt8} (h : W.ownsRow B 5 1 v n (Lib.byteCells l)) (hl : n = l.length) (hp : 0 < l.length) :
    ∃ g cap, v = .slice (some ⟨g, 0, none⟩) l.length cap ∧ (∀ m, (convert 46 9 (.slice (some ⟨g, 0, none⟩) l.length cap)).run Try.prog (W.drewN m) = .ok (.string (str l)) (W.drewN m)) := by
  subst hl
  obtain ⟨g, cap, rfl, _, _⟩ := h.form hp
  exact ⟨g, cap, rfl, fun m => run_convert_bytes_back (W.drewN m) 46 9 5 ⟨g, 0, none⟩ cap l Try.underlying46 Try.underlying5 Try.underlying9 (fun j hj => by rw [World.cell?_drewN]; exact h.cells rfl j _ (by simp [Lib.byteCells, hj]))⟩
theorem ret3 {a a' b b' c c' : Value} (h1 : a = a') (h2 : b = b') (h3 : c = c') : Ending.returned (.tuple #[a, b, c]) = .returned (.tuple #[a', b', c']) := by rw [h1, h2, h3]
theorem drop_byte (s : ByteArray) (k : Nat) (h : k < s.size) : s.data.toList.drop k = s[k] :: s.data.toList.drop (k + 1) := by
  rw [List.drop_eq_getElem_cons (by simpa using h)]; rfl
theorem rd_go {full : List UInt8} {k acc : Nat} {c : UInt8} {r : List UInt8} (hk : k ≠ 10) (hc : ¬ c.toNat < 128) : rdGo full k (c :: r) acc = rdGo full (k + 1) r (acc + c.toNat % 128 * 2 ^ (7 * k) % 18446744073709551616) := by
  rw [rdGo, if_neg hk, if_neg hc]
theorem rd_end {full : List UInt8} {k acc : Nat} {c : UInt8} {r : List UInt8} (hk : k ≠ 10) (hc : c.toNat < 128) : rdGo full k (c :: r) acc = (acc + c.toNat % 128 * 2 ^ (7 * k) % 18446744073709551616, r, decide (Lib.uvarint (acc + c.toNat % 128 * 2 ^ (7 * k) % 18446744073709551616) = full.take (k + 1))) := by
  rw [rdGo, if_neg hk, if_pos hc]
theorem rd_ten (full r : List UInt8) (acc : Nat) : rdGo full 10 r acc = (0, full, false) := by cases r <;> simp [rdGo]
theorem rd_nil (full : List UInt8) (k acc : Nat) : rdGo full k [] acc = (0, full, false) := by simp [rdGo]

set_option maxHeartbeats 2000000 in
set_option maxRecDepth 100000 in
theorem read_any (s : ByteArray) (w : World) (hs : s.size ≤ 1000000) :
    Calls Try.prog 45 #[.string s] w fun e w' => e = .returned (.tuple #[.int .u64 (rdNum s.data.toList).1, .string (str (rdNum s.data.toList).2.1), .bool (rdNum s.data.toList).2.2]) ∧ Below w.heap.size w w' := by
  go_enter Try.func45, Try.ntmps45
  go_wp2
  go_loopw [2, 3, 4, 9] (fun vn v3 v4 vi wr => ∃ (k acc : Nat), vi = .int .i64 k ∧ vn = .int .u64 acc ∧ v3 = .string ⟨#[]⟩ ∧ v4 = .bool false ∧ k ≤ 10 ∧ k ≤ s.size ∧ Hid (acc < 2 ^ (7 * k)) ∧ Hid (rdNum s.data.toList = rdGo s.data.toList k (s.data.toList.drop k) acc) ∧ wr = w) (fun _ _ _ vi _ => 10 - (intOf vi).toNat)
  case atStart => exact ⟨0, 0, rfl, rfl, rfl, rfl, by omega, by omega, mkHid (by decide), mkHid rfl, rfl⟩
  case round =>
    obtain ⟨k, acc, rfl, rfl, rfl, rfl, hk10, hks, hacc, hr, rfl⟩ := hrel
    by_cases hlt : k < s.size ∧ k < 10
    · obtain ⟨h1, h2⟩ := hlt
      have hmin : (k : Int) < min (s.size : Int) 10 := by omega
      have hc256 : s[k].toNat < 256 := s[k].toNat_lt
      have HD := mkHid (drop_byte s k h1)
      have hE := or_shift k acc s[k].toNat (by omega) hacc.out hc256
      obtain ⟨hA, hA2⟩ := acc_lt (k := k) (acc := acc) (c := s[k].toNat) (by omega) hacc.out
      by_cases hc : s[k].toNat < 128
      · have HR := hr.out
        rw [HD.out, rd_end (by omega) hc] at HR
        have HR := mkHid HR
        generalize acc + s[k].toNat % 128 * 2 ^ (7 * k) % 18446744073709551616 = a2 at *
        have HC := mkHid (append_any wr.heap.size 0 a2 hA2 (.slice none 0 0) [] wr.drew (World.ownsRow_nil _ _ _ _) (Nat.le_refl _) (by omega))
        obtain ⟨k1, hk1⟩ : ∃ k1 : Nat, k1 = k + 1 := ⟨_, rfl⟩
        have hwk : IntKind.i64.wrap ((k : Int) + 1) = (k1 : Int) := by rw [IntKind.wrap_i64]; omega
        have hk0 : (0 : Int) ≤ (k1 : Int) := by omega
        have hks1 : (k1 : Int) ≤ (s.size : Int) := by omega
        have hks2 : k1 ≤ s.size := by omega
        have HEQ := mkHid (eq_bytes (Lib.uvarint a2) s k1)
        have HET := mkHid (extract_tail s k1)
        rw [← hk1] at HR
        clear hA hA2 hk1
        go_wp2_with fail
        go_region_with
          (first
            | (go_at_call 16; refine HC.out.mono ?_; rintro e w1 ⟨v1, rfl, ho1, hw1⟩; obtain ⟨g, cap, rfl, hcv0⟩ := conv_row ho1 (Nat.zero_add _) (Lib.uvarint_pos a2); have hcv := hcv0 0; rw [World.drewN_zero] at hcv))
        have HB : Hid (Below wr.heap.size wr w1) := mkHid ⟨hw1.1.os, hw1.1.tape, hw1.1.output, hw1.1.size, hw1.1.block⟩
        clear hcv hcv0 ho1 hw1
        go_wp2_with fail
        go_quiet (fail)
        go_wp2
        refine bodyPost_ret (v := .tuple #[.int .u64 a2, .string (s.extract k1 s.size), .bool ((str (Lib.uvarint a2)).toList == (s.extract 0 k1).toList)]) (by simp [results, Try.results45, go_sem]) rfl ⟨?_, ?_⟩
        · rw [HR.out, HEQ.out, HET.out]
        · exact ⟨HB.out.os, HB.out.tape, HB.out.output, HB.out.size, HB.out.block⟩
      · have HR := hr.out
        rw [HD.out, rd_go (by omega) hc] at HR
        have HR := mkHid HR
        generalize acc + s[k].toNat % 128 * 2 ^ (7 * k) % 18446744073709551616 = a2 at *
        go_wp2
        exact ⟨⟨k + 1, a2, by go_num, rfl, rfl, rfl, by omega, by omega, mkHid hA, HR, trivial⟩, by simp [intOf]; omega⟩
    · have hmin : ¬ (k : Int) < min (s.size : Int) 10 := by omega
      have HR : Hid (rdNum s.data.toList = (0, s.data.toList, false)) := by
        show rdNum s.data.toList = (0, s.data.toList, false)
        rw [hr.out]
        by_cases h10 : k = 10
        · rw [h10]; exact rd_ten _ _ _
        · rw [List.drop_eq_nil_of_le (by have e : s.size = s.data.toList.length := by rw [Array.length_toList]; rfl
                                         omega)]; exact rd_nil _ _ _
      go_wp2
      refine bodyPost_ret (v := .tuple #[.int .u64 0, .string s, .bool false]) (by simp [results, Try.results45, go_sem]) rfl ⟨?_, Below.refl _ _⟩
      rw [HR.out]
      exact ret3 rfl (by rw [str_self]) rfl
end Go.Proofs.Ytmbnomplckhmeaa
