/- What the small methods of encode's reader do (number, upTo, bytes, value), said of every call. -/
import Derived.Test.YtodemklghajdeaaGreatDoorEWf
import Derived.Laws.ShiftsVarLaws
import Derived.Deep.RegionWith
import Derived.Laws.Closers25b
import Derived.Lib.Strings
import Derived.Lib.IndexBytes
namespace Go.Proofs.YtodemklghajdeaaGreatDoor.E
open Go.RowKit Go.Proofs Go.Shelf

theorem or_shift (k acc c : Nat) (hk : k ≤ 9) (hacc : acc < 2 ^ (7 * k)) (hc : c < 256) :
    bits .or .u64 (acc : Int) (IntKind.u64.wrap (IntKind.u64.wrap (bits .and .u8 (c : Int) 127) * 2 ^ (7 * k))) = ((acc + c % 128 * 2 ^ (7 * k) % 18446744073709551616 : Nat) : Int) := by
  have h63 : 2 ^ (7 * k) ≤ 2 ^ 63 := pow_mono (by omega)
  have e1 : IntKind.u64.wrap (bits .and .u8 (c : Int) 127) = ((c % 128 : Nat) : Int) := by
    rw [u8_and127 _ (by omega) (by omega), IntKind.wrap_u64]; omega
  have e2 : (((c % 128 : Nat) : Int) * 2 ^ (7 * k)) = ((c % 128 * 2 ^ (7 * k) : Nat) : Int) := by simp
  have e3 : IntKind.u64.wrap ((c % 128 * 2 ^ (7 * k) : Nat) : Int) = ((c % 128 * 2 ^ (7 * k) % 18446744073709551616 : Nat) : Int) := by
    rw [IntKind.wrap_u64]; omega
  rw [e1, e2, e3]
  have hd : (2 : Nat) ^ (7 * k) ∣ 18446744073709551616 := ⟨2 ^ (64 - 7 * k), by rw [← Nat.pow_add, show 7 * k + (64 - 7 * k) = 64 by omega]⟩
  have hm : (c % 128 * 2 ^ (7 * k) % 18446744073709551616) % 2 ^ (7 * k) = 0 := by
    rw [Nat.mod_mod_of_dvd _ hd]; simp
  rw [bits_join_low .u64 64 (by decide) wraps_u64 (7 * k) (acc : Int) _ (by omega) (by exact_mod_cast hacc) (by omega) (by omega) (by exact_mod_cast hm) (by omega)]
  simp
theorem acc_lt {k acc c : Nat} (hk : k ≤ 9) (hacc : acc < 2 ^ (7 * k)) : acc + c % 128 * 2 ^ (7 * k) % 18446744073709551616 < 2 ^ (7 * (k + 1)) ∧ acc + c % 128 * 2 ^ (7 * k) % 18446744073709551616 < 18446744073709551616 := by
  have h1 : c % 128 * 2 ^ (7 * k) % 18446744073709551616 ≤ c % 128 * 2 ^ (7 * k) := Nat.mod_le _ _
  have h2 : c % 128 * 2 ^ (7 * k) ≤ 127 * 2 ^ (7 * k) := Nat.mul_le_mul_right _ (by omega)
  have e : 2 ^ (7 * (k + 1)) = 128 * 2 ^ (7 * k) := by rw [show 7 * (k + 1) = 7 * k + 7 by omega, Nat.pow_add, Nat.mul_comm]
  refine ⟨by rw [e]; omega, ?_⟩
  have hd : (2 : Nat) ^ (7 * k) ∣ 18446744073709551616 := ⟨2 ^ (64 - 7 * k), by rw [← Nat.pow_add, show 7 * k + (64 - 7 * k) = 64 by omega]⟩
  have hm : (2 : Nat) ^ (7 * k) ∣ c % 128 * 2 ^ (7 * k) % 18446744073709551616 := (Nat.dvd_mod_iff hd).2 ⟨c % 128, by rw [Nat.mul_comm]⟩
  obtain ⟨q, hq⟩ := hd
  obtain ⟨p, hp⟩ := hm
  have hlt : c % 128 * 2 ^ (7 * k) % 18446744073709551616 < 18446744073709551616 := Nat.mod_lt _ (by decide)
  rw [hp]
  rw [hp, hq] at hlt
  have hpq : p < q := Nat.lt_of_mul_lt_mul_left hlt
  have : 2 ^ (7 * k) * (p + 1) ≤ 2 ^ (7 * k) * q := Nat.mul_le_mul_left _ hpq
  rw [Nat.mul_add, Nat.mul_one] at this
  omega
theorem extract_head (s : ByteArray) (b : Nat) : s.extract 0 b = str (s.data.toList.take b) := by
  apply ByteArray.ext
  apply Array.toList_inj.mp
  rw [str_toList, Lib.extract_data]; simp
theorem extract_tail (s : ByteArray) (a : Nat) : s.extract a s.size = str (s.data.toList.drop a) := by
  apply ByteArray.ext
  apply Array.toList_inj.mp
  rw [str_toList, Lib.extract_to_end]
theorem eq_bytes (a : List UInt8) (s : ByteArray) (b : Nat) : ((str a).toList == (s.extract 0 b).toList) = decide (a = s.data.toList.take b) := by
  rw [extract_head, ByteArray.toList_eq, ByteArray.toList_eq, str_toList, str_toList]
  by_cases h : a = s.data.toList.take b <;> simp [h]
theorem conv_row {W : World} {B n : Nat} {v : Value} {l : List UInt8} (h : W.ownsRow B 5 1 v n (Lib.byteCells l)) (hl : n = l.length) (hp : 0 < l.length) :
    ∃ g cap, v = .slice (some ⟨g, 0, none⟩) l.length cap ∧ (∀ m, (convert 82 9 (.slice (some ⟨g, 0, none⟩) l.length cap)).run Tryz.prog (W.drewN m) = .ok (.string (str l)) (W.drewN m)) := by
  subst hl
  obtain ⟨g, cap, rfl, _, _⟩ := h.form hp
  exact ⟨g, cap, rfl, fun m => run_convert_bytes_back (W.drewN m) 82 9 5 ⟨g, 0, none⟩ cap l Tryz.underlying82 Tryz.underlying5 Tryz.underlying9 (fun j hj => by rw [World.cell?_drewN]; exact h.cells rfl j _ (by simp [Lib.byteCells, hj]))⟩
theorem ret3 {a a' b b' c c' : Value} (h1 : a = a') (h2 : b = b') (h3 : c = c') : Ending.returned (.tuple #[a, b, c]) = .returned (.tuple #[a', b', c']) := by rw [h1, h2, h3]
theorem drop_byte (s : ByteArray) (k : Nat) (h : k < s.size) : s.data.toList.drop k = s[k] :: s.data.toList.drop (k + 1) := by
  rw [List.drop_eq_getElem_cons (by simpa using h)]; rfl
theorem rd_go {full : List UInt8} {k acc : Nat} {c : UInt8} {r : List UInt8} (hk : k ≠ 10) (hc : ¬ c.toNat < 128) : rdGo full k (c :: r) acc = rdGo full (k + 1) r (acc + c.toNat % 128 * 2 ^ (7 * k) % 18446744073709551616) := by
  rw [rdGo, if_neg hk, if_neg hc]
theorem rd_end {full : List UInt8} {k acc : Nat} {c : UInt8} {r : List UInt8} (hk : k ≠ 10) (hc : c.toNat < 128) : rdGo full k (c :: r) acc = (acc + c.toNat % 128 * 2 ^ (7 * k) % 18446744073709551616, r, decide (Lib.uvarint (acc + c.toNat % 128 * 2 ^ (7 * k) % 18446744073709551616) = full.take (k + 1))) := by
  rw [rdGo, if_neg hk, if_pos hc]
theorem rd_ten (full r : List UInt8) (acc : Nat) : rdGo full 10 r acc = (0, full, false) := by cases r <;> simp [rdGo]
theorem rd_nil (full : List UInt8) (k acc : Nat) : rdGo full k [] acc = (0, full, false) := by simp [rdGo]

set_option maxHeartbeats 2000000 in
set_option maxRecDepth 100000 in
theorem read_any (s : ByteArray) (w : World) (hs : s.size ≤ 1000000) :
    Calls Tryz.prog 117 #[.string s] w fun e w' => e = .returned (.tuple #[.int .u64 (rdNum s.data.toList).1, .string (str (rdNum s.data.toList).2.1), .bool (rdNum s.data.toList).2.2]) ∧ Below w.heap.size w w' := by
  go_enter Tryz.func117, Tryz.ntmps117
  go_wp2
  go_loopw [2, 3, 4, 9] (fun vn v3 v4 vi wr => ∃ (k acc : Nat), vi = .int .i64 k ∧ vn = .int .u64 acc ∧ v3 = .string ⟨#[]⟩ ∧ v4 = .bool false ∧ k ≤ 10 ∧ k ≤ s.size ∧ Hid (acc < 2 ^ (7 * k)) ∧ Hid (rdNum s.data.toList = rdGo s.data.toList k (s.data.toList.drop k) acc) ∧ wr = w) (fun _ _ _ vi _ => 10 - (intOf vi).toNat)
  case atStart => exact ⟨0, 0, rfl, rfl, rfl, rfl, by omega, by omega, mkHid (by decide), mkHid rfl, rfl⟩
  case round =>
    obtain ⟨k, acc, rfl, rfl, rfl, rfl, hk10, hks, hacc, hr, rfl⟩ := hrel
    by_cases hlt : k < s.size ∧ k < 10
    · obtain ⟨h1, h2⟩ := hlt
      have hmin : (k : Int) < min (s.size : Int) 10 := by omega
      have hc256 : s[k].toNat < 256 := s[k].toNat_lt
      have HD := mkHid (drop_byte s k h1)
      have hE := or_shift k acc s[k].toNat (by omega) hacc.out hc256
      obtain ⟨hA, hA2⟩ := acc_lt (k := k) (acc := acc) (c := s[k].toNat) (by omega) hacc.out
      by_cases hc : s[k].toNat < 128
      · have HR := hr.out
        rw [HD.out, rd_end (by omega) hc] at HR
        have HR := mkHid HR
        generalize acc + s[k].toNat % 128 * 2 ^ (7 * k) % 18446744073709551616 = a2 at *
        have HC := mkHid (append_any wr.heap.size 0 a2 hA2 (.slice none 0 0) [] wr.drew (World.ownsRow_nil _ _ _ _) (Nat.le_refl _) (by omega))
        obtain ⟨k1, hk1⟩ : ∃ k1 : Nat, k1 = k + 1 := ⟨_, rfl⟩
        have hwk : IntKind.i64.wrap ((k : Int) + 1) = (k1 : Int) := by rw [IntKind.wrap_i64]; omega
        have hk0 : (0 : Int) ≤ (k1 : Int) := by omega
        have hks1 : (k1 : Int) ≤ (s.size : Int) := by omega
        have hks2 : k1 ≤ s.size := by omega
        have HEQ := mkHid (eq_bytes (Lib.uvarint a2) s k1)
        have HET := mkHid (extract_tail s k1)
        rw [← hk1] at HR
        clear hA hA2 hk1
        go_wp2_with fail
        go_region_with
          (first
            | (go_at_call 35; refine HC.out.mono ?_; rintro e w1 ⟨v1, rfl, ho1, hw1⟩; obtain ⟨g, cap, rfl, hcv0⟩ := conv_row ho1 (Nat.zero_add _) (Lib.uvarint_pos a2); have hcv := hcv0 0; rw [World.drewN_zero] at hcv))
        have HB : Hid (Below wr.heap.size wr w1) := mkHid ⟨hw1.1.os, hw1.1.tape, hw1.1.output, hw1.1.size, hw1.1.block⟩
        clear hcv hcv0 ho1 hw1
        go_wp2_with fail
        go_quiet (fail)
        go_wp2
        refine bodyPost_ret (v := .tuple #[.int .u64 a2, .string (s.extract k1 s.size), .bool ((str (Lib.uvarint a2)).toList == (s.extract 0 k1).toList)]) (by simp [results, Tryz.results117, go_sem]) rfl ⟨?_, ?_⟩
        · rw [HR.out, HEQ.out, HET.out]
        · exact ⟨HB.out.os, HB.out.tape, HB.out.output, HB.out.size, HB.out.block⟩
      · have HR := hr.out
        rw [HD.out, rd_go (by omega) hc] at HR
        have HR := mkHid HR
        generalize acc + s[k].toNat % 128 * 2 ^ (7 * k) % 18446744073709551616 = a2 at *
        go_wp2
        exact ⟨⟨k + 1, a2, by go_num, rfl, rfl, rfl, by omega, by omega, mkHid hA, HR, trivial⟩, by simp [intOf]; omega⟩
    · have hmin : ¬ (k : Int) < min (s.size : Int) 10 := by omega
      have HR : Hid (rdNum s.data.toList = (0, s.data.toList, false)) := by
        show rdNum s.data.toList = (0, s.data.toList, false)
        rw [hr.out]
        by_cases h10 : k = 10
        · rw [h10]; exact rd_ten _ _ _
        · rw [List.drop_eq_nil_of_le (by have e : s.size = s.data.toList.length := by rw [Array.length_toList]; rfl
                                         omega)]; exact rd_nil _ _ _
      go_wp2
      refine bodyPost_ret (v := .tuple #[.int .u64 0, .string s, .bool false]) (by simp [results, Tryz.results117, go_sem]) rfl ⟨?_, Below.refl _ _⟩
      rw [HR.out]
      exact ret3 rfl (by rw [str_self]) rfl
end Go.Proofs.YtodemklghajdeaaGreatDoor.E

namespace Go.Proofs.YtodemklghajdeaaGreatDoor.E
open Go.RowKit Go.Proofs Go.Shelf

/-- number.Reader's struct, as it lies at the beginning of a block, with what lies behind it. -/
def RdT (T : TypeId) (tl : List Value) (w : World) (b : Nat) (s : St) : Prop := w.heap[b]? = some (.cells (.string (str s.1) :: .bool s.2 :: tl).toArray T (0, 0))
theorem rdT_cells {T : TypeId} {tl : List Value} {w : World} {b : Nat} {s : St} (h : RdT T tl w b s) : w.cell? ⟨b, 0, none⟩ = some (.string (str s.1)) ∧ w.cell? ⟨b, 1, none⟩ = some (.bool s.2) ∧ w.frozen? ⟨b, 0, none⟩ = false ∧ w.frozen? ⟨b, 1, none⟩ = false := by
  have h' : w.heap[b]? = some (.cells (.string (str s.1) :: .bool s.2 :: tl).toArray T (0, 0)) := h
  refine ⟨by simp [World.cell?, h'], by simp [World.cell?, h'], frozen_of_row w b 0 _ T h', frozen_of_row w b 1 _ T h'⟩
theorem RdT.up {T : TypeId} {tl : List Value} {w W : World} {b : Nat} {s : St} (h : RdT T tl w b s) (hb : Below w.heap.size w W) : RdT T tl W b s := blk_up h hb
theorem RdT.lt {T : TypeId} {tl : List Value} {w : World} {b : Nat} {s : St} (h : RdT T tl w b s) : b < w.heap.size := blk_lt h
theorem RdT.set1 {T : TypeId} {tl : List Value} {w : World} {b : Nat} {s : St} (h : RdT T tl w b s) (l : List UInt8) : RdT T tl (w.setCell ⟨b, 0, none⟩ (.string (str l))) b (l, s.2) := by
  have := heap_setCell_same w b 0 _ T (.string (str l)) h
  simpa [RdT] using this
theorem RdT.set2 {T : TypeId} {tl : List Value} {w : World} {b : Nat} {s : St} (h : RdT T tl w b s) (q : Bool) : RdT T tl (w.setCell ⟨b, 1, none⟩ (.bool q)) b (s.1, q) := by
  have := heap_setCell_same w b 1 _ T (.bool q) h
  simpa [RdT] using this
/-- encode's reader: number's, and behind it the kind. -/
def Rd (w : World) (b : Nat) (k : Int) (s : St) : Prop := RdT 165 [.int .i64 k] w b s
theorem rd_cells {w : World} {b : Nat} {k : Int} {s : St} (h : Rd w b k s) : w.cell? ⟨b, 2, none⟩ = some (.int .i64 k) ∧ w.cell? ⟨b, 0, none⟩ = some (.string (str s.1)) ∧ w.cell? ⟨b, 1, none⟩ = some (.bool s.2) ∧ w.frozen? ⟨b, 0, none⟩ = false ∧ w.frozen? ⟨b, 1, none⟩ = false := by
  have h' : w.heap[b]? = some (.cells (.string (str s.1) :: .bool s.2 :: [.int .i64 k]).toArray 165 (0, 0)) := h
  refine ⟨by simp [World.cell?, h'], (rdT_cells h).1, (rdT_cells h).2.1, (rdT_cells h).2.2.1, (rdT_cells h).2.2.2⟩
theorem Rd.up {w W : World} {b : Nat} {k : Int} {s : St} (h : Rd w b k s) (hb : Below w.heap.size w W) : Rd W b k s := blk_up h hb
theorem Rd.lt {w : World} {b : Nat} {k : Int} {s : St} (h : Rd w b k s) : b < w.heap.size := blk_lt h
theorem Rd.set2 {w : World} {b : Nat} {k : Int} {s : St} (h : Rd w b k s) (q : Bool) : Rd (w.setCell ⟨b, 1, none⟩ (.bool q)) b k (s.1, q) := RdT.set2 h q
theorem grown_refl (w : World) (r : Option Nat) : w.grownBy w r := ⟨rfl, rfl, rfl, Nat.le_refl _, fun _ _ _ => rfl⟩
theorem grown_trans {a b c : World} {r : Option Nat} (h : a.grownBy b r) (k : b.grownBy c r) : a.grownBy c r :=
  ⟨k.os.trans h.os, k.tape.trans h.tape, k.output.trans h.output, Nat.le_trans h.size k.size, fun i hi hn => (k.block i (Nat.lt_of_lt_of_le hi h.size) hn).trans (h.block i hi hn)⟩
theorem grown_below {a b : World} {r : Option Nat} (h : Below a.heap.size a b) : a.grownBy b r := ⟨h.os, h.tape, h.output, h.size, fun i hi _ => h.block i hi⟩
theorem grown_set (w : World) (b j : Nat) (u : Value) : w.grownBy (w.setCell ⟨b, j, none⟩ u) (some b) :=
  ⟨rfl, rfl, rfl, by simp, fun k _ hk => heap_setCell_other w ⟨b, j, none⟩ k u (fun e => hk (by simp [e]))⟩

theorem rdGo_lt (full : List UInt8) : ∀ (r : List UInt8) (i acc : Nat), i ≤ 10 → acc < 2 ^ (7 * i) → acc < 18446744073709551616 → (rdGo full i r acc).1 < 18446744073709551616
  | [], i, acc, _, _, _ => by simp [rdGo]
  | c :: r, i, acc, hi, ha, _ => by
    by_cases h10 : i = 10
    · rw [h10, rd_ten]; show (0 : Nat) < _; decide
    · obtain ⟨h1, h2⟩ := acc_lt (k := i) (acc := acc) (c := c.toNat) (by omega) ha
      by_cases hc : c.toNat < 128
      · rw [rd_end h10 hc]; exact h2
      · rw [rd_go h10 hc]; exact rdGo_lt full r _ _ (by omega) h1 h2
theorem rdGo_len (full : List UInt8) : ∀ (r : List UInt8) (i acc : Nat), r.length ≤ full.length → (rdGo full i r acc).2.1.length ≤ full.length ∧ ((rdGo full i r acc).2.2 = true → (rdGo full i r acc).2.1.length < full.length)
  | [], i, acc, _ => by simp [rdGo]
  | c :: r, i, acc, h => by
    by_cases h10 : i = 10
    · rw [h10, rd_ten]; simp
    · by_cases hc : c.toNat < 128
      · rw [rd_end h10 hc]; simp at h ⊢; exact ⟨by omega, fun _ => by omega⟩
      · rw [rd_go h10 hc]; exact rdGo_len full r _ _ (by simp at h; omega)
theorem numR_lt (s : St) : (numR s).1 < 18446744073709551616 := rdGo_lt s.1 s.1 0 0 (by omega) (by decide) (by decide)
theorem numR_len (s : St) : (numR s).2.1.length ≤ s.1.length := (rdGo_len s.1 s.1 0 0 (Nat.le_refl _)).1
theorem numR_less {s : St} (h : (numR s).2.2 = false) : (numR s).2.1.length < s.1.length := by
  have h2 : (rdNum s.1).2.2 = true := by simp [numR] at h; exact h.2
  exact (rdGo_len s.1 s.1 0 0 (Nat.le_refl _)).2 h2
theorem numR_wrong {s : St} (h : s.2 = true) : (numR s).2.2 = true := by simp [numR, h]

set_option maxHeartbeats 1000000 in
set_option maxRecDepth 100000 in
theorem numberT_any (T : TypeId) (tl : List Value) (b : Nat) (s : St) (w : World) (hr : RdT T tl w b s) (hl : s.1.length ≤ 1000000) :
    Calls Tryz.prog 89 #[.pointer (some ⟨b, 0, none⟩)] w fun e w' => e = .returned (.int .u64 (numR s).1) ∧ RdT T tl w' b (numR s).2 ∧ w.grownBy w' (some b) := by
  obtain ⟨l, q⟩ := s
  obtain ⟨c1, c2, _, _⟩ := rdT_cells hr
  have HC := mkHid (read_any (str l) w (by rw [str_size]; exact hl))
  rw [str_toList] at HC
  have HR := mkHid hr
  have HN : Hid (numR (l, q) = ((rdNum l).1, ((rdNum l).2.1, q || !(rdNum l).2.2))) := mkHid rfl
  rw [HN.out]
  generalize rdNum l = R at HC ⊢
  obtain ⟨n, beh, ok⟩ := R
  have hn0 : True := trivial
  clear hn0
  clear hr HN
  cases q
  · go_enter Tryz.func89, Tryz.ntmps89
    go_wp2_with fail
    refine HC.out.mono ?_
    rintro e w1 ⟨rfl, hb1⟩
    have hR1 := HR.out.up hb1
    obtain ⟨q1, q2, z1, z2⟩ := rdT_cells hR1
    have HR1 := mkHid hR1
    clear hR1 c1 c2
    go_wp2
    go_ret
    exact ⟨rfl, ((HR1.out.set1 beh).set2 _), grown_trans (grown_below hb1) (grown_trans (grown_set _ _ _ _) (grown_set _ _ _ _))⟩
  · go_enter Tryz.func89, Tryz.ntmps89
    go_wp2_with fail
    refine HC.out.mono ?_
    rintro e w1 ⟨rfl, hb1⟩
    have hR1 := HR.out.up hb1
    obtain ⟨q1, q2, z1, z2⟩ := rdT_cells hR1
    have HR1 := mkHid hR1
    clear hR1 c1 c2
    go_wp2
    go_ret
    exact ⟨rfl, ((HR1.out.set1 beh).set2 _), grown_trans (grown_below hb1) (grown_trans (grown_set _ _ _ _) (grown_set _ _ _ _))⟩
theorem number_any (b : Nat) (k : Int) (s : St) (w : World) (hr : Rd w b k s) (hl : s.1.length ≤ 1000000) :
    Calls Tryz.prog 89 #[.pointer (some ⟨b, 0, none⟩)] w fun e w' => e = .returned (.int .u64 (numR s).1) ∧ Rd w' b k (numR s).2 ∧ w.grownBy w' (some b) := numberT_any _ _ b s w hr hl
set_option maxHeartbeats 1000000 in
theorem wrongT_any (T : TypeId) (tl : List Value) (b : Nat) (s : St) (w : World) (hr : RdT T tl w b s) :
    Calls Tryz.prog 33 #[.pointer (some ⟨b, 0, none⟩)] w fun e w' => e = .returned (.bool s.2) ∧ w' = w := by
  obtain ⟨c1, c2, _, _⟩ := rdT_cells hr
  go_enter Tryz.func33, Tryz.ntmps33
  go_wp2
  go_ret
  exact ⟨rfl, rfl⟩
theorem wrong_any (b : Nat) (k : Int) (s : St) (w : World) (hr : Rd w b k s) :
    Calls Tryz.prog 33 #[.pointer (some ⟨b, 0, none⟩)] w fun e w' => e = .returned (.bool s.2) ∧ w' = w := wrongT_any _ _ b s w hr
set_option maxHeartbeats 1000000 in
theorem refuse_any (b : Nat) (k : Int) (s : St) (w : World) (hr : Rd w b k s) :
    Calls Tryz.prog 151 #[.pointer (some ⟨b, 0, none⟩)] w fun e w' => e = .returned (.tuple #[]) ∧ Rd w' b k (s.1, true) ∧ w.grownBy w' (some b) := by
  obtain ⟨c0, c1, c2, z1, z2⟩ := rd_cells hr
  have HR := mkHid hr
  clear hr
  go_enter Tryz.func151, Tryz.ntmps151
  go_wp2
  go_end0
  exact ⟨rfl, HR.out.set2 true, grown_set _ _ _ _⟩
theorem grown_new {a w : World} {r : Option Nat} (h : a.grownBy w r) {g j : Nat} (hg : a.heap.size ≤ g) (u : Value) : a.grownBy (w.setCell ⟨g, j, none⟩ u) r :=
  ⟨h.os, h.tape, h.output, by have := h.size; simpa using this, fun k hk hn => (heap_setCell_other w ⟨g, j, none⟩ k u (by simp; omega)).trans (h.block k hk hn)⟩
theorem grown_alloc {a w : World} {r : Option Nat} (h : a.grownBy w r) (o : Obj) : a.grownBy (w.alloc o) r := grown_trans h (World.grownBy_alloc w o r)
theorem Rd.grown {w W : World} {b c : Nat} {k : Int} {s : St} (h : Rd w b k s) (hg : w.grownBy W (some c)) (hc : b ≠ c) : Rd W b k s :=
  (hg.block b (blk_lt h) (by simp; exact hc)).trans h

theorem upToR_bad {most : Int} {s : St} (h : badR most s = true) : upToR most s = (0, ((numR s).2.1, true)) := by unfold upToR; rw [if_pos h]
theorem upToR_ok {most : Int} {s : St} (h : badR most s = false) : upToR most s = numR s := by unfold upToR; rw [if_neg (by simp [h])]

set_option maxHeartbeats 1000000 in
set_option maxRecDepth 100000 in
theorem upToT_any (T : TypeId) (tl : List Value) (b : Nat) (most : Int) (s : St) (w : World) (hr : RdT T tl w b s) (hl : s.1.length ≤ 1000000) (hm1 : -1000 ≤ most) (hm2 : most ≤ 9223372036854775807) :
    Calls Tryz.prog 62 #[.pointer (some ⟨b, 0, none⟩), .int .i64 most] w fun e w' => e = .returned (.int .i64 (upToR most s).1) ∧ RdT T tl w' b (upToR most s).2 ∧ w.grownBy w' (some b) := by
  have HC := mkHid (numberT_any T tl b s w hr hl)
  have HB : Hid (badR most s = ((numR s).2.2 || decide (most < 0) || decide (most < ((numR s).1 : Int)))) := mkHid rfl
  have HT := mkHid (@upToR_bad most s)
  have HF := mkHid (@upToR_ok most s)
  have hn := numR_lt s
  generalize numR s = R at *
  obtain ⟨n, l, q⟩ := R
  clear hr
  simp only at HB HC HT hn
  by_cases hbad : q = true ∨ most < 0 ∨ most < (n : Int)
  · have hb' : badR most s = true := by rw [HB.out]; simpa [or_assoc] using hbad
    rw [HT.out hb']
    clear HT HF HB hb'
    cases q with
    | true =>
      go_enter Tryz.func62, Tryz.ntmps62
      go_wp2_with fail
      refine HC.out.mono ?_
      rintro e w1 ⟨rfl, hR1, hg1⟩
      obtain ⟨q1, q2, z1, z2⟩ := rdT_cells hR1
      have HR1 := mkHid hR1
      clear hR1
      go_wp2
      go_ret
      exact ⟨rfl, HR1.out.set2 true, grown_trans hg1 (grown_set _ _ _ _)⟩
    | false =>
      by_cases hneg : most < 0
      · go_enter Tryz.func62, Tryz.ntmps62
        go_wp2_with fail
        refine HC.out.mono ?_
        rintro e w1 ⟨rfl, hR1, hg1⟩
        obtain ⟨q1, q2, z1, z2⟩ := rdT_cells hR1
        have HR1 := mkHid hR1
        clear hR1
        go_wp2
        go_ret
        exact ⟨rfl, HR1.out.set2 true, grown_trans hg1 (grown_set _ _ _ _)⟩
      · have hgt : most < (n : Int) := by rcases hbad with h | h | h; cases h; exact absurd h hneg; exact h
        have hpos : 0 ≤ most := by omega
        clear hbad
        go_enter Tryz.func62, Tryz.ntmps62
        go_wp2_with fail
        refine HC.out.mono ?_
        rintro e w1 ⟨rfl, hR1, hg1⟩
        obtain ⟨q1, q2, z1, z2⟩ := rdT_cells hR1
        have HR1 := mkHid hR1
        clear hR1
        go_wp2
        go_ret
        exact ⟨rfl, HR1.out.set2 true, grown_trans hg1 (grown_set _ _ _ _)⟩
  · have hb' : badR most s = false := by rw [HB.out]; simpa [and_assoc] using hbad
    rw [HF.out hb']
    clear HT HF HB hb'
    have hq : q = false := by cases q; rfl; exact absurd (Or.inl rfl) hbad
    subst hq
    have hpos : 0 ≤ most := by omega
    have hle : (n : Int) ≤ most := by omega
    clear hbad
    go_enter Tryz.func62, Tryz.ntmps62
    go_wp2_with fail
    refine HC.out.mono ?_
    rintro e w1 ⟨rfl, hR1, hg1⟩
    obtain ⟨q1, q2, z1, z2⟩ := rdT_cells hR1
    have HR1 := mkHid hR1
    clear hR1
    go_wp2
    go_ret
    exact ⟨rfl, HR1.out, hg1⟩

theorem upTo_any (b : Nat) (k most : Int) (s : St) (w : World) (hr : Rd w b k s) (hl : s.1.length ≤ 1000000) (hm1 : -1000 ≤ most) (hm2 : most ≤ 1000) :
    Calls Tryz.prog 62 #[.pointer (some ⟨b, 0, none⟩), .int .i64 most] w fun e w' => e = .returned (.int .i64 (upToR most s).1) ∧ Rd w' b k (upToR most s).2 ∧ w.grownBy w' (some b) := upToT_any _ _ b most s w hr hl hm1 (by omega)

set_option maxHeartbeats 1000000 in
set_option maxRecDepth 100000 in
theorem bytesT_any (T : TypeId) (tl : List Value) (b n : Nat) (s : St) (w : World) (hr : RdT T tl w b s) (hl : s.1.length ≤ 1000000) :
    Calls Tryz.prog 90 #[.pointer (some ⟨b, 0, none⟩), .int .i64 n] w fun e w' => e = .returned (.string (str (bytesR n s).1)) ∧ RdT T tl w' b (bytesR n s).2 ∧ w.grownBy w' (some b) := by
  obtain ⟨l, q⟩ := s
  obtain ⟨c1, c2, z1, z2⟩ := rdT_cells hr
  have HR := mkHid hr
  have hsz := str_size l
  simp only at hl c1 c2
  by_cases h : l.length < n
  · have HB : Hid (bytesR n (l, q) = ([], (l, true))) := mkHid (by unfold bytesR; rw [if_pos h])
    rw [HB.out]
    have hlt : ((str l).size : Int) < (n : Int) := by rw [hsz]; omega
    clear hr hsz h
    go_enter Tryz.func90, Tryz.ntmps90
    go_wp2
    go_ret
    exact ⟨rfl, HR.out.set2 true, grown_set _ _ _ _⟩
  · have HB : Hid (bytesR n (l, q) = (l.take n, (l.drop n, q))) := mkHid (by unfold bytesR; rw [if_neg h])
    have hlt : ¬ ((str l).size : Int) < (n : Int) := by rw [hsz]; omega
    have hle : (n : Int) ≤ ((str l).size : Int) := by rw [hsz]; omega
    have hle2 : n ≤ (str l).size := by rw [hsz]; omega
    have E1 := mkHid (extract_head (str l) n)
    have E2 := mkHid (extract_tail (str l) n)
    rw [str_toList] at E1 E2
    rw [HB.out]
    have HS1 := mkHid (HR.out.set1 (l.drop n))
    rw [← E2.out] at HS1
    clear hr hsz h
    generalize str l = sl at *
    go_enter Tryz.func90, Tryz.ntmps90
    go_wp2
    go_ret
    refine ⟨?_, HS1.out, grown_set _ _ _ _⟩
    rw [← E1.out]; rfl
theorem bytes_any (b n : Nat) (k : Int) (s : St) (w : World) (hr : Rd w b k s) (hl : s.1.length ≤ 1000000) (_hn : n ≤ 1000) :
    Calls Tryz.prog 90 #[.pointer (some ⟨b, 0, none⟩), .int .i64 n] w fun e w' => e = .returned (.string (str (bytesR n s).1)) ∧ Rd w' b k (bytesR n s).2 ∧ w.grownBy w' (some b) := bytesT_any _ _ b n s w hr hl
end Go.Proofs.YtodemklghajdeaaGreatDoor.E
