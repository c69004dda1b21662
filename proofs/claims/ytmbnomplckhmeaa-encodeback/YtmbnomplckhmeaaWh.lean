/- What the small methods of encode's reader do (number, upTo, bytes, value), said of every call. -/
import Derived.Test.YtmbnomplckhmeaaWg
namespace Go.Proofs.Ytmbnomplckhmeaa
open Go.RowKit Go.Proofs Go.Shelf

/-- number.Reader's struct, as it lies at the beginning of a block, with what lies behind it. -/
def RdT (T : TypeId) (tl : List Value) (w : World) (b : Nat) (s : St) : Prop := w.heap[b]? = some (.cells (.string (str s.1) :: .bool s.2 :: tl).toArray T (0, 0))
theorem rdT_cells {T : TypeId} {tl : List Value} {w : World} {b : Nat} {s : St} (h : RdT T tl w b s) : w.cell? ⟨b, 0, none⟩ = some (.string (str s.1)) ∧ w.cell? ⟨b, 1, none⟩ = some (.bool s.2) ∧ w.frozen? ⟨b, 0, none⟩ = false ∧ w.frozen? ⟨b, 1, none⟩ = false := by
  have h' : w.heap[b]? = some (.cells (.string (str s.1) :: .bool s.2 :: tl).toArray T (0, 0)) := h
  refine ⟨by simp [World.cell?, h'], by simp [World.cell?, h'], frozen_of_row w b 0 _ T h', frozen_of_row w b 1 _ T h'⟩
theorem RdT.up {T : TypeId} {tl : List Value} {w W : World} {b : Nat} {s : St} (h : RdT T tl w b s) (hb : Below w.heap.size w W) : RdT T tl W b s := blk_up h hb
theorem RdT.lt {T : TypeId} {tl : List Value} {w : World} {b : Nat} {s : St} (h : RdT T tl w b s) : b < w.heap.size := blk_lt h
theorem RdT.set1 {T : TypeId} {tl : List Value} {w : World} {b : Nat} {s : St} (h : RdT T tl w b s) (l : List UInt8) : RdT T tl (w.setCell ⟨b, 0, none⟩ (.string (str l))) b (l, s.2) := by
  have := heap_setCell_same w b 0 _ T (.string (str l)) h
  simpa [RdT] using this
theorem RdT.set2 {T : TypeId} {tl : List Value} {w : World} {b : Nat} {s : St} (h : RdT T tl w b s) (q : Bool) : RdT T tl (w.setCell ⟨b, 1, none⟩ (.bool q)) b (s.1, q) := by
  have := heap_setCell_same w b 1 _ T (.bool q) h
  simpa [RdT] using this
/-- encode's reader: number's, and behind it the kind. -/
def Rd (w : World) (b : Nat) (k : Int) (s : St) : Prop := RdT 42 [.int .i64 k] w b s
theorem rd_cells {w : World} {b : Nat} {k : Int} {s : St} (h : Rd w b k s) : w.cell? ⟨b, 2, none⟩ = some (.int .i64 k) ∧ w.cell? ⟨b, 0, none⟩ = some (.string (str s.1)) ∧ w.cell? ⟨b, 1, none⟩ = some (.bool s.2) ∧ w.frozen? ⟨b, 0, none⟩ = false ∧ w.frozen? ⟨b, 1, none⟩ = false := by
  have h' : w.heap[b]? = some (.cells (.string (str s.1) :: .bool s.2 :: [.int .i64 k]).toArray 42 (0, 0)) := h
  refine ⟨by simp [World.cell?, h'], (rdT_cells h).1, (rdT_cells h).2.1, (rdT_cells h).2.2.1, (rdT_cells h).2.2.2⟩
theorem Rd.up {w W : World} {b : Nat} {k : Int} {s : St} (h : Rd w b k s) (hb : Below w.heap.size w W) : Rd W b k s := blk_up h hb
theorem Rd.lt {w : World} {b : Nat} {k : Int} {s : St} (h : Rd w b k s) : b < w.heap.size := blk_lt h
theorem Rd.set2 {w : World} {b : Nat} {k : Int} {s : St} (h : Rd w b k s) (q : Bool) : Rd (w.setCell ⟨b, 1, none⟩ (.bool q)) b k (s.1, q) := RdT.set2 h q
theorem grown_refl (w : World) (r : Option Nat) : w.grownBy w r := ⟨rfl, rfl, rfl, Nat.le_refl _, fun _ _ _ => rfl⟩
theorem grown_trans {a b c : World} {r : Option Nat} (h : a.grownBy b r) (k : b.grownBy c r) : a.grownBy c r :=
  ⟨k.os.trans h.os, k.tape.trans h.tape, k.output.trans h.output, Nat.le_trans h.size k.size, fun i hi hn => (k.block i (Nat.lt_of_lt_of_le hi h.size) hn).trans (h.block i hi hn)⟩
theorem grown_below {a b : World} {r : Option Nat} (h : Below a.heap.size a b) : a.grownBy b r := ⟨h.os, h.tape, h.output, h.size, fun i hi _ => h.block i hi⟩
theorem grown_set (w : World) (b j : Nat) (u : Value) : w.grownBy (w.setCell ⟨b, j, none⟩ u) (some b) :=
  ⟨rfl, rfl, rfl, by simp, fun k _ hk => heap_setCell_other w ⟨b, j, none⟩ k u (fun e => hk (by simp [e]))⟩

theorem rdGo_lt (full : List UInt8) : ∀ (r : List UInt8) (i acc : Nat), i ≤ 10 → acc < 2 ^ (7 * i) → acc < 18446744073709551616 → (rdGo full i r acc).1 < 18446744073709551616
  | [], i, acc, _, _, _ => by simp [rdGo]
  | c :: r, i, acc, hi, ha, _ => by
    by_cases h10 : i = 10
    · rw [h10, rd_ten]; show (0 : Nat) < _; decide
    · obtain ⟨h1, h2⟩ := acc_lt (k := i) (acc := acc) (c := c.toNat) (by omega) ha
      by_cases hc : c.toNat < 128
      · rw [rd_end h10 hc]; exact h2
      · rw [rd_go h10 hc]; exact rdGo_lt full r _ _ (by omega) h1 h2
theorem rdGo_len (full : List UInt8) : ∀ (r : List UInt8) (i acc : Nat), r.length ≤ full.length → (rdGo full i r acc).2.1.length ≤ full.length ∧ ((rdGo full i r acc).2.2 = true → (rdGo full i r acc).2.1.length < full.length)
  | [], i, acc, _ => by simp [rdGo]
  | c :: r, i, acc, h => by
    by_cases h10 : i = 10
    · rw [h10, rd_ten]; simp
    · by_cases hc : c.toNat < 128
      · rw [rd_end h10 hc]; simp at h ⊢; exact ⟨by omega, fun _ => by omega⟩
      · rw [rd_go h10 hc]; exact rdGo_len full r _ _ (by simp at h; omega)
theorem numR_lt (s : St) : (numR s).1 < 18446744073709551616 := rdGo_lt s.1 s.1 0 0 (by omega) (by decide) (by decide)
theorem numR_len (s : St) : (numR s).2.1.length ≤ s.1.length := (rdGo_len s.1 s.1 0 0 (Nat.le_refl _)).1
theorem numR_less {s : St} (h : (numR s).2.2 = false) : (numR s).2.1.length < s.1.length := by
  have h2 : (rdNum s.1).2.2 = true := by simp [numR] at h; exact h.2
  exact (rdGo_len s.1 s.1 0 0 (Nat.le_refl _)).2 h2
theorem numR_wrong {s : St} (h : s.2 = true) : (numR s).2.2 = true := by simp [numR, h]

set_option maxHeartbeats 1000000 in
set_option maxRecDepth 100000 in
theorem numberT_any (T : TypeId) (tl : List Value) (b : Nat) (s : St) (w : World) (hr : RdT T tl w b s) (hl : s.1.length ≤ 1000000) :
    Calls Try.prog 33 #[.pointer (some ⟨b, 0, none⟩)] w fun e w' => e = .returned (.int .u64 (numR s).1) ∧ RdT T tl w' b (numR s).2 ∧ w.grownBy w' (some b) := by
  obtain ⟨l, q⟩ := s
  obtain ⟨c1, c2, _, _⟩ := rdT_cells hr
  have HC := mkHid (read_any (str l) w (by rw [str_size]; exact hl))
  rw [str_toList] at HC
  have HR := mkHid hr
  have HN : Hid (numR (l, q) = ((rdNum l).1, ((rdNum l).2.1, q || !(rdNum l).2.2))) := mkHid rfl
  rw [HN.out]
  generalize rdNum l = R at HC ⊢
  obtain ⟨n, beh, ok⟩ := R
  have hn0 : True := trivial
  clear hn0
  clear hr HN
  cases q
  · go_enter Try.func33, Try.ntmps33
    go_wp2_with fail
    refine HC.out.mono ?_
    rintro e w1 ⟨rfl, hb1⟩
    have hR1 := HR.out.up hb1
    obtain ⟨q1, q2, z1, z2⟩ := rdT_cells hR1
    have HR1 := mkHid hR1
    clear hR1 c1 c2
    go_wp2
    go_ret
    exact ⟨rfl, ((HR1.out.set1 beh).set2 _), grown_trans (grown_below hb1) (grown_trans (grown_set _ _ _ _) (grown_set _ _ _ _))⟩
  · go_enter Try.func33, Try.ntmps33
    go_wp2_with fail
    refine HC.out.mono ?_
    rintro e w1 ⟨rfl, hb1⟩
    have hR1 := HR.out.up hb1
    obtain ⟨q1, q2, z1, z2⟩ := rdT_cells hR1
    have HR1 := mkHid hR1
    clear hR1 c1 c2
    go_wp2
    go_ret
    exact ⟨rfl, ((HR1.out.set1 beh).set2 _), grown_trans (grown_below hb1) (grown_trans (grown_set _ _ _ _) (grown_set _ _ _ _))⟩
theorem number_any (b : Nat) (k : Int) (s : St) (w : World) (hr : Rd w b k s) (hl : s.1.length ≤ 1000000) :
    Calls Try.prog 33 #[.pointer (some ⟨b, 0, none⟩)] w fun e w' => e = .returned (.int .u64 (numR s).1) ∧ Rd w' b k (numR s).2 ∧ w.grownBy w' (some b) := numberT_any _ _ b s w hr hl
set_option maxHeartbeats 1000000 in
theorem wrongT_any (T : TypeId) (tl : List Value) (b : Nat) (s : St) (w : World) (hr : RdT T tl w b s) :
    Calls Try.prog 14 #[.pointer (some ⟨b, 0, none⟩)] w fun e w' => e = .returned (.bool s.2) ∧ w' = w := by
  obtain ⟨c1, c2, _, _⟩ := rdT_cells hr
  go_enter Try.func14, Try.ntmps14
  go_wp2
  go_ret
  exact ⟨rfl, rfl⟩
theorem wrong_any (b : Nat) (k : Int) (s : St) (w : World) (hr : Rd w b k s) :
    Calls Try.prog 14 #[.pointer (some ⟨b, 0, none⟩)] w fun e w' => e = .returned (.bool s.2) ∧ w' = w := wrongT_any _ _ b s w hr
set_option maxHeartbeats 1000000 in
theorem refuse_any (b : Nat) (k : Int) (s : St) (w : World) (hr : Rd w b k s) :
    Calls Try.prog 38 #[.pointer (some ⟨b, 0, none⟩)] w fun e w' => e = .returned (.tuple #[]) ∧ Rd w' b k (s.1, true) ∧ w.grownBy w' (some b) := by
  obtain ⟨c0, c1, c2, z1, z2⟩ := rd_cells hr
  have HR := mkHid hr
  clear hr
  go_enter Try.func38, Try.ntmps38
  go_wp2
  go_end0
  exact ⟨rfl, HR.out.set2 true, grown_set _ _ _ _⟩
theorem grown_new {a w : World} {r : Option Nat} (h : a.grownBy w r) {g j : Nat} (hg : a.heap.size ≤ g) (u : Value) : a.grownBy (w.setCell ⟨g, j, none⟩ u) r :=
  ⟨h.os, h.tape, h.output, by have := h.size; simpa using this, fun k hk hn => (heap_setCell_other w ⟨g, j, none⟩ k u (by simp; omega)).trans (h.block k hk hn)⟩
theorem grown_alloc {a w : World} {r : Option Nat} (h : a.grownBy w r) (o : Obj) : a.grownBy (w.alloc o) r := grown_trans h (World.grownBy_alloc w o r)
theorem Rd.grown {w W : World} {b c : Nat} {k : Int} {s : St} (h : Rd w b k s) (hg : w.grownBy W (some c)) (hc : b ≠ c) : Rd W b k s :=
  (hg.block b (blk_lt h) (by simp; exact hc)).trans h

theorem upToR_bad {most : Int} {s : St} (h : badR most s = true) : upToR most s = (0, ((numR s).2.1, true)) := by unfold upToR; rw [if_pos h]
theorem upToR_ok {most : Int} {s : St} (h : badR most s = false) : upToR most s = numR s := by unfold upToR; rw [if_neg (by simp [h])]

set_option maxHeartbeats 1000000 in
set_option maxRecDepth 100000 in
theorem upToT_any (T : TypeId) (tl : List Value) (b : Nat) (most : Int) (s : St) (w : World) (hr : RdT T tl w b s) (hl : s.1.length ≤ 1000000) (hm1 : -1000 ≤ most) (hm2 : most ≤ 9223372036854775807) :
    Calls Try.prog 21 #[.pointer (some ⟨b, 0, none⟩), .int .i64 most] w fun e w' => e = .returned (.int .i64 (upToR most s).1) ∧ RdT T tl w' b (upToR most s).2 ∧ w.grownBy w' (some b) := by
  have HC := mkHid (numberT_any T tl b s w hr hl)
  have HB : Hid (badR most s = ((numR s).2.2 || decide (most < 0) || decide (most < ((numR s).1 : Int)))) := mkHid rfl
  have HT := mkHid (@upToR_bad most s)
  have HF := mkHid (@upToR_ok most s)
  have hn := numR_lt s
  generalize numR s = R at *
  obtain ⟨n, l, q⟩ := R
  clear hr
  simp only at HB HC HT hn
  by_cases hbad : q = true ∨ most < 0 ∨ most < (n : Int)
  · have hb' : badR most s = true := by rw [HB.out]; simpa [or_assoc] using hbad
    rw [HT.out hb']
    clear HT HF HB hb'
    cases q with
    | true =>
      go_enter Try.func21, Try.ntmps21
      go_wp2_with fail
      refine HC.out.mono ?_
      rintro e w1 ⟨rfl, hR1, hg1⟩
      obtain ⟨q1, q2, z1, z2⟩ := rdT_cells hR1
      have HR1 := mkHid hR1
      clear hR1
      go_wp2
      go_ret
      exact ⟨rfl, HR1.out.set2 true, grown_trans hg1 (grown_set _ _ _ _)⟩
    | false =>
      by_cases hneg : most < 0
      · go_enter Try.func21, Try.ntmps21
        go_wp2_with fail
        refine HC.out.mono ?_
        rintro e w1 ⟨rfl, hR1, hg1⟩
        obtain ⟨q1, q2, z1, z2⟩ := rdT_cells hR1
        have HR1 := mkHid hR1
        clear hR1
        go_wp2
        go_ret
        exact ⟨rfl, HR1.out.set2 true, grown_trans hg1 (grown_set _ _ _ _)⟩
      · have hgt : most < (n : Int) := by rcases hbad with h | h | h; cases h; exact absurd h hneg; exact h
        have hpos : 0 ≤ most := by omega
        clear hbad
        go_enter Try.func21, Try.ntmps21
        go_wp2_with fail
        refine HC.out.mono ?_
        rintro e w1 ⟨rfl, hR1, hg1⟩
        obtain ⟨q1, q2, z1, z2⟩ := rdT_cells hR1
        have HR1 := mkHid hR1
        clear hR1
        go_wp2
        go_ret
        exact ⟨rfl, HR1.out.set2 true, grown_trans hg1 (grown_set _ _ _ _)⟩
  · have hb' : badR most s = false := by rw [HB.out]; simpa [and_assoc] using hbad
    rw [HF.out hb']
    clear HT HF HB hb'
    have hq : q = false := by cases q; rfl; exact absurd (Or.inl rfl) hbad
    subst hq
    have hpos : 0 ≤ most := by omega
    have hle : (n : Int) ≤ most := by omega
    clear hbad
    go_enter Try.func21, Try.ntmps21
    go_wp2_with fail
    refine HC.out.mono ?_
    rintro e w1 ⟨rfl, hR1, hg1⟩
    obtain ⟨q1, q2, z1, z2⟩ := rdT_cells hR1
    have HR1 := mkHid hR1
    clear hR1
    go_wp2
    go_ret
    exact ⟨rfl, HR1.out, hg1⟩

theorem upTo_any (b : Nat) (k most : Int) (s : St) (w : World) (hr : Rd w b k s) (hl : s.1.length ≤ 1000000) (hm1 : -1000 ≤ most) (hm2 : most ≤ 1000) :
    Calls Try.prog 21 #[.pointer (some ⟨b, 0, none⟩), .int .i64 most] w fun e w' => e = .returned (.int .i64 (upToR most s).1) ∧ Rd w' b k (upToR most s).2 ∧ w.grownBy w' (some b) := upToT_any _ _ b most s w hr hl hm1 (by omega)

set_option maxHeartbeats 1000000 in
set_option maxRecDepth 100000 in
theorem bytesT_any (T : TypeId) (tl : List Value) (b n : Nat) (s : St) (w : World) (hr : RdT T tl w b s) (hl : s.1.length ≤ 1000000) :
    Calls Try.prog 22 #[.pointer (some ⟨b, 0, none⟩), .int .i64 n] w fun e w' => e = .returned (.string (str (bytesR n s).1)) ∧ RdT T tl w' b (bytesR n s).2 ∧ w.grownBy w' (some b) := by
  obtain ⟨l, q⟩ := s
  obtain ⟨c1, c2, z1, z2⟩ := rdT_cells hr
  have HR := mkHid hr
  have hsz := str_size l
  simp only at hl c1 c2
  by_cases h : l.length < n
  · have HB : Hid (bytesR n (l, q) = ([], (l, true))) := mkHid (by unfold bytesR; rw [if_pos h])
    rw [HB.out]
    have hlt : ((str l).size : Int) < (n : Int) := by rw [hsz]; omega
    clear hr hsz h
    go_enter Try.func22, Try.ntmps22
    go_wp2
    go_ret
    exact ⟨rfl, HR.out.set2 true, grown_set _ _ _ _⟩
  · have HB : Hid (bytesR n (l, q) = (l.take n, (l.drop n, q))) := mkHid (by unfold bytesR; rw [if_neg h])
    have hlt : ¬ ((str l).size : Int) < (n : Int) := by rw [hsz]; omega
    have hle : (n : Int) ≤ ((str l).size : Int) := by rw [hsz]; omega
    have hle2 : n ≤ (str l).size := by rw [hsz]; omega
    have E1 := mkHid (extract_head (str l) n)
    have E2 := mkHid (extract_tail (str l) n)
    rw [str_toList] at E1 E2
    rw [HB.out]
    have HS1 := mkHid (HR.out.set1 (l.drop n))
    rw [← E2.out] at HS1
    clear hr hsz h
    generalize str l = sl at *
    go_enter Try.func22, Try.ntmps22
    go_wp2
    go_ret
    refine ⟨?_, HS1.out, grown_set _ _ _ _⟩
    rw [← E1.out]; rfl
theorem bytes_any (b n : Nat) (k : Int) (s : St) (w : World) (hr : Rd w b k s) (hl : s.1.length ≤ 1000000) (_hn : n ≤ 1000) :
    Calls Try.prog 22 #[.pointer (some ⟨b, 0, none⟩), .int .i64 n] w fun e w' => e = .returned (.string (str (bytesR n s).1)) ∧ Rd w' b k (bytesR n s).2 ∧ w.grownBy w' (some b) := bytesT_any _ _ b n s w hr hl
end Go.Proofs.Ytmbnomplckhmeaa
