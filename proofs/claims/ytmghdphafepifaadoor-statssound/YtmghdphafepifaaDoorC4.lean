/- What the statement's own right, alone and pick, and its closures, do, said of every call; when two that are known are the same. -/
import Derived.Test.YtmghdphafepifaaDoorC3
namespace Go.Proofs.YtmghdphafepifaaDoor
open Go.RowKit Go.Proofs

def okL (l : List V) : Bool := l.all fun x => okV x.1 x.2.1 x.2.2
theorem okL_not {l : List V} {k : Nat} {x : V} (hx : l[k]? = some x) (h : okV x.1 x.2.1 x.2.2 = false) : false = okL l := by
  cases e : okL l with
  | false => rfl
  | true =>
    have := List.all_eq_true.1 e x (List.mem_of_getElem? hx)
    rw [h] at this; cases this
theorem okL_next {l : List V} {k : Nat} {x : V} (hx : l[k]? = some x) (h0 : okL (l.take k) = true) (h : okV x.1 x.2.1 x.2.2 = true) : okL (l.take (k + 1)) = true := by
  rw [take_one_more hx]
  unfold okL at h0 ⊢
  rw [List.all_append, h0]; simp [h]
theorem okV_kind {k n : Int} {t : ByteArray} (h : okV k n t = true) : 0 ≤ k := by
  unfold okV rightV at h
  by_cases h0 : k = 0
  · omega
  by_cases h1 : k = 1
  · omega
  by_cases h2 : k = 2
  · omega
  · simp [h0, h1, h2] at h
theorem okL_kind {l : List V} (h : okL l = true) : ∀ x ∈ l, 0 ≤ x.1 := fun x hx => okV_kind (List.all_eq_true.1 h x hx)

set_option maxHeartbeats 2000000 in
theorem right_sl (v : Value) (l : List V) (w : World) (hs : Sl w v l) (hl : l.length ≤ 40) (hT : ∀ x ∈ l, x.2.2.size ≤ maxLen) :
    Calls Tryd.prog 7 #[v] w fun e w' => e = .returned (.bool (okL l)) ∧ Below w.heap.size w w' := by
  obtain ⟨a, c, rfl, _, hL⟩ := hs
  have HC : Hid (∀ k n t W, t.size ≤ maxLen → Calls Tryd.prog 26 #[.agg #[.int .i64 k, .int .i64 n, .string t]] W fun e w' => e = .returned (.bool (rightV k n t)) ∧ Below W.heap.size W w') := fun k n t W h => rightV_any k n t W h
  have HL := mkHid hL; have HT := mkHid hT
  clear hL hT
  go_enter Tryd.func7, Tryd.ntmps7
  go_wp2
  go_loopw [3] (fun i wr => ∃ k : Nat, k ≤ l.length ∧ i = .int .i64 k ∧ Hid (okL (l.take k) = true) ∧ Hid (Below w.heap.size w wr)) (fun i _ => l.length - (intOf i).toNat)
  case atStart => exact ⟨0, Nat.zero_le _, rfl, rfl, Below.refl _ _⟩
  case round =>
    obtain ⟨k, hk, rfl, hok, hbw⟩ := hrel
    by_cases hlt : k < l.length
    · obtain ⟨b, off, rfl, hb, hc⟩ := HL.out (by intro e; rw [e] at hlt; simp at hlt)
      obtain ⟨⟨kx, nx, tx⟩, hx⟩ := getEx hlt
      obtain ⟨g0, g1, g2⟩ := hc k _ hx
      have d0 : wr.cell? ⟨b, off + k * 3, none⟩ = some (.int .i64 kx) := (hbw.out.cell (p := ⟨b, off + k * 3, none⟩) hb).trans g0
      have d1 : wr.cell? ⟨b, off + k * 3 + 1, none⟩ = some (.int .i64 nx) := (hbw.out.cell (p := ⟨b, off + k * 3 + 1, none⟩) hb).trans g1
      have d2 : wr.cell? ⟨b, off + k * 3 + 2, none⟩ = some (.string tx) := (hbw.out.cell (p := ⟨b, off + k * 3 + 2, none⟩) hb).trans g2
      have ht := HT.out _ (List.mem_of_getElem? hx)
      simp only at ht
      have HX := mkHid hx
      clear g0 g1 g2 hc hx
      by_cases hz : 100 < (tx.size : Int)
      · have HR : Hid (false = okL l) := okL_not HX.out (by simp [okV, hz])
        go_wp2
        go_ret
        exact ⟨ret_bool HR.out, hbw.out⟩
      · have HR0 : Hid (rightV kx nx tx = false → false = okL l) := fun h => okL_not HX.out (by simp [okV, h])
        have HR1 : Hid (rightV kx nx tx = true → okL (l.take (k + 1)) = true) := fun h => okL_next HX.out hok.out (by simp only [okV, h]; simp at hz ⊢; exact hz)
        go_wp2_with (first
          | (go_at_call 26; refine (HC.out kx nx tx _ ht).mono ?_; rintro e w1 ⟨rfl, hb1⟩))
        · go_ret
          exact ⟨ret_bool (HR0.out (nt ‹_›)), Below.up hbw.out hb1⟩
        · go_roundw
          case rel => exact ⟨k + 1, by omega, by go_num, HR1.out (nf ‹_›), Below.up hbw.out hb1⟩
          case measure => simp [intOf]; omega
    · have HR : Hid (true = okL l) := by
        have e : l.take k = l := List.take_of_length_le (by omega)
        rw [e] at hok
        exact hok.out.symm
      go_wp2
      go_ret
      exact ⟨ret_bool HR.out, hbw.out⟩

def aloneB : List V → Int → Bool
  | [], _ => true
  | x :: l, kd => if ¬ x.1 = 0 ∧ ¬ kd = 0 ∧ ¬ x.1 = kd then false else aloneB l (max kd x.1)
theorem aloneB_all : ∀ (l : List V) (kd : Int), 0 ≤ kd → (∀ x ∈ l, 0 ≤ x.1) → aloneB l kd = true → (¬ kd = 0 → ∀ x ∈ l, ¬ x.1 = 0 → x.1 = kd) ∧ Alone l
  | [], _, _, _, _ => ⟨fun _ x hx => by simp at hx, fun x hx => by simp at hx⟩
  | y :: l, kd, hk, hn, h => by
    unfold aloneB at h
    split at h
    · cases h
    · rename_i hc
      have hy := hn y (by simp)
      have ih := aloneB_all l (max kd y.1) (by omega) (fun x hx => hn x (by simp [hx])) h
      by_cases h0 : y.1 = 0
      · rw [h0, show max kd 0 = kd by omega] at ih
        refine ⟨fun hkd x hx hx0 => ?_, fun a ha b hb ha0 hb0 => ?_⟩
        · rcases List.mem_cons.1 hx with rfl | hx
          · exact (hx0 h0).elim
          · exact ih.1 hkd x hx hx0
        · rcases List.mem_cons.1 ha with rfl | ha
          · exact (ha0 h0).elim
          · rcases List.mem_cons.1 hb with rfl | hb
            · exact (hb0 h0).elim
            · exact ih.2 a ha b hb ha0 hb0
      · have hm : max kd y.1 = y.1 := by omega
        rw [hm] at ih
        have key : ∀ x ∈ y :: l, ¬ x.1 = 0 → x.1 = y.1 := fun x hx hx0 => by
          rcases List.mem_cons.1 hx with rfl | hx
          · rfl
          · exact ih.1 h0 x hx hx0
        refine ⟨fun hkd x hx hx0 => ?_, fun a ha b hb ha0 hb0 => (key a ha ha0).trans (key b hb hb0).symm⟩
        have := key x hx hx0
        omega
theorem aloneB_drop {l : List V} {k : Nat} {x : V} {kd : Int} (hx : l[k]? = some x) : aloneB (l.drop k) kd = if ¬ x.1 = 0 ∧ ¬ kd = 0 ∧ ¬ x.1 = kd then false else aloneB (l.drop (k + 1)) (max kd x.1) := by
  have hk : k < l.length := by
    rcases Nat.lt_or_ge k l.length with h' | h'
    · exact h'
    · rw [List.getElem?_eq_none h'] at hx; cases hx
  rw [List.getElem?_eq_getElem hk] at hx
  injection hx with hx
  rw [List.drop_eq_getElem_cons hk, hx]
  rfl

set_option maxHeartbeats 2000000 in
theorem alone_any (v : Value) (l : List V) (w : World) (hs : Sl w v l) (hl : l.length ≤ 40) :
    Calls Tryd.prog 18 #[v] w fun e w' => e = .returned (.bool (aloneB l 0)) ∧ w' = w := by
  obtain ⟨a, c, rfl, _, hL⟩ := hs
  have HL := mkHid hL
  clear hL
  go_enter Tryd.func18, Tryd.ntmps18
  go_wp2
  go_loop [3, 4] (fun q i => ∃ (k : Nat) (kd : Int), k ≤ l.length ∧ i = .int .i64 k ∧ q = .int .i64 kd ∧ Hid (aloneB l 0 = aloneB (l.drop k) kd)) (fun _ i => l.length - (intOf i).toNat)
  case atStart => exact ⟨0, 0, Nat.zero_le _, rfl, rfl, rfl⟩
  case round =>
    obtain ⟨k, kd, hk, rfl, rfl, hok⟩ := hrel
    by_cases hlt : k < l.length
    · obtain ⟨b, off, rfl, hb, hc⟩ := HL.out (by intro e; rw [e] at hlt; simp at hlt)
      obtain ⟨⟨kx, nx, tx⟩, hx⟩ := getEx hlt
      obtain ⟨d0, _, _⟩ := hc k _ hx
      simp only at d0
      have HX := mkHid (hok.out.trans (aloneB_drop (kd := kd) hx))
      clear hc hx
      by_cases h0 : kx = 0
      · subst h0
        have HX' : Hid (aloneB l 0 = aloneB (l.drop (k + 1)) (max kd 0)) := mkHid (HX.out.trans (if_neg (fun h => h.1 rfl)))
        clear HX
        go_wp2
        go_round
        case rel => exact ⟨k + 1, max kd 0, by omega, by go_num, rfl, HX'⟩
        case measure => simp [intOf]; omega
      by_cases h1 : kd = 0
      · subst h1
        have HX' : Hid (aloneB l 0 = aloneB (l.drop (k + 1)) (max 0 kx)) := mkHid (HX.out.trans (if_neg (fun h => h.2.1 rfl)))
        clear HX
        go_wp2
        go_round
        case rel => exact ⟨k + 1, max 0 kx, by omega, by go_num, rfl, HX'⟩
        case measure => simp [intOf]; omega
      by_cases h2 : kx = kd
      · subst h2
        have HX' : Hid (aloneB l 0 = aloneB (l.drop (k + 1)) (max kx kx)) := mkHid (HX.out.trans (if_neg (fun h => h.2.2 rfl)))
        clear HX
        go_wp2
        go_round
        case rel => exact ⟨k + 1, max kx kx, by omega, by go_num, by simp, HX'⟩
        case measure => simp [intOf]; omega
      · have HX' : Hid (aloneB l 0 = false) := mkHid (HX.out.trans (if_pos ⟨h0, h1, h2⟩))
        have n0 : (kx != 0) = true := by simpa using h0
        have n1 : (kd != 0) = true := by simpa using h1
        have n2 : (kx != kd) = true := by simpa using h2
        clear HX h0 h1 h2
        go_wp2
        go_ret
        exact ⟨ret_bool HX'.out.symm, rfl⟩
    · have HX : Hid (aloneB l 0 = true) := mkHid (by rw [hok.out, List.drop_eq_nil_of_le (by omega)]; rfl)
      go_wp2
      go_ret
      exact ⟨ret_bool HX.out.symm, rfl⟩

set_option maxHeartbeats 1000000 in
theorem pick_any (a : Int) (n : Nat) (hn : 0 < n) (hn2 : n ≤ 1000000) (w : World) :
    Calls Tryd.prog 23 #[.int .i64 a, .int .i64 n] w fun e w' => ∃ r : Nat, r < n ∧ e = .returned (.int .i64 r) ∧ w' = w := by
  have hw : (0 : Int) ≤ IntKind.u64.wrap a ∧ IntKind.u64.wrap a < 18446744073709551616 := by rw [IntKind.wrap_u64]; omega
  have hz : ((n : Int) == 0) = false := by simp; omega
  have hnz : ¬ (n : Int) = 0 := by omega
  go_enter Tryd.func23, Tryd.ntmps23
  go_wp2
  go_ret
  have hm0 : 0 ≤ IntKind.u64.wrap a % (n : Int) := Int.emod_nonneg _ hnz
  have hm1 : IntKind.u64.wrap a % (n : Int) < (n : Int) := Int.emod_lt_of_pos _ (by omega)
  refine ⟨(IntKind.u64.wrap a % (n : Int)).toNat, by omega, ret_int ?_, rfl⟩
  unfold wrap64; omega

def gS (x y : St) (s : ByteArray) : St := if s.toList == [97] then x else y
def gV (x y : V) (s : ByteArray) : V := if s.toList == [97] then x else y

set_option maxHeartbeats 2000000 in
theorem get21_any (ba bb : Nat) (x y : St) (s : ByteArray) (w : World) (ha : KAt w ba x) (hb : KAt w bb y) :
    Calls Tryd.prog 21 #[.string s, .pointer (some ⟨ba, 0, none⟩), .pointer (some ⟨bb, 0, none⟩)] w fun e w' => e = .returned (.agg (cellsS (gS x y s))) ∧ Below w.heap.size w w' := by
  have la := ha.lt
  have lb := hb.lt
  obtain ⟨xc, xm, ⟨xk, xn, xt⟩, ⟨xp, xq, xu⟩⟩ := x
  obtain ⟨yc, ym, ⟨yk, yn, yt⟩, ⟨yp, yq, yu⟩⟩ := y
  obtain ⟨a0, a1, a2, a3, a4, a5, a6, a7⟩ := ha.cells
  obtain ⟨b0, b1, b2, b3, b4, b5, b6, b7⟩ := hb.cells
  clear ha hb
  cases hA : (s.toList == [97])
  · have HQ : Hid (gS (xc, xm, (xk, xn, xt), (xp, xq, xu)) (yc, ym, (yk, yn, yt), (yp, yq, yu)) s = (yc, ym, (yk, yn, yt), (yp, yq, yu))) := mkHid (by unfold gS; rw [hA]; rfl)
    go_enter Tryd.func21, Tryd.ntmps21
    go_wp2
    exact bodyPost_ret (v := .agg #[.int .i64 yc, .int .i64 ym, .int .i64 yk, .int .i64 yn, .string yt, .int .i64 yp, .int .i64 yq, .string yu]) (by simp [results, Tryd.results21, go_sem]) rfl ⟨by rw [HQ.out]; rfl, (Below.refl _ _).alloc (Nat.le_refl _) _⟩
  · have HQ : Hid (gS (xc, xm, (xk, xn, xt), (xp, xq, xu)) (yc, ym, (yk, yn, yt), (yp, yq, yu)) s = (xc, xm, (xk, xn, xt), (xp, xq, xu))) := mkHid (by unfold gS; rw [hA]; rfl)
    go_enter Tryd.func21, Tryd.ntmps21
    go_wp2
    exact bodyPost_ret (v := .agg #[.int .i64 xc, .int .i64 xm, .int .i64 xk, .int .i64 xn, .string xt, .int .i64 xp, .int .i64 xq, .string xu]) (by simp [results, Tryd.results21, go_sem]) rfl ⟨by rw [HQ.out]; rfl, (Below.refl _ _).alloc (Nat.le_refl _) _⟩

set_option maxHeartbeats 2000000 in
theorem get36_any (ba : Nat) (x : St) (s : ByteArray) (w : World) (ha : KAt w ba x) :
    Calls Tryd.prog 36 #[.string s, .pointer (some ⟨ba, 0, none⟩)] w fun e w' => e = .returned (.agg (cellsS x)) ∧ Below w.heap.size w w' := by
  have la := ha.lt
  obtain ⟨xc, xm, ⟨xk, xn, xt⟩, ⟨xp, xq, xu⟩⟩ := x
  obtain ⟨a0, a1, a2, a3, a4, a5, a6, a7⟩ := ha.cells
  clear ha
  go_enter Tryd.func36, Tryd.ntmps36
  go_wp2
  exact bodyPost_ret (v := .agg #[.int .i64 xc, .int .i64 xm, .int .i64 xk, .int .i64 xn, .string xt, .int .i64 xp, .int .i64 xq, .string xu]) (by simp [results, Tryd.results36, go_sem]) rfl ⟨rfl, (Below.refl _ _).alloc (Nat.le_refl _) _⟩

theorem eqV_same (d : Nat) (ka na : Int) (ta : ByteArray) (w : World) : (Op.equalIn (d + 1 + 1) 23 (.agg #[.int .i64 ka, .int .i64 na, .string ta]) (.agg #[.int .i64 ka, .int .i64 na, .string ta])).run Tryd.prog w = .ok true w := by
  have hS : Tryd.prog.underlying 23 = some (.struct (Tryd.prog.fieldsOf 23)) := by kernel_rfl
  rw [run_equalIn_agg w (d + 1) 23 _ _ hS (by kernel_rfl)]
  simp only [Program.fieldsOf, Tryd.underlying23]
  go_simp
theorem eqS_same (a b c d : Int) (e : ByteArray) (f g : Int) (h : ByteArray) (w : World) : (Op.equalIn 10000 45 (.agg #[.int .i64 a, .int .i64 b, .int .i64 c, .int .i64 d, .string e, .int .i64 f, .int .i64 g, .string h]) (.agg #[.int .i64 a, .int .i64 b, .int .i64 c, .int .i64 d, .string e, .int .i64 f, .int .i64 g, .string h])).run Tryd.prog w = .ok true w := by
  have hS : Tryd.prog.underlying 45 = some (.struct (Tryd.prog.fieldsOf 45)) := by kernel_rfl
  have h1 := eqV_same 9997 c d e
  have h2 := eqV_same 9997 f g h
  rw [show (10000 : Nat) = 9999 + 1 from rfl, run_equalIn_agg w 9999 45 _ _ hS (by kernel_rfl)]
  simp only [Program.fieldsOf, Tryd.underlying45]
  go_simp
end Go.Proofs.YtmghdphafepifaaDoor
