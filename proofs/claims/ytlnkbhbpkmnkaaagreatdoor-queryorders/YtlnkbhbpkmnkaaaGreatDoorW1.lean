/- What schema.small and schema.digit do, said of every call. -/
import Derived.Test.YtlnkbhbpkmnkaaaGreatDoorYSe
import Derived.Test.YtlnkbhbpkmnkaaaGreatDoorYRa
import Derived.Sort.Lot0
import Derived.Test.YtlnkbhbpkmnkaaaGreatDoorYRb
import Derived.WalkKit
import Derived.Lib.SlBy
import Derived.Test.YtlnkbhbpkmnkaaaGreatDoorProg
import Derived.WalkSpells
import Derived.WalkLawsBesides
namespace Go.Proofs.YtlnkbhbpkmnkaaaGreatDoor.Stb
open Go.Shelf Go.RowKit Go.Proofs Go.Lib Go.Sort
variable {α : Type} [Inhabited α]

/-- One goes left, past all that is more. -/
theorem insInner_list (lt : α → α → Bool) (ho : Ord lt) : ∀ (n : Nat) (A : List α) {d : Array α} {P Q : List α} {y : α} {a j : Nat}, A.length = n → d.toList = P ++ (A ++ (y :: Q)) → Up lt A → P.length = a → j = a + A.length → (insInner lt a j d).toList = P ++ (mg lt A [y] ++ Q)
  | 0, A, d, P, Q, y, a, j, hn, hd, _, hP, hj => by
    obtain rfl := List.length_eq_zero_iff.1 hn
    obtain rfl : j = a := by simpa using hj
    rw [insInner_stop _ _ _ _ (.inl (Nat.le_refl _)), hd, mg_nil']
    simp
  | n + 1, A, d, P, Q, y, a, j, hn, hd, hU, hP, hj => by
    obtain ⟨A', x, rfl⟩ : ∃ A' x, A = A' ++ [x] := ⟨A.dropLast, A.getLast (by intro e; rw [e] at hn; simp at hn), (List.dropLast_concat_getLast _).symm⟩
    rw [List.length_append, List.length_singleton] at hn hj
    have hU' : Up lt A' := (List.pairwise_append.1 hU).1
    have hx : ∀ z ∈ A', lt x z = false := fun z hz => (List.pairwise_append.1 hU).2.2 z hz x (List.mem_singleton.2 rfl)
    have e1 : d[j - 1]! = x := by
      have := at_list (d := d) (P := P ++ A') (x := x) (Q := y :: Q) (by rw [hd]; simp)
      rw [← this]
      congr 1
      rw [List.length_append]
      omega
    have e2 : d[j]! = y := by
      have := at_list (d := d) (P := P ++ A' ++ [x]) (x := y) (Q := Q) (by rw [hd]; simp)
      rw [← this]
      congr 1
      simp
      omega
    cases hl : lt y x with
    | false =>
      rw [insInner_stop _ _ _ _ (.inr (by rw [e1, e2]; exact hl)), hd]
      have hm := mg_last lt y (A' ++ [x]) [] (fun z hz => by
        rcases List.mem_append.1 hz with hz | hz
        · exact ho.trans _ _ _ (hx z hz) hl
        · rw [List.mem_singleton.1 hz]; exact hl) (fun z hz => by cases hz)
      rw [List.append_nil] at hm
      rw [hm]
      simp
    | true =>
      have hjp : a < j := by omega
      rw [insInner_go lt a j d hjp (by rw [e1, e2]; exact hl)]
      have hsw : (swp d j (j - 1)).toList = P ++ (A' ++ (y :: (x :: Q))) := by
        rw [swp_back (d := d) (P := P ++ A') (x := x) (y := y) (Q := Q) (by rw [hd]; simp) (by rw [List.length_append]; omega) (by rw [List.length_append]; omega)]
        simp
      rw [insInner_list lt ho n A' (by omega) hsw hU' hP (by omega)]
      have hm : mg lt (A' ++ [x]) [y] = mg lt A' [y] ++ [x] := by
        have := mg_cut lt A' [y] [x] [] (fun z hz w hw => by cases hw) (fun z hz w hw => by rw [List.mem_singleton.1 hz, List.mem_singleton.1 hw]; exact hl)
        simpa [mg_nil] using this
      rw [hm]
      simp
theorem insOuter_list (lt : α → α → Bool) (ho : Ord lt) : ∀ (n : Nat) (X Y : List α) {d : Array α} {P Q : List α} {a b i : Nat}, Y.length = n → d.toList = P ++ (ss lt X ++ (Y ++ Q)) → P.length = a → i = a + X.length → b = i + Y.length → (insOuter lt a b i d).toList = P ++ (ss lt (X ++ Y) ++ Q)
  | 0, X, Y, d, P, Q, a, b, i, hn, hd, _, _, hb => by
    obtain rfl := List.length_eq_zero_iff.1 hn
    rw [insOuter, if_neg (by simp at hb; omega), hd]
    simp
  | n + 1, X, [], d, P, Q, a, b, i, hn, _, _, _, _ => by simp at hn
  | n + 1, X, y :: Y, d, P, Q, a, b, i, hn, hd, hP, hi, hb => by
    simp only [List.length_cons] at hn hb
    rw [insOuter, if_pos (by omega)]
    have h1 := insInner_list lt ho _ (ss lt X) (d := d) (P := P) (Q := Y ++ Q) (y := y) (a := a) (j := i) rfl (by rw [hd]; simp) (ss_up lt ho X) hP (by rw [ss_len]; exact hi)
    rw [← ss_snoc lt ho] at h1
    have := insOuter_list lt ho n (X ++ [y]) Y (d := insInner lt a i d) (P := P) (Q := Q) (a := a) (b := b) (i := i + 1) (by omega) h1 hP (by simp; omega) (by omega)
    rw [this]
    simp
theorem insertion_list (lt : α → α → Bool) (ho : Ord lt) {d : Array α} {P X Q : List α} {a b : Nat} (hd : d.toList = P ++ (X ++ Q)) (hP : P.length = a) (hb : X.length + a = b) : (insertionSort lt d a b).toList = P ++ (ss lt X ++ Q) := by
  unfold insertionSort
  cases X with
  | nil =>
    rw [insOuter, if_neg (by simp at hb; omega), hd]
    simp [ss]
  | cons x X =>
    simp only [List.length_cons] at hb
    have := insOuter_list lt ho _ [x] X (d := d) (P := P) (Q := Q) (a := a) (b := b) (i := a + 1) rfl (by rw [hd]; simp [ss, mg_nil]) hP (by simp) (by omega)
    rw [this]
    simp
theorem insertion_s (enc : α → Value) (cf : α → α → Int) (gf : Nat) (cb : Array Value) (blk off cap a b : Nat) (d0 d : Array α) (w0 w : World) (P X Q : List α)
    (eg : ∀ args w, (callFunc gf args).run Tryz.prog w = .ok (.enter gf args) w) (hcmp : CmpLays1 Tryz.prog gf cb enc cf blk off d0.size w0) (hR : Row1 enc w0 blk off d0) (hs : d0.size = d.size) (S : SW enc w0 blk off d w) (ho : Ord (ltOf cf))
    (hd : d.toList = P ++ (X ++ Q)) (hP : P.length = a) (hb : X.length + a = b) (hsz : d.size < 1000000) :
    Calls Tryz.prog 90 #[.slice (some ⟨blk, off, none⟩) d.size cap, .int .i64 a, .int .i64 b, .func (.func gf) #[] cb] w fun e w' => e = .returned (.tuple #[]) ∧ ∃ d', SW enc w0 blk off d' w' ∧ d'.toList = P ++ (ss (ltOf cf) X ++ Q) := by
  have hbd : b ≤ d.size := by rw [← Array.length_toList, hd, List.length_append, List.length_append]; omega
  have h := Any.insertionSortCmpFunc_s (ρ := Tryz.laySort_ren) { Tryz.laySort with } enc cf gf cb blk off cap a b d0 d w0 w eg hcmp hR hs S (by omega) hbd (by omega)
  change Calls Tryz.prog 90 _ _ _ at h
  exact h.mono fun e w' ⟨h1, h2⟩ => ⟨h1, _, h2, insertion_list (ltOf cf) ho hd hP hb⟩
end Go.Proofs.YtlnkbhbpkmnkaaaGreatDoor.Stb
namespace Go.Proofs.YtlnkbhbpkmnkaaaGreatDoor.Stb
open Go.Shelf Go.RowKit Go.Proofs Go.Lib Go.Sort
section
variable {α : Type}
/-! ### blocks that stand in order -/
/-- Of a row the blocks of k, each in order. -/
def sb (lt : α → α → Bool) (k : Nat) (X : List α) : List α :=
  if _h : X.length ≤ k ∨ k = 0 then ss lt X else ss lt (X.take k) ++ sb lt k (X.drop k)
termination_by X.length
decreasing_by rw [List.length_drop]; omega
theorem sb_few {lt : α → α → Bool} {k : Nat} {X : List α} (h : X.length ≤ k) : sb lt k X = ss lt X := by rw [sb, dif_pos (.inl h)]
theorem sb_more {lt : α → α → Bool} {k : Nat} {X : List α} (h : k < X.length) (hk : 0 < k) : sb lt k X = ss lt (X.take k) ++ sb lt k (X.drop k) := by rw [sb, dif_neg (by omega)]
theorem sb_len {lt : α → α → Bool} {k : Nat} : ∀ (n : Nat) (X : List α), X.length ≤ n → (sb lt k X).length = X.length
  | n, X, hn => by
    rw [sb]
    split
    · exact ss_len lt X
    · rename_i h
      cases n with
      | zero => omega
      | succ n =>
        rw [List.length_append, ss_len, sb_len n (X.drop k) (by rw [List.length_drop]; omega), List.length_take, List.length_drop]
        omega
/-- Where k rows are a block or none is whole, blocks' first one goes first also where it is just k. -/
theorem sb_step {lt : α → α → Bool} {k : Nat} {X : List α} (h : k ≤ X.length) (hk : 0 < k) : sb lt k X = ss lt (X.take k) ++ sb lt k (X.drop k) := by
  rcases Nat.lt_or_ge k X.length with hlt | hge
  · exact sb_more hlt hk
  · have e : k = X.length := by omega
    rw [sb_few hge, e, List.take_length, List.drop_length, sb_few (Nat.zero_le _)]
    simp [ss]
theorem sb_two {lt : α → α → Bool} (ho : Ord lt) {k : Nat} {X : List α} (h : k + k ≤ X.length) (hk : 0 < k) : sb lt k X = ss lt (X.take k) ++ (ss lt ((X.drop k).take k) ++ sb lt k (X.drop (k + k))) ∧ sb lt (k + k) X = mg lt (ss lt (X.take k)) (ss lt ((X.drop k).take k)) ++ sb lt (k + k) (X.drop (k + k)) := by
  refine ⟨?_, ?_⟩
  · rw [sb_step (by omega) hk, sb_step (k := k) (X := X.drop k) (by rw [List.length_drop]; omega) hk, List.drop_drop]
  · rw [sb_step (k := k + k) h (by omega), ← ss_append lt ho, ← List.take_add]
theorem sb_tail {lt : α → α → Bool} (ho : Ord lt) {k : Nat} {X : List α} (h1 : k < X.length) (h2 : X.length ≤ k + k) (hk : 0 < k) : sb lt k X = ss lt (X.take k) ++ ss lt (X.drop k) ∧ sb lt (k + k) X = mg lt (ss lt (X.take k)) (ss lt (X.drop k)) := by
  refine ⟨?_, ?_⟩
  · rw [sb_more h1 hk, sb_few (X := X.drop k) (by rw [List.length_drop]; omega)]
  · rw [sb_few h2, ← ss_append lt ho, List.take_append_drop]
end
variable {α : Type} [Inhabited α]
set_option maxHeartbeats 16000000 in
set_option maxRecDepth 1000000 in
theorem stable_s (enc : α → Value) (cf : α → α → Int) (gf : Nat) (cb : Array Value) (blk off cap n : Nat) (d0 d : Array α) (w0 w : World)
    (eg : ∀ args w, (callFunc gf args).run Tryz.prog w = .ok (.enter gf args) w) (hcmp : CmpLays1 Tryz.prog gf cb enc cf blk off d0.size w0) (hR : Row1 enc w0 blk off d0) (hs : d0.size = n) (hdn : d.size = n) (S : SW enc w0 blk off d w) (ho : Ord (ltOf cf)) (hsz : n < 1000000) :
    Calls Tryz.prog 81 #[.slice (some ⟨blk, off, none⟩) n cap, .int .i64 n, .func (.func gf) #[] cb] w fun e w' => e = .returned (.tuple #[]) ∧ ∃ d', SW enc w0 blk off d' w' ∧ d'.toList = ss (ltOf cf) d.toList := by
  obtain ⟨X, hX⟩ : ∃ X, X = d.toList := ⟨_, rfl⟩
  have hXn : X.length = n := by rw [hX, Array.length_toList, hdn]
  have HXL : Aside (X.length = n) := hXn
  have HSZ : Aside (∀ (d' : Array α) (l : List α), d'.toList = l → l.length = n → d'.size = n) := fun d' l h1 h2 => by rw [← Array.length_toList, h1, h2]
  have HIN : Aside (∀ (a b : Nat) (d' : Array α) (W : World) (P Y Q : List α), d'.size = n → SW enc w0 blk off d' W → d'.toList = P ++ (Y ++ Q) → P.length = a → Y.length + a = b →
      Calls Tryz.prog 90 #[.slice (some ⟨blk, off, none⟩) n cap, .int .i64 a, .int .i64 b, .func (.func gf) #[] cb] W fun e w' => e = .returned (.tuple #[]) ∧ ∃ d'', SW enc w0 blk off d'' w' ∧ d''.toList = P ++ (ss (ltOf cf) Y ++ Q)) := fun a b d' W P Y Q h1 h2 h3 h4 h5 => by
    have := insertion_s enc cf gf cb blk off cap a b d0 d' w0 W P Y Q eg hcmp hR (by omega) h2 ho h3 h4 h5 (by omega)
    rwa [h1] at this
  have HSY : Aside (∀ k, SymOk enc cf gf cb blk off cap n w0 k) := fun k => by
    have := symMerge_s enc cf gf cb blk off cap d0 w0 eg hcmp hR ho (by omega) k
    rwa [hs] at this
  have S0 : Aside (SW enc w0 blk off d w) := S
  have HD : Aside (d.toList = X) := hX.symm
  have HDZ : Aside (d.size = n) := hdn
  rw [← hX]
  clear S hX hXn hR hcmp hs hdn
  go_enter Tryz.func81, Tryz.ntmps81
  go_wp2_with fail
  go_loopw [7, 8] (fun va vb wr => ∃ (a b : Nat) (P1 : List α) (dk : Array α), va = .int .i64 (a : Int) ∧ vb = .int .i64 (b : Int) ∧ Aside (b = a + 20) ∧ a ≤ n ∧ dk.size = n ∧ Aside (SW enc w0 blk off dk wr) ∧ Aside (dk.toList = P1 ++ X.drop a ∧ P1.length = a ∧ P1 ++ sb (ltOf cf) 20 (X.drop a) = sb (ltOf cf) 20 X)) (fun va _ _ => n - (intOf va).toNat)
  case atStart => exact ⟨0, 20, [], d, rfl, rfl, rfl, Nat.zero_le _, HDZ.out, S0, by rw [HD.out]; rfl, rfl, rfl⟩
  case round =>
    clear S0 HD HDZ
    obtain ⟨a, b, P1, dk, rfl, rfl, HB, han, hds, S1, HK⟩ := hrel
    by_cases hlt : b ≤ n
    · have hz : (b : Int) ≤ (n : Int) := by omega
      have HC1 := mkA (HIN.out a b dk wr P1 ((X.drop a).take 20) (X.drop b) hds S1.out (by rw [HK.out.1, HB.out, ← List.drop_drop, List.take_append_drop]) HK.out.2.1 (by have := HB.out; rw [List.length_take, List.length_drop, HXL.out]; omega))
      have rb : IntKind.i64.wrap ((b : Int) + 20) = (b : Int) + 20 := by rw [IntKind.wrap_i64]; omega
      clear S1
      go_wp2_with fail
      refine HC1.out.mono ?_
      rintro e w2 ⟨rfl, d2, hS2, hL2⟩
      have S2 : Aside (SW enc w0 blk off d2 w2) := hS2
      have HL2 : Aside (d2.toList = (P1 ++ ss (ltOf cf) ((X.drop a).take 20)) ++ X.drop b) := by show _ = _; rw [hL2]; simp
      clear hS2 hL2 HC1
      go_wp2
      have hb := HB.out
      have hl : ((X.drop a).take 20).length = 20 := by rw [List.length_take, List.length_drop, HXL.out]; omega
      refine ⟨⟨b, b + 20, P1 ++ ss (ltOf cf) ((X.drop a).take 20), d2, rfl, by go_num, rfl, hlt, ?_, S2, HL2.out, by rw [List.length_append, ss_len, hl, HK.out.2.1]; omega, ?_⟩, by simp only [intOf]; omega⟩
      · refine HSZ.out _ _ HL2.out ?_
        rw [List.length_append, List.length_append, ss_len, hl, HK.out.2.1, List.length_drop, HXL.out]
        omega
      · rw [← HK.out.2.2, List.append_assoc, hb, ← List.drop_drop]
        congr 1
        exact (sb_step (by rw [List.length_drop, HXL.out]; omega) (by decide)).symm
    · have hz : ¬ (b : Int) ≤ (n : Int) := by omega
      have HC1 := mkA (HIN.out a n dk wr P1 (X.drop a) [] hds S1.out (by rw [HK.out.1]; simp) HK.out.2.1 (by rw [List.length_drop, HXL.out]; omega))
      clear S1
      go_wp2_with fail
      refine HC1.out.mono ?_
      rintro e w2 ⟨rfl, d2, hS2, hL2⟩
      have S2 : Aside (SW enc w0 blk off d2 w2) := hS2
      have HL2 : Aside (d2.toList = sb (ltOf cf) 20 X) := by
        show _ = _
        rw [hL2, ← HK.out.2.2, sb_few (by have := HB.out; rw [List.length_drop, HXL.out]; omega)]
        simp
      clear hS2 hL2 HC1 HK HB hds
      go_wp2_with fail
      clear hz hlt
      go_loopw [6] (fun vk wk => ∃ (k : Nat) (dk : Array α), vk = .int .i64 (k : Int) ∧ 0 < k ∧ k ≤ 2 * n + 40 ∧ Aside (SW enc w0 blk off dk wk) ∧ Aside (dk.toList = sb (ltOf cf) k X)) (fun vk _ => n - (intOf vk).toNat)
      case atStart => exact ⟨20, d2, rfl, by decide, by omega, S2, HL2⟩
      case round =>
        clear S2 HL2
        obtain ⟨k, dj, rfl, hk0, hk2, S3, HJ⟩ := hrel
        by_cases hkn : k < n
        · have hz3 : (k : Int) < (n : Int) := by omega
          obtain ⟨k2, hk2e⟩ : ∃ q, q = k + k := ⟨_, rfl⟩
          have rk2 : IntKind.i64.wrap (2 * (k : Int)) = (k2 : Int) := by rw [IntKind.wrap_i64]; omega
          have rk3 : IntKind.i64.wrap ((k : Int) * 2) = (k2 : Int) := by rw [IntKind.wrap_i64]; omega
          have HK2 : Aside (k2 = k + k) := hk2e
          have HJS : Aside (dj.size = n) := HSZ.out _ _ HJ.out (by rw [sb_len _ X (Nat.le_refl _), HXL.out])
          clear hk2e
          go_wp2_with fail
          go_loopw [7, 8] (fun va vb wr => ∃ (a b : Nat) (P1 : List α) (dk : Array α), va = .int .i64 (a : Int) ∧ vb = .int .i64 (b : Int) ∧ Aside (b = a + k2) ∧ a ≤ n ∧ Aside (dk.size = n) ∧ Aside (SW enc w0 blk off dk wr) ∧ Aside (dk.toList = P1 ++ sb (ltOf cf) k (X.drop a) ∧ P1.length = a ∧ P1 ++ sb (ltOf cf) k2 (X.drop a) = sb (ltOf cf) k2 X)) (fun va _ _ => n - (intOf va).toNat)
          case atStart => exact ⟨0, k2, [], dj, rfl, rfl, by show _ = _; omega, Nat.zero_le _, HJS, S3, by rw [HJ.out]; rfl, rfl, rfl⟩
          case round =>
            clear S3 HJ HJS
            obtain ⟨a, b, P1, dk, rfl, rfl, HB, han, HDS, S4, HK⟩ := hrel
            obtain ⟨m, hm⟩ : ∃ m, m = a + k := ⟨_, rfl⟩
            have rm : IntKind.i64.wrap ((a : Int) + (k : Int)) = (m : Int) := by rw [IntKind.wrap_i64]; omega
            have HM : Aside (m = a + k) := hm
            clear hm
            by_cases hlt : b ≤ n
            · have hz : (b : Int) ≤ (n : Int) := by omega
              have HT := mkA (sb_two ho (k := k) (X := X.drop a) (by have := HB.out; have := HK2.out; rw [List.length_drop, HXL.out]; omega) hk0)
              have HDR : Aside ((X.drop a).drop (k + k) = X.drop b) := by
                show _ = _
                have := HB.out
                have := HK2.out
                rw [List.drop_drop]
                congr 1
                omega
              have hA : ((X.drop a).take k).length = k := by have := HB.out; have := HK2.out; rw [List.length_take, List.length_drop, HXL.out]; omega
              have hBl : (((X.drop a).drop k).take k).length = k := by have := HB.out; have := HK2.out; rw [List.length_take, List.length_drop, List.length_drop, HXL.out]; omega
              have HC1 := mkA (HSY.out (b - a + 1) a m b dk wr P1 (ss (ltOf cf) ((X.drop a).take k)) (ss (ltOf cf) (((X.drop a).drop k).take k)) (sb (ltOf cf) k ((X.drop a).drop (k + k))) (by omega) HDS.out S4.out (by rw [HK.out.1, HT.out.1]) HK.out.2.1 (by have := HM.out; rw [ss_len, hA]; omega) (by have := HM.out; have := HB.out; have := HK2.out; rw [ss_len, hBl]; omega) (by have := HM.out; omega) (by have := HM.out; have := HB.out; have := HK2.out; omega) (ss_up _ ho _) (ss_up _ ho _))
              obtain ⟨b2, hb2⟩ : ∃ q, q = b + k2 := ⟨_, rfl⟩
              have rb : IntKind.i64.wrap ((b : Int) + (k2 : Int)) = (b2 : Int) := by have := HK2.out; rw [IntKind.wrap_i64]; omega
              have HB2 : Aside (b2 = b + k2) := hb2
              have HAB : Aside (((X.drop a).take k).length = k ∧ (((X.drop a).drop k).take k).length = k) := ⟨hA, hBl⟩
              clear S4 hA hBl hb2
              go_wp2_with fail
              refine HC1.out.mono ?_
              rintro e w3 ⟨rfl, d3, hS3, hL3⟩
              have S5 : Aside (SW enc w0 blk off d3 w3) := hS3
              have HL3 : Aside (d3.toList = (P1 ++ mg (ltOf cf) (ss (ltOf cf) ((X.drop a).take k)) (ss (ltOf cf) (((X.drop a).drop k).take k))) ++ sb (ltOf cf) k (X.drop b)) := by
                show _ = _
                rw [hL3, HDR.out]
                simp
              have HML : Aside ((mg (ltOf cf) (ss (ltOf cf) ((X.drop a).take k)) (ss (ltOf cf) (((X.drop a).drop k).take k))).length = k2) := by
                show _ = _
                rw [(mg_perm _ _ _).length_eq, List.length_append, ss_len, ss_len, HAB.out.1, HAB.out.2]
                exact HK2.out.symm
              clear hS3 hL3 HC1
              go_wp2
              have hb := HB.out
              refine ⟨⟨b, b2, _, d3, rfl, rfl, HB2, hlt, ?_, S5, HL3.out, by rw [List.length_append, HML.out, HK.out.2.1]; omega, ?_⟩, by have := HK2.out; simp only [intOf]; omega⟩
              · refine HSZ.out _ _ HL3.out ?_
                rw [List.length_append, List.length_append, HML.out, HK.out.2.1, sb_len _ _ (Nat.le_refl _), List.length_drop, HXL.out]
                omega
              · rw [← HK.out.2.2, List.append_assoc]
                congr 1
                rw [HK2.out, HT.out.2, HDR.out]
            · have hz : ¬ (b : Int) ≤ (n : Int) := by omega
              by_cases hmn : m < n
              · have hz4 : (m : Int) < (n : Int) := by omega
                have HT := mkA (sb_tail ho (k := k) (X := X.drop a) (by have := HM.out; rw [List.length_drop, HXL.out]; omega) (by have := HB.out; have := HK2.out; rw [List.length_drop, HXL.out]; omega) hk0)
                have HC1 := mkA (HSY.out (n - a + 1) a m n dk wr P1 (ss (ltOf cf) ((X.drop a).take k)) (ss (ltOf cf) ((X.drop a).drop k)) [] (by omega) HDS.out S4.out (by rw [HK.out.1, HT.out.1]; simp) HK.out.2.1 (by have := HM.out; rw [ss_len, List.length_take, List.length_drop, HXL.out]; omega) (by have := HM.out; rw [ss_len, List.length_drop, List.length_drop, HXL.out]; omega) (by have := HM.out; omega) hmn (ss_up _ ho _) (ss_up _ ho _))
                clear S4
                go_wp2_with fail
                refine HC1.out.mono ?_
                rintro e w3 ⟨rfl, d3, hS3, hL3⟩
                have S5 : Aside (SW enc w0 blk off d3 w3) := hS3
                have HL3 : Aside (d3.toList = sb (ltOf cf) k2 X) := by
                  show _ = _
                  rw [hL3, ← HK.out.2.2, HK2.out, HT.out.2]
                  simp
                clear hS3 hL3 HC1
                go_wp2
                exact ⟨⟨k2, d3, rfl, by have := HK2.out; omega, by have := HK2.out; omega, S5, HL3⟩, by have := HK2.out; simp only [intOf]; omega⟩
              · have hz4 : ¬ (m : Int) < (n : Int) := by omega
                have HL3 : Aside (dk.toList = sb (ltOf cf) k2 X) := by
                  show _ = _
                  rw [HK.out.1, ← HK.out.2.2, sb_few (by have := HM.out; rw [List.length_drop, HXL.out]; omega), sb_few (by have := HM.out; have := HK2.out; rw [List.length_drop, HXL.out]; omega)]
                go_wp2
                exact ⟨⟨k2, dk, rfl, by have := HK2.out; omega, by have := HK2.out; omega, S4, HL3⟩, by have := HK2.out; simp only [intOf]; omega⟩
        · have hz3 : ¬ (k : Int) < (n : Int) := by omega
          go_wp2
          go_end0
          exact ⟨rfl, dj, S3.out, by rw [HJ.out, sb_few (by rw [HXL.out]; omega)]⟩
/-- Rows come to stand in order. -/
theorem sortStable_s (enc : α → Value) (cf : α → α → Int) (gf : Nat) (cb : Array Value) (blk off cap n : Nat) (d : Array α) (w : World)
    (eg : ∀ args w, (callFunc gf args).run Tryz.prog w = .ok (.enter gf args) w) (hcmp : CmpLays1 Tryz.prog gf cb enc cf blk off n w) (hR : Row1 enc w blk off d) (hdn : d.size = n) (ho : Ord (ltOf cf)) (hsz : n < 1000000) :
    Calls Tryz.prog 43 #[.slice (some ⟨blk, off, none⟩) n cap, .func (.func gf) #[] cb] w fun e w' => e = .returned (.tuple #[]) ∧ ∃ d', SW enc w blk off d' w' ∧ d'.toList = ss (ltOf cf) d.toList := by
  have H := mkA (stable_s enc cf gf cb blk off cap n d d w w eg (by rw [hdn]; exact hcmp) hR hdn hdn (SW.start hR.hH) ho hsz)
  clear hcmp hR
  go_enter Tryz.func43, Tryz.ntmps43
  go_wp2_with fail
  refine H.out.mono ?_
  rintro e w2 ⟨rfl, d2, hS2, hL2⟩
  go_wp2
  go_end0
  exact ⟨rfl, d2, hS2, hL2⟩
end Go.Proofs.YtlnkbhbpkmnkaaaGreatDoor.Stb
namespace Go.Proofs.YtlnkbhbpkmnkaaaGreatDoor.F
open Go.RowKit Go.Proofs Go.Shelf Go.Joins
open Go.Proofs.YtlnkbhbpkmnkaaaGreatDoor.Stb (ss mg Ord)

/-- The function that tells how two rows stand, whose order lies in a box. -/
def stF (g : Nat) : Value := .func (.func 82) #[] #[.pointer (some ⟨g, 0, none⟩)]
/-- Its order lies there. -/
def StAt (w : World) (g : Nat) (os : List (Nat × Bool)) : Prop := ∃ ov, OrdAt w ov os ∧ w.cell? ⟨g, 0, none⟩ = some ov
theorem StAt.up {w W : World} {g : Nat} {os : List (Nat × Bool)} (h : StAt w g os) (hb : Below w.heap.size w W) : StAt W g os := by
  obtain ⟨ov, h1, h2⟩ := h
  exact ⟨ov, h1.up hb, (hb.cell (p := ⟨g, 0, none⟩) (block_lt_of_cell h2)).trans h2⟩
theorem StAt.lt {w : World} {g : Nat} {os : List (Nat × Bool)} (h : StAt w g os) : g < w.heap.size := by
  obtain ⟨ov, _, h2⟩ := h
  exact block_lt_of_cell h2
set_option maxHeartbeats 4000000 in
theorem standing_any (ov : Value) (os : List (Nat × Bool)) (w : World) (ho : OrdAt w ov os) :
    Calls Tryz.prog 44 #[ov] w fun e w' => ∃ g, e = .returned (stF g) ∧ w.heap.size ≤ g ∧ StAt w' g os ∧ Below w.heap.size w w' := by
  have HO := mkH ho
  obtain ⟨oa, oc, rfl, _, _⟩ := ho
  go_enter Tryz.func44, Tryz.ntmps44
  go_wp2
  go_ret
  refine ⟨_, rfl, Nat.le_refl _, ⟨_, HO.out.up ((Below.refl _ _).alloc (Nat.le_refl _) _), ?_⟩, (Below.refl _ _).alloc (Nat.le_refl _) _⟩
  exact cell_of_block (heap_alloc_new _ _) 0
section
variable {α : Type} [Inhabited α] {enc : α → Value}
theorem sort_box {w : World} {blk off m : Nat} {dk : Array α} {os : Array Obj} {a : Addr} {u : Value} (hb : a.block < w.heap.size) (hn : a.block ≠ blk) (hc : w.cell? a = some u) : (sortWorld enc w blk off m dk os).cell? a = some u := by
  unfold sortWorld
  rw [Go.Sort.cell?_grow _ _ _ (by simpa using hb), Go.Sort.cell?_putRow_other]
  · exact hc
  · exact .inl hn
theorem sort_size {w : World} {blk off m : Nat} {dk : Array α} {os : Array Obj} : w.heap.size ≤ (sortWorld enc w blk off m dk os).heap.size := by
  unfold sortWorld
  rw [Go.Sort.size_grow]
  have : (Go.Sort.putRow enc (Go.Sort.ahead w m) blk off dk).heap.size = w.heap.size := by simp
  omega
theorem sort_ord {w : World} {blk off m : Nat} {d dk : Array α} {os : Array Obj} (hs : dk.size = d.size) (hH : Go.Sort.Holds enc w blk off d) (henc : ∀ x, ∃ a n c, enc x = .slice a n c) {v : Value} {os' : List (Nat × Bool)} (h : OrdAt w v os') : OrdAt (sortWorld enc w blk off m dk os) v os' := by
  obtain ⟨a, c, e, hc, hl⟩ := h
  refine ⟨a, c, e, hc, fun hne => ?_⟩
  obtain ⟨b, o, ea, hb, hcell⟩ := hl hne
  refine ⟨b, o, ea, Nat.lt_of_lt_of_le hb sort_size, fun j x hj => ?_⟩
  obtain ⟨h0, h1⟩ := hcell j x hj
  exact ⟨sort_cell hs hH henc hb rfl h0 (fun _ _ _ => by simp), sort_cell hs hH henc hb rfl h1 (fun _ _ _ => by simp)⟩
end
/-- Which of two rows is ahead in an order. -/
def ltB (os : List (Nat × Bool)) (a b : List V) : Bool := decide (stC os a b < 0)
theorem ordB (os : List (Nat × Bool)) : Ord (ltB os) where
  asym x y h := by
    have := stC_swap os x y
    simp only [ltB, decide_eq_true_eq, decide_eq_false_iff_not] at *
    omega
  trans x y z h1 h2 := by
    have s1 := stC_swap os x y
    have s2 := stC_swap os y z
    have s3 := stC_swap os x z
    have t := stC_trans os x y z
    simp only [ltB, decide_eq_false_iff_not] at *
    omega
theorem mg_map {α β : Type} (f : α → β) (lt : α → α → Bool) (lu : β → β → Bool) (h : ∀ x y, lt x y = lu (f x) (f y)) : ∀ (A B : List α), (mg lt A B).map f = mg lu (A.map f) (B.map f)
  | [], B => by simp [mg]
  | a :: A, [] => by simp [mg]
  | a :: A, b :: B => by
    have ih1 := mg_map f lt lu h (a :: A) B
    have ih2 := mg_map f lt lu h A (b :: B)
    simp only [List.map_cons] at ih1 ih2 ⊢
    rw [Stb.mg_cc, Stb.mg_cc, ← h]
    split <;> simp [ih1, ih2]
termination_by A B => A.length + B.length
theorem ss_map {α β : Type} (f : α → β) (lt : α → α → Bool) (lu : β → β → Bool) (h : ∀ x y, lt x y = lu (f x) (f y)) : ∀ (A : List α), (ss lt A).map f = ss lu (A.map f)
  | [] => rfl
  | a :: A => by
    simp only [ss, List.map_cons]
    rw [mg_map f lt lu h, ss_map f lt lu h A]
    rfl
set_option maxHeartbeats 4000000 in
theorem sortB_any (g c gb : Nat) (os : List (Nat × Bool)) (vs : List Value) (rows : List (List V)) (w : World) (hv : vs.length = rows.length) (h : w.ownsRow g 35 1 (.slice (some ⟨g, 0, none⟩) rows.length c) rows.length vs) (he : ∀ (j : Nat) x r, vs[j]? = some x → rows[j]? = some r → E.Sl w x r) (hl : rows.length < 1000000) (hc : rows.length ≤ c)
    (ho : StAt w gb os) (hgb : gb ≠ g) (hp : ∀ x ∈ os, x.1 ≤ 1000000) (hol : os.length ≤ 1000) :
    Calls Tryz.prog 43 #[.slice (some ⟨g, 0, none⟩) rows.length c, stF gb] w fun e w' => e = .returned (.tuple #[]) ∧ SlR w' (.slice (some ⟨g, 0, none⟩) rows.length c) (ss (ltB os) rows) ∧ Below g w w' ∧ StAt w' gb os := by
  obtain ⟨ov, ho, hbx⟩ := ho
  obtain ⟨dl, hd1, hd2⟩ := paired (P := fun x r => E.Sl w x r) vs rows hv he
  have hdl : dl.length = rows.length := by rw [← hd2, List.length_map]
  let α : Type := {p : Value × List V // E.Sl w p.1 p.2}
  letI : Inhabited α := ⟨⟨(.slice none 0 0, []), ⟨none, 0, rfl, by simp, fun h => absurd rfl h⟩⟩⟩
  let enc : α → Value := fun p => p.1.1
  let cf : α → α → Int := fun x y => stC os x.1.2 y.1.2
  have henc : ∀ x : α, ∃ a n c, enc x = .slice a n c := fun x => by obtain ⟨a, c, e, _⟩ := x.2; exact ⟨a, _, c, e⟩
  have hone : OneCell enc := fun x => by obtain ⟨a, n, c, e⟩ := henc x; rw [e]; rfl
  let d : Array α := dl.toArray
  have hds : d.size = rows.length := by simp [d, hdl]
  have hblk : g < w.heap.size ∧ ∃ cur, w.heap[g]? = some (.cells cur 35 (0, 0)) := by
    rcases h.2 with ⟨e, _⟩ | ⟨g', cap, cur, e, _, hh, _⟩
    · cases e
    · injection e with e1 _ _
      injection e1 with e1
      injection e1 with e1 _ _
      subst e1
      exact ⟨E.blk_lt hh, cur, hh⟩
  have hH : Go.Sort.Holds enc w g 0 d := fun j hj => by
    constructor
    · have hj' : j < rows.length * 1 := by omega
      rw [Nat.zero_add, h.cellAt j hj', ← hd1, List.getElem?_map, List.getElem?_eq_getElem (by omega)]
      simp [d, enc, getElem!_pos, hdl, show j < rows.length by omega]
    · obtain ⟨_, cur, hh⟩ := hblk
      simp [World.frozen?, hh]
  have hgw : gb < w.heap.size := block_lt_of_cell hbx
  have hcmp : CmpLays1 Tryz.prog 82 #[.pointer (some ⟨gb, 0, none⟩)] enc cf g 0 rows.length w := fun m os' dk hs x y => by
    have h1 := sort_sl (m := m) (os := os') (hs.trans hds.symm) hH henc x.2
    have h2 := sort_sl (m := m) (os := os') (hs.trans hds.symm) hH henc y.2
    exact (standing1 gb (enc x) (enc y) ov os x.1.2 y.1.2 _ h1 h2 (sort_ord (hs.trans hds.symm) hH henc ho) (sort_box hgw hgb hbx) hp hol)
  have hS := Stb.sortStable_s enc cf 82 #[.pointer (some ⟨gb, 0, none⟩)] g 0 c rows.length d w (enters_of Tryz.func82 (by kernel_rfl) rfl) hcmp ⟨hone, hH, hblk.1⟩ hds ⟨fun x y => (ordB os).asym x.1.2 y.1.2, fun x y z => (ordB os).trans x.1.2 y.1.2 z.1.2⟩ hl
  refine hS.mono ?_
  rintro e w' ⟨rfl, d', ⟨n, os', rfl⟩, hss⟩
  have hlen : d'.toList.length = rows.length := by rw [hss, Stb.ss_len]; exact hdl
  have hd's : d'.size = rows.length := by rw [← Array.length_toList]; exact hlen
  have hrows : d'.toList.map (·.1.2) = ss (ltB os) rows := by
    rw [hss]
    exact (ss_map (fun p : α => p.1.2) (ltOf cf) (ltB os) (fun x y => rfl) d.toList).trans (congrArg _ hd2)
  have hsl : (ss (ltB os) rows).length = rows.length := Stb.ss_len _ _
  refine ⟨rfl, ⟨d'.toList.map (·.1.1), ⟨_, c, by simp [hd's], by simp [hd's]; exact hc, fun _ => ⟨g, 0, rfl, ?_, fun j x hj i u hu => ?_⟩⟩, by simp [hsl, hd's], fun j x r hx hr => ?_⟩, sort_below (Nat.le_refl _) (Nat.le_of_lt hblk.1), ov, sort_ord (hd's.trans hds.symm) hH henc ho, sort_box hgw hgb hbx⟩
  · exact Nat.lt_of_lt_of_le hblk.1 (sort_below (B := g) (Nat.le_refl _) (Nat.le_of_lt hblk.1)).size
  · cases i with
    | succ i => simp [encR] at hu
    | zero =>
      simp [encR] at hu
      subst hu
      have hj' : j < d'.size := by have := lt_of_some hj; simpa using this
      rw [List.getElem?_map, List.getElem?_eq_getElem (by simpa using hj')] at hj
      simp at hj
      subst hj
      rw [Nat.mul_one, Nat.add_zero]
      unfold sortWorld
      rw [Go.Sort.cell?_grow _ _ _ (by simpa using hblk.1), Go.Sort.cell?_putRow enc _ g 0 d d' (Go.Sort.holds_ahead enc w n g 0 d hH) (by omega) j hj', getElem!_pos d' j hj']
  · rw [← hrows, List.getElem?_map] at hr
    rw [List.getElem?_map] at hx
    cases hz : d'.toList[j]? with
    | none => rw [hz] at hx; cases hx
    | some z =>
      rw [hz] at hx hr
      simp at hx hr
      subst hx hr
      exact sort_sl (by omega) hH henc z.2
end Go.Proofs.YtlnkbhbpkmnkaaaGreatDoor.F
namespace Go.Proofs.YtlnkbhbpkmnkaaaGreatDoor.F
open Go.RowKit Go.Proofs Go.Shelf Go.Joins
open Go.Proofs.YtlnkbhbpkmnkaaaGreatDoor.Stb (ss mg Ord Up)

/-- What may come of a column. -/
inductive Fn where
  | no | count | max | min | sum
deriving DecidableEq
def fnB : Fn → ByteArray
  | .no => ⟨#[]⟩
  | .count => ⟨#[99, 111, 117, 110, 116]⟩
  | .max => ⟨#[109, 97, 120]⟩
  | .min => ⟨#[109, 105, 110]⟩
  | .sum => ⟨#[115, 117, 109]⟩
def numV (n : Int) : V := (1, n, ⟨#[]⟩)
/-- A sum, as 64 bits hold it. -/
def sumF (l : List V) : Int := l.foldl (fun n v => IntKind.i64.wrap (n + v.2.1)) 0
def isum (l : List V) : Int := (l.map (·.2.1)).sum
/-- How many are something. -/
def somes (l : List V) : Int := (l.length : Int) - (S.nulls l : Int)
def comesV : Fn → List V → V
  | .no, _ => zW
  | .count, l => numV ((S.stOf l).1 - (S.stOf l).2.1)
  | .max, l => (S.stOf l).2.2.2
  | .min, l => (S.stOf l).2.2.1
  | .sum, l => if 0 < (S.stOf l).1 - (S.stOf l).2.1 then numV (sumF l) else zW
/-- What comes of an item, of the rows of a part. -/
def ofI (part : List (List V)) : Fn × Int → V
  | (.no, p) => atV (part.headD []) p.toNat
  | (f, p) => if p < 0 then numV part.length else comesV f (part.map fun r => atV r p.toNat)
def toldQ (ps : List (Fn × Int)) (parts : List (List (List V))) : List (List V) := parts.map fun g => ps.map (ofI g)
/-- Rows, cut where two that stand together are not the same. -/
def cutA (f : List V → List V → Int) : List (List V) → List (List V) → List (List (List V))
  | _, [] => []
  | acc, [x] => [acc ++ [x]]
  | acc, x :: y :: l => if f x y = 0 then cutA f (acc ++ [x]) (y :: l) else (acc ++ [x]) :: cutA f [] (y :: l)
theorem cutA_flat (f : List V → List V → Int) : ∀ (l acc : List (List V)), l ≠ [] → (cutA f acc l).flatten = acc ++ l
  | [], _, h => absurd rfl h
  | [x], acc, _ => by simp [cutA]
  | x :: y :: l, acc, _ => by
    unfold cutA
    split
    · rw [cutA_flat f (y :: l) (acc ++ [x]) (by simp)]; simp
    · rw [List.flatten_cons, cutA_flat f (y :: l) [] (by simp)]; simp
theorem cut_flat (f : List V → List V → Int) (l : List (List V)) : (cutA f [] l).flatten = l := by
  cases l with
  | nil => rfl
  | cons x l => rw [cutA_flat f (x :: l) [] (by simp)]; rfl
theorem cutA_ne (f : List V → List V → Int) : ∀ (l acc : List (List V)), ∀ g ∈ cutA f acc l, g ≠ []
  | [], _, g, h => by simp [cutA] at h
  | [x], acc, g, h => by simp [cutA] at h; subst h; simp
  | x :: y :: l, acc, g, h => by
    unfold cutA at h
    split at h
    · exact cutA_ne f (y :: l) (acc ++ [x]) g h
    · rcases List.mem_cons.1 h with rfl | h
      · simp
      · exact cutA_ne f (y :: l) [] g h
/-- What stands ahead of a cut is less than what stands behind it. -/
theorem cutA_up (f : List V → List V → Int) (lt le : List V → List V → Prop)
    (h1 : ∀ x y, le x y → ¬ f x y = 0 → lt x y) (h2 : ∀ x y z, le x y → lt y z → lt x z) (h3 : ∀ x y z, lt x y → le y z → lt x z) :
    ∀ (l acc : List (List V)), (acc ++ l).Pairwise le → (cutA f acc l).Pairwise fun g g' => ∀ x ∈ g, ∀ y ∈ g', lt x y
  | [], _, _ => by simp [cutA]
  | [x], acc, _ => by simp [cutA]
  | x :: y :: l, acc, h => by
    unfold cutA
    split
    · exact cutA_up f lt le h1 h2 h3 (y :: l) (acc ++ [x]) (by simpa using h)
    · rename_i hne
      have hp := List.pairwise_append.1 h
      have hx := List.pairwise_cons.1 hp.2.1
      refine List.pairwise_cons.2 ⟨fun g' hg' a ha b hb => ?_, cutA_up f lt le h1 h2 h3 (y :: l) [] (by simpa using hx.2)⟩
      have hb' : b ∈ y :: l := by
        have : b ∈ (cutA f [] (y :: l)).flatten := List.mem_flatten.2 ⟨g', hg', hb⟩
        rwa [cut_flat] at this
      have hxy : lt x y := h1 x y (hx.1 y (List.mem_cons_self ..)) hne
      have hxb : lt x b := by
        rcases List.mem_cons.1 hb' with rfl | hbl
        · exact hxy
        · exact h3 x y b hxy ((List.pairwise_cons.1 hx.2).1 b hbl)
      rcases List.mem_append.1 ha with ha | ha
      · exact h2 a x b (hp.2.2 a ha x (List.mem_cons_self ..)) hxb
      · simp at ha; subst ha; exact hxb
/-- The least of the least is the least. -/
theorem parts_min {Ls : List (List V)} {all : List V} (hm : ∀ x, x ∈ all ↔ ∃ l ∈ Ls, x ∈ l) (mn : List V → V) (h : ∀ l ∈ Ls, S.IsMin l (mn l)) {m : V} (ha : S.IsMin all m) : S.IsMin (Ls.map mn) m := by
  rcases ha with ⟨rfl, hz⟩ | ⟨h1, h2, h3⟩
  · refine .inl ⟨rfl, fun x hx => ?_⟩
    obtain ⟨l, hl, rfl⟩ := List.mem_map.1 hx
    rcases h l hl with ⟨e, _⟩ | ⟨_, e, _⟩
    · rw [e]; rfl
    · exact hz _ ((hm _).2 ⟨l, hl, e⟩)
  · refine .inr ⟨h1, ?_, fun x hx hk => ?_⟩
    · obtain ⟨l, hl, hx⟩ := (hm m).1 h2
      rcases h l hl with ⟨_, e⟩ | ⟨e1, e2, e3⟩
      · exact absurd (e m hx) h1
      · have a1 := e3 m hx h1
        have a2 := h3 _ ((hm _).2 ⟨l, hl, e2⟩) e1
        rw [S.cmpW_anti a2 a1]
        exact List.mem_map_of_mem hl
    · obtain ⟨l, hl, rfl⟩ := List.mem_map.1 hx
      rcases h l hl with ⟨e, _⟩ | ⟨_, e, _⟩
      · rw [e] at hk; exact absurd rfl hk
      · exact h3 _ ((hm _).2 ⟨l, hl, e⟩) hk
theorem parts_max {Ls : List (List V)} {all : List V} (hm : ∀ x, x ∈ all ↔ ∃ l ∈ Ls, x ∈ l) (mn : List V → V) (h : ∀ l ∈ Ls, S.IsMax l (mn l)) {m : V} (ha : S.IsMax all m) : S.IsMax (Ls.map mn) m := by
  rcases ha with ⟨rfl, hz⟩ | ⟨h1, h2, h3⟩
  · refine .inl ⟨rfl, fun x hx => ?_⟩
    obtain ⟨l, hl, rfl⟩ := List.mem_map.1 hx
    rcases h l hl with ⟨e, _⟩ | ⟨_, e, _⟩
    · rw [e]; rfl
    · exact hz _ ((hm _).2 ⟨l, hl, e⟩)
  · refine .inr ⟨h1, ?_, fun x hx hk => ?_⟩
    · obtain ⟨l, hl, hx⟩ := (hm m).1 h2
      rcases h l hl with ⟨_, e⟩ | ⟨e1, e2, e3⟩
      · exact absurd (e m hx) h1
      · have a1 := e3 m hx h1
        have a2 := h3 _ ((hm _).2 ⟨l, hl, e2⟩) e1
        rw [S.cmpW_anti a1 a2]
        exact List.mem_map_of_mem hl
    · obtain ⟨l, hl, rfl⟩ := List.mem_map.1 hx
      rcases h l hl with ⟨e, _⟩ | ⟨_, e, _⟩
      · rw [e] at hk; exact absurd rfl hk
      · exact h3 _ ((hm _).2 ⟨l, hl, e⟩) hk
theorem nulls_perm {l l' : List V} (h : l.Perm l') : S.nulls l = S.nulls l' := h.countP_eq _
theorem somes_perm {l l' : List V} (h : l.Perm l') : somes l = somes l' := by unfold somes; rw [nulls_perm h, h.length_eq]
theorem isum_perm {l l' : List V} (h : l.Perm l') : isum l = isum l' := by
  induction h with
  | nil => rfl
  | cons x _ ih => unfold isum at ih ⊢; simp [ih]
  | swap x y l => unfold isum; simp only [List.map_cons, List.sum_cons]; omega
  | trans _ _ ih1 ih2 => rw [ih1, ih2]
theorem isum_append (a b : List V) : isum (a ++ b) = isum a + isum b := by unfold isum; simp
theorem somes_append (a b : List V) : somes (a ++ b) = somes a + somes b := by
  unfold somes S.nulls
  rw [List.length_append, List.countP_append]
  omega
theorem isum_flat : ∀ Ls : List (List V), isum Ls.flatten = (Ls.map isum).sum
  | [] => rfl
  | l :: Ls => by rw [List.flatten_cons, isum_append, isum_flat Ls]; simp
theorem somes_flat : ∀ Ls : List (List V), somes Ls.flatten = (Ls.map somes).sum
  | [] => rfl
  | l :: Ls => by rw [List.flatten_cons, somes_append, somes_flat Ls]; simp
theorem somes_le (l : List V) : 0 ≤ somes l ∧ somes l ≤ l.length := by
  have := S.nulls_le l
  unfold somes
  omega
theorem wrap_add (a b : Int) : IntKind.i64.wrap (IntKind.i64.wrap a + b) = IntKind.i64.wrap (a + b) := by
  simp only [IntKind.wrap_i64]; omega
theorem wrap_add' (a b : Int) : IntKind.i64.wrap (a + IntKind.i64.wrap b) = IntKind.i64.wrap (a + b) := by
  simp only [IntKind.wrap_i64]; omega
theorem wrap_wrap (a : Int) : IntKind.i64.wrap (IntKind.i64.wrap a) = IntKind.i64.wrap a := by
  simp only [IntKind.wrap_i64]; omega
theorem sum_from : ∀ (l : List V) (n : Int), l.foldl (fun n v => IntKind.i64.wrap (n + v.2.1)) (IntKind.i64.wrap n) = IntKind.i64.wrap (n + isum l)
  | [], n => by simp [isum]
  | v :: l, n => by
    rw [List.foldl_cons, wrap_add, sum_from l]
    unfold isum
    simp only [List.map_cons, List.sum_cons]
    congr 1
    omega
theorem sumF_eq (l : List V) : sumF l = IntKind.i64.wrap (isum l) := by
  have := sum_from l 0
  rw [show IntKind.i64.wrap (0 : Int) = 0 from rfl, Int.zero_add] at this
  exact this
theorem isum_null {l : List V} (h : ∀ x ∈ l, x.1 = 0) (hz : ∀ x ∈ l, x.1 = 0 → x.2.1 = 0) : isum l = 0 := by
  unfold isum
  induction l with
  | nil => rfl
  | cons a l ih =>
    rw [List.map_cons, List.sum_cons, ih (fun x hx => h x (List.mem_cons_of_mem _ hx)) (fun x hx => hz x (List.mem_cons_of_mem _ hx)), hz a (List.mem_cons_self ..) (h a (List.mem_cons_self ..))]
    rfl
theorem nulls_all : ∀ {l : List V}, S.nulls l = l.length → ∀ x ∈ l, x.1 = 0
  | l, h, x, hx => by
    have := (List.countP_eq_length (p := fun x : V => x.1 == 0) (l := l)).1 h x hx
    simpa using this
/-- What a sum's number comes to. -/
theorem sum_num {l : List V} (hn : ∀ x ∈ l, 0 ≤ x.1) (hz : ∀ x ∈ l, x.1 = 0 → x.2.1 = 0) : (comesV .sum l).2.1 = IntKind.i64.wrap (isum l) := by
  have hs := S.isSt_of l hn
  show (if 0 < (S.stOf l).1 - (S.stOf l).2.1 then numV (sumF l) else zW).2.1 = _
  split
  · exact sumF_eq l
  · rename_i h
    have h1 := hs.cnt
    have h2 := hs.nul
    rw [isum_null (nulls_all ?_) hz]
    · rfl
    · have := S.nulls_le l
      omega
end Go.Proofs.YtlnkbhbpkmnkaaaGreatDoor.F
namespace Go.Proofs.YtlnkbhbpkmnkaaaGreatDoor
open Go

/-- A column: its number, its name, its kind, whether it must be something, and its default's kind, number and text. -/
abbrev Col := Int × ByteArray × Int × Bool × Int × Int × ByteArray
/-- A column's seven cells. -/
def encC (c : Col) : List Value := [.int .i64 c.1, .string c.2.1, .int .i64 c.2.2.1, .bool c.2.2.2.1, .int .i64 c.2.2.2.2.1, .int .i64 c.2.2.2.2.2.1, .string c.2.2.2.2.2.2]
/-- The cells of columns, one behind the other. -/
def cellsC (l : List Col) : List Value := l.flatMap encC

theorem encC_len (c : Col) : (encC c).length = 7 := rfl
theorem cellsC_len : ∀ l : List Col, (cellsC l).length = l.length * 7
  | [] => rfl
  | c :: l => by simp only [cellsC, List.flatMap_cons, List.length_append, encC_len, List.length_cons]; have := cellsC_len l; simp only [cellsC] at this; omega
theorem cellsC_at : ∀ (l : List Col) (j i : Nat), j < l.length → i < 7 → (cellsC l)[j * 7 + i]? = (encC l[j]!)[i]?
  | [], j, i, h, _ => absurd h (Nat.not_lt_zero _)
  | c :: l, 0, i, _, hi => by
    simp only [cellsC, List.flatMap_cons]
    rw [List.getElem?_append_left (by rw [encC_len]; omega)]
    simp
  | c :: l, j + 1, i, h, hi => by
    have ih := cellsC_at l j i (by simpa using h) hi
    simp only [cellsC, List.flatMap_cons] at ih ⊢
    rw [List.getElem?_append_right (by rw [encC_len]; omega), encC_len, show (j + 1) * 7 + i - 7 = j * 7 + i by omega, ih]
    simp
theorem cellsC_one (l : List Col) : ∀ u ∈ cellsC l, u.oneCell' = true := by
  intro u hu
  simp only [cellsC, List.mem_flatMap] at hu
  obtain ⟨c, _, hc⟩ := hu
  simp only [encC, List.mem_cons, List.not_mem_nil, or_false] at hc
  rcases hc with rfl | rfl | rfl | rfl | rfl | rfl | rfl <;> rfl
theorem cellsC_append (a b : List Col) : cellsC (a ++ b) = cellsC a ++ cellsC b := by simp [cellsC]

def mayC (cb : ByteArray → Bool) (fb : Int → Int → Int → ByteArray → Bool) (c : Col) : Prop :=
  (c.2.2.1 = 1 ∨ c.2.2.1 = 2) ∧ 1 ≤ c.1 ∧ cb c.2.1 = true ∧ fb c.2.2.1 c.2.2.2.2.1 c.2.2.2.2.2.1 c.2.2.2.2.2.2 = true
def Apart (a b : Col) : Prop := a.1 ≠ b.1 ∧ a.2.1 ≠ b.2.1
def RightP (cb : ByteArray → Bool) (fb : Int → Int → Int → ByteArray → Bool) (l : List Col) (next : Int) : Prop :=
  1 ≤ l.length ∧ l.length ≤ 8 ∧ (∀ c ∈ l, mayC cb fb c ∧ c.1 < next) ∧ l.Pairwise Apart
def renC (c : Col) (x : ByteArray) : Col := (c.1, x, c.2.2)
def findC (l : List Col) (nm : ByteArray) : Int := Lib.idxBy (fun _ y => y.2.1.toList == nm.toList) l default

theorem toList_inj {a b : ByteArray} (h : a.toList = b.toList) : a = b := by
  rw [ByteArray.toList_eq, ByteArray.toList_eq] at h
  exact ByteArray.ext (Array.toList_inj.mp h)
theorem find_cases (l : List Col) (nm : ByteArray) : (findC l nm = -1 ∧ ∀ j, j < l.length → l[j]!.2.1 ≠ nm) ∨ ∃ k : Nat, k < l.length ∧ findC l nm = k ∧ l[k]!.2.1 = nm := by
  by_cases h : ∃ k, k < l.length ∧ l[k]!.2.1 = nm
  · right
    have hex : ∃ k, k < l.length ∧ l[k]!.2.1 = nm := h
    let P : Nat → Prop := fun k => k < l.length ∧ l[k]!.2.1 = nm
    have key : ∀ n, (∃ k, k < n ∧ P k) → ∃ k, P k ∧ ∀ j, j < k → ¬ P j := by
      intro n
      induction n with
      | zero => rintro ⟨k, hk, _⟩; omega
      | succ n ih =>
        rintro ⟨k, hk, hp⟩
        by_cases hx : ∃ j, j < n ∧ P j
        · exact ih hx
        · refine ⟨k, hp, fun j hj hpj => hx ⟨j, by omega, hpj⟩⟩
    obtain ⟨k0, hk0⟩ := hex
    obtain ⟨k, ⟨hk, hn⟩, hmin⟩ := key (k0 + 1) ⟨k0, by omega, hk0⟩
    refine ⟨k, hk, ?_, hn⟩
    have := Lib.idxBy_hit (fun (_ : Col) (y : Col) => y.2.1.toList == nm.toList) l l.length k default hk (Nat.le_refl _) (by show (l[k]!.2.1.toList == nm.toList) = true; rw [hn]; exact beq_self_eq_true _) (fun j hj => by
      have := hmin j hj
      have : l[j]!.2.1 ≠ nm := fun e => this ⟨by omega, e⟩
      exact beq_eq_false_iff_ne.2 (fun e => this (toList_inj e)))
    rw [List.take_length] at this
    exact this
  · left
    refine ⟨?_, fun j hj e => h ⟨j, hj, e⟩⟩
    have := Lib.idxBy_miss (fun (_ : Col) (y : Col) => y.2.1.toList == nm.toList) l l.length default (fun j hj => beq_eq_false_iff_ne.2 (fun e => h ⟨j, hj, toList_inj e⟩))
    rw [List.take_length] at this
    exact this

theorem mem_of_lt {l : List Col} {j : Nat} (h : j < l.length) : l[j]! ∈ l := by
  rw [getElem!_pos l j h]; exact List.getElem_mem h
theorem apart_at {l : List Col} (h : l.Pairwise Apart) {i j : Nat} (hi : i < l.length) (hj : j < l.length) (hne : i ≠ j) : Apart l[i]! l[j]! := by
  rw [getElem!_pos l i hi, getElem!_pos l j hj]
  rcases Nat.lt_or_gt_of_ne hne with hlt | hlt
  · exact List.pairwise_iff_getElem.1 h i j hi hj hlt
  · have := List.pairwise_iff_getElem.1 h j i hj hi hlt
    exact ⟨fun e => this.1 e.symm, fun e => this.2 e.symm⟩
theorem find_at {cb : ByteArray → Bool} {fb : Int → Int → Int → ByteArray → Bool} {l : List Col} {next : Int} (h : RightP cb fb l next) {k : Nat} (hk : k < l.length) : findC l l[k]!.2.1 = k := by
  rcases find_cases l l[k]!.2.1 with ⟨_, hn⟩ | ⟨j, hj, hf, he⟩
  · exact (hn k hk rfl).elim
  · by_cases e : j = k
    · rw [hf, e]
    · exact ((apart_at h.2.2.2 hj hk e).2 he).elim

theorem right_more {cb : ByteArray → Bool} {fb : Int → Int → Int → ByteArray → Bool} {l : List Col} {next : Int} (h : RightP cb fb l next) (h8 : l.length < 8) {c : Col} (hc : mayC cb fb c) (hid : c.1 = next) (hn : ∀ j, j < l.length → l[j]!.2.1 ≠ c.2.1) : RightP cb fb (l ++ [c]) (next + 1) := by
  obtain ⟨h1, _, h3, h4⟩ := h
  refine ⟨by simp, by simp; omega, ?_, ?_⟩
  · intro x hx
    rcases List.mem_append.1 hx with hx | hx
    · exact ⟨(h3 x hx).1, by have := (h3 x hx).2; omega⟩
    · rw [List.mem_singleton.1 hx]; exact ⟨hc, by omega⟩
  · rw [List.pairwise_append]
    refine ⟨h4, List.pairwise_singleton _ _, ?_⟩
    intro a ha b hb
    rw [List.mem_singleton.1 hb]
    obtain ⟨j, hj, rfl⟩ := List.getElem_of_mem ha
    have := (h3 _ ha).2
    refine ⟨by omega, ?_⟩
    have := hn j hj
    rwa [getElem!_pos l j hj] at this

theorem right_less {cb : ByteArray → Bool} {fb : Int → Int → Int → ByteArray → Bool} {l : List Col} {next : Int} (h : RightP cb fb l next) {k : Nat} (hk : k < l.length) (h1 : l.length ≠ 1) : RightP cb fb (l.take k ++ l.drop (k + 1)) next := by
  obtain ⟨hl, h8, h3, h4⟩ := h
  rw [← List.eraseIdx_eq_take_drop_succ]
  have hlen := List.length_eraseIdx_of_lt hk
  exact ⟨by omega, by omega, fun c hc => h3 c (List.mem_of_mem_eraseIdx hc), h4.sublist (List.eraseIdx_sublist _ _)⟩

theorem getElem!_set {l : List Col} {k j : Nat} {c : Col} (hk : k < l.length) : (l.set k c)[j]! = if j = k then c else l[j]! := by
  by_cases e : j = k
  · subst e; simp [hk]
  · have e' : ¬ k = j := fun x => e x.symm
    simp [List.getElem!_eq_getElem?_getD, e, e']

theorem right_ren {cb : ByteArray → Bool} {fb : Int → Int → Int → ByteArray → Bool} {l : List Col} {next : Int} (h : RightP cb fb l next) {k : Nat} (hk : k < l.length) {tu : ByteArray} (hto : cb tu = true) (hn : ∀ j, j < l.length → l[j]!.2.1 ≠ tu) : RightP cb fb (l.set k (renC l[k]! tu)) next := by
  obtain ⟨hl, h8, h3, h4⟩ := h
  refine ⟨by simpa using hl, by simpa using h8, ?_, ?_⟩
  · intro c hc
    rcases List.mem_or_eq_of_mem_set hc with hc | rfl
    · exact h3 c hc
    · obtain ⟨⟨a1, a2, a3, a4⟩, a5⟩ := h3 _ (mem_of_lt hk)
      exact ⟨⟨a1, a2, hto, a4⟩, a5⟩
  · rw [List.pairwise_iff_getElem]
    intro i j hi hj hij
    have hi' : i < l.length := by simpa using hi
    have hj' : j < l.length := by simpa using hj
    rw [← getElem!_pos (l.set k (renC l[k]! tu)) i, ← getElem!_pos (l.set k (renC l[k]! tu)) j, getElem!_set hk, getElem!_set hk]
    have hap := apart_at h4 hi' hj' (by omega)
    by_cases ei : i = k
    · have ej : ¬ j = k := by omega
      rw [if_pos ei, if_neg ej]
      subst ei
      exact ⟨hap.1, fun e => hn j hj' e.symm⟩
    · rw [if_neg ei]
      by_cases ej : j = k
      · rw [if_pos ej]
        subst ej
        exact ⟨hap.1, fun e => hn i hi' e⟩
      · rw [if_neg ej]; exact hap

theorem ren_back {l : List Col} {k : Nat} (hk : k < l.length) {nm tu : ByteArray} (h : l[k]!.2.1 = nm) : (l.set k (renC l[k]! tu)).set k (renC (l.set k (renC l[k]! tu))[k]! nm) = l := by
  rw [getElem!_set hk, if_pos rfl, List.set_set]
  have : renC (renC l[k]! tu) nm = l[k]! := by rw [← h]; rfl
  rw [this, getElem!_pos l k hk, List.set_getElem_self]
theorem find_ren_to {cb : ByteArray → Bool} {fb : Int → Int → Int → ByteArray → Bool} {l : List Col} {next : Int} (h : RightP cb fb l next) {k : Nat} (hk : k < l.length) {tu : ByteArray} (hto : cb tu = true) (hn : ∀ j, j < l.length → l[j]!.2.1 ≠ tu) : findC (l.set k (renC l[k]! tu)) tu = k := by
  have := find_at (right_ren h hk hto hn) (k := k) (by simpa using hk)
  rwa [getElem!_set hk, if_pos rfl] at this
theorem find_ren_nm {cb : ByteArray → Bool} {fb : Int → Int → Int → ByteArray → Bool} {l : List Col} {next : Int} (h : RightP cb fb l next) {k : Nat} (hk : k < l.length) {nm tu : ByteArray} (hnm : l[k]!.2.1 = nm) (hne : tu ≠ nm) : findC (l.set k (renC l[k]! tu)) nm = -1 := by
  rcases find_cases (l.set k (renC l[k]! tu)) nm with ⟨hf, _⟩ | ⟨j, hj, _, he⟩
  · exact hf
  · rw [List.length_set] at hj
    rw [getElem!_set hk] at he
    by_cases e : j = k
    · rw [if_pos e] at he; exact (hne he).elim
    · rw [if_neg e, ← hnm] at he; exact ((apart_at h.2.2.2 hj hk e).2 he).elim
end Go.Proofs.YtlnkbhbpkmnkaaaGreatDoor
namespace Go.Proofs.YtlnkbhbpkmnkaaaGreatDoor
open Go.RowKit

theorem mkH {p : Prop} (h : p) : Hid p := h
theorem ret_bool {a b : Bool} (h : a = b) : Ending.returned (.bool a) = .returned (.bool b) := by rw [h]
theorem ret_int {k : IntKind} {a b : Int} (h : a = b) : Ending.returned (.int k a) = .returned (.int k b) := by rw [h]
theorem nt {b : Bool} (h : (!b) = true) : b = false := by simpa using h
theorem nf {b : Bool} (h : (!b) = false) : b = true := by simpa using h
theorem Below.ups {a b c : World} (h : Below a.heap.size a b) (k : Below b.heap.size b c) : Below a.heap.size a c := h.trans (k.mono h.size)

def smallB (r : Int) : Bool := decide (97 ≤ r) && decide (r ≤ 122)
def digitB (r : Int) : Bool := decide (48 ≤ r) && decide (r ≤ 57)

set_option maxHeartbeats 400000 in
theorem small_any (r : Int) (w : World) : Calls Tryz.prog 142 #[.int .i32 r] w fun e w' => e = .returned (.bool (smallB r)) ∧ w' = w := by
  by_cases h1 : 97 ≤ r <;> by_cases h2 : r ≤ 122
  all_goals
    have H : Hid (smallB r = (decide (97 ≤ r) && decide (r ≤ 122))) := rfl
    go_enter Tryz.func142, Tryz.ntmps142
    go_wp2
    all_goals
      go_ret
      exact ⟨ret_bool (by rw [H.out]; simp [h1, h2]), rfl⟩

set_option maxHeartbeats 400000 in
theorem digit_any (r : Int) (w : World) : Calls Tryz.prog 145 #[.int .i32 r] w fun e w' => e = .returned (.bool (digitB r)) ∧ w' = w := by
  by_cases h1 : 48 ≤ r <;> by_cases h2 : r ≤ 57
  all_goals
    have H : Hid (digitB r = (decide (48 ≤ r) && decide (r ≤ 57))) := rfl
    go_enter Tryz.func145, Tryz.ntmps145
    go_wp2
    all_goals
      go_ret
      exact ⟨ret_bool (by rw [H.out]; simp [h1, h2]), rfl⟩
end Go.Proofs.YtlnkbhbpkmnkaaaGreatDoor
