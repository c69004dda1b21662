/- What millpondkeep.pick does, and alike of one commit that lies twice; Parse at any text that is not too great. -/
import Derived.Test.YtfppidnfomelpaaGreatDoorRL
import Derived.Test.YtfppidnfomelpaaGreatDoorP8
import Derived.Test.YtfppidnfomelpaaGreatDoorRD
import Derived.Test.YtfppidnfomelpaaGreatDoorRW
namespace Go.Proofs.YtfppidnfomelpaaGreatDoor
open Go.RowKit Go.Proofs Go.Lib Go.Joins

theorem flat_at {α : Type} [Inhabited α] {k : Nat} {en : α → List Value} (hlen : ∀ x, (en x).length = k) : ∀ (l : List α) (j : Nat), j < l.length → ∀ (i : Nat), i < k → (l.flatMap en)[j * k + i]? = (en l[j]!)[i]?
  | [], j, hj, _, _ => by cases hj
  | x :: l, 0, _, i, hi => by
    rw [List.flatMap_cons, Nat.zero_mul, Nat.zero_add, List.getElem?_append_left (by rw [hlen]; exact hi)]
    rfl
  | x :: l, j + 1, hj, i, hi => by
    have e : (j + 1) * k + i = k + (j * k + i) := by rw [Nat.succ_mul]; omega
    rw [List.flatMap_cons, e, List.getElem?_append_right (by rw [hlen]; omega), hlen, Nat.add_sub_cancel_left]
    simp only [List.length_cons] at hj
    rw [flat_at hlen l j (by omega) i hi]
    rfl
theorem own_lies {α : Type} [Inhabited α] {k : Nat} {en : α → List Value} (hlen : ∀ x, (en x).length = k) {w : World} {base : Nat} {T : TypeId} {v : Value} {l : List α} (h : w.ownsRow base T k v l.length (l.flatMap en)) : Lies k en w v l := by
  rcases own_forms h with ⟨e, e0⟩ | ⟨g, c, e, _, hg, hc, _⟩
  · exact .inl ⟨⟨_, _, e⟩, List.length_eq_zero_iff.1 e0⟩
  · subst e
    refine .inr ⟨g, 0, c, rfl, hc, hg, fun j hj i u hu => ?_⟩
    have hi : i < k := by
      rcases Nat.lt_or_ge i k with h' | h'
      · exact h'
      · rw [List.getElem?_eq_none (by rw [hlen]; exact h')] at hu; cases hu
    have hb : j * k + i < l.length * k := by
      have : (j + 1) * k ≤ l.length * k := Nat.mul_le_mul_right k hj
      rw [Nat.succ_mul] at this
      omega
    rw [Nat.zero_add, h.cellAt (j * k + i) hb, flat_at hlen l j hj i hi, hu]
/-- The bounds that Print asks of an action. -/
structure Fine (a : Actn) : Prop where
  path : a.2.1.size ≤ maxLen
  few : a.2.2.2.1.length ≤ 600000
  texts : ∀ x ∈ a.2.2.2.2.1, x.2.1.size ≤ maxLen ∧ x.2.2.2.2.2.2.size ≤ maxLen
theorem acts_own {w : World} {base : Nat} {v : Value} {L : List ActQ} (h : w.ownsRow base 62 6 v L.length (cellsQ L)) (hq : ∀ q ∈ L, OwnQ base w q) (hf : ∀ q ∈ L, Fine q.1) : ActsAt w v (L.map (·.1)) := by
  rcases own_lies (k := 6) (en := encQ) (fun _ => rfl) h with ⟨h1, h2⟩ | ⟨g, o, c, e, hc, hg, hcell⟩
  · exact .inl ⟨h1, by rw [h2]; rfl⟩
  · refine .inr ⟨g, o, c, by rw [List.length_map]; exact e, by rw [List.length_map]; exact hc, hg, fun j hj => ?_⟩
    rw [List.length_map] at hj
    have hm : L[j]! ∈ L := by rw [getElem!_pos L j hj]; exact List.getElem_mem hj
    have he : (L.map (·.1))[j]! = L[j]!.1 := by
      rw [getElem!_pos _ j (by rw [List.length_map]; exact hj), List.getElem_map, getElem!_pos L j hj]
    rw [he]
    have f := hf _ hm
    refine ⟨_, _, _, _, _, _, ⟨LiI.of_own (hq _ hm).1, ?_, f.path, f.few, f.texts⟩, hcell j hj 0 _ rfl, hcell j hj 1 _ rfl, hcell j hj 2 _ rfl, hcell j hj 3 _ rfl, hcell j hj 4 _ rfl, hcell j hj 5 _ rfl⟩
    exact lies_col (own_lies (k := 7) (en := encC) (fun _ => rfl) (hq _ hm).2)
end Go.Proofs.YtfppidnfomelpaaGreatDoor

namespace Go.Proofs.YtfppidnfomelpaaGreatDoor
open Go.RowKit Go.Proofs Go.Lib Go.Joins

/-- What Parse takes: what Print gives again. -/
def Takes (l : List UInt8) (s : ByteArray) (c : Com) : Prop := readCom l = some c ∧ printOk c = true ∧ printB c = s
def ParsePost (l : List UInt8) (s : ByteArray) (w : World) (e : Ending) (w' : World) : Prop :=
  Below w.heap.size w w' ∧ ((∃ (tx : ByteArray) (rd : Bool) (A : List Actn) (aa : Option Addr) (an ac : Nat), Takes l s (tx, rd, A) ∧ e = .returned (.tuple #[.agg #[.string tx, .bool rd, .slice aa an ac], .nilIface]) ∧ ActsAt w' (.slice aa an ac) A) ∨
    ((∀ c, ¬ Takes l s c) ∧ e = .returned (.tuple #[.agg #[.string ⟨#[]⟩, .bool false, .slice none 0 0], .iface 73 (.int .i64 3)])))

theorem own_boxset {W : World} {base : Nat} {t T : TypeId} {z : Nat} {v : Value} {n : Nat} {xs : List Value} {b i : Nat} {u : Value} {cs : Array Value} (h : W.ownsRow base t z v n xs) (hb : W.heap[b]? = some (.cells cs T (0, 0))) (hne : t ≠ T) : (W.setCell ⟨b, i, none⟩ u).ownsRow base t z v n xs :=
  own_keep h (grown_setC W b i u) (fun k hk e => by
    obtain ⟨c1, h1⟩ := own_at h hk
    injection e with e
    subst e
    rw [h1] at hb
    injection hb with hb
    injection hb with _ hb
    exact hne hb)
theorem ba_of_list {a b : ByteArray} (h : a.toList = b.toList) : a = b := by
  rw [ByteArray.toList_eq, ByteArray.toList_eq] at h
  obtain ⟨x⟩ := a
  obtain ⟨y⟩ := b
  have h' : x = y := Array.toList_inj.1 h
  rw [h']
/-- Actions L lie at v, in rows of their own. -/
def OwnL (W : World) (v : Value) (L : List ActQ) : Prop := W.ownsRow 0 62 6 v L.length (cellsQ L) ∧ ∀ q ∈ L, OwnQ 0 W q
theorem OwnL.up {W Y : World} {v : Value} {L : List ActQ} (h : OwnL W v L) (hb : Below W.heap.size W Y) : OwnL Y v L := ⟨own_up h.1 hb, fun q hq => ⟨own_up (h.2 q hq).1 hb, own_up (h.2 q hq).2 hb⟩⟩
theorem OwnL.set {W : World} {v u : Value} {L : List ActQ} {b i : Nat} {cs : Array Value} (h : OwnL W v L) (hb : W.heap[b]? = some (.cells cs 24 (0, 0))) : OwnL (W.setCell ⟨b, i, none⟩ u) v L :=
  ⟨own_boxset h.1 hb (by decide), fun q hq => ⟨own_boxset (h.2 q hq).1 hb (by decide), own_boxset (h.2 q hq).2 hb (by decide)⟩⟩

set_option maxHeartbeats 4000000 in
set_option maxRecDepth 100000 in
theorem parse_any_log (hP : PlacesOk) (s : ByteArray) (w : World) (hs : s.size ≤ 1000000) (he : ErrB w) (hw : NcB w) (ht : TabB w)
    (hF : ∀ tx rd A, readCom s.data.toList = some (tx, rd, A) → A.length ≤ 600000 ∧ tx.size ≤ maxLen ∧ ∀ a ∈ A, Fine a ∧ (rightA a = true → LineOk a)) :
    Calls Tryz.prog 7 #[.string s] w (ParsePost s.data.toList s w) := by
  have HB1 : Hid (Below w.heap.size w (w.alloc (.cells #[.string ⟨#[]⟩, .bool false, .slice none 0 0] 24))) := mkH ((Below.refl _ _).alloc (Nat.le_refl _) _)
  have HZ1 := mkH (heap_alloc_new w (.cells #[.string ⟨#[]⟩, .bool false, .slice none 0 0] 24))
  have HR := mkH (read_any hP s (w.alloc (.cells #[.string ⟨#[]⟩, .bool false, .slice none 0 0] 24)) hs (he.below HB1.out))
  generalize hl : s.data.toList = l at *
  cases hc : readCom l with
  | none =>
    have HR' : Hid (Calls Tryz.prog 21 #[.string s] (w.alloc (.cells #[.string ⟨#[]⟩, .bool false, .slice none 0 0] 24)) fun e w' => ∃ (tx : ByteArray) (rd : Bool) (aa : Option Addr) (an ac : Nat), e = .returned (.tuple #[.agg #[.string tx, .bool rd, .slice aa an ac], .bool false]) ∧ Below w.heap.size w w' ∧ w'.heap[w.heap.size]? = some (.cells #[.string ⟨#[]⟩, .bool false, .slice none 0 0] 24)) := mkH (HR.out.mono (by
      rintro e w' ⟨tx, rd, aa, an, ac, ok, rfl, hb, ⟨_, L, h, _⟩ | ⟨rfl, _⟩⟩
      · rw [hc] at h; cases h
      · exact ⟨tx, rd, aa, an, ac, rfl, Below.ups HB1.out hb, (hb.block _ (blk_lt HZ1.out)).trans HZ1.out⟩))
    have HN : Hid (∀ c, ¬ Takes l s c) := mkH (fun c h => by have := h.1; rw [hc] at this; cases this)
    clear HR hc hF he hw ht hl HZ1 HB1
    go_enter Tryz.func7, Tryz.ntmps7
    go_wp2_with (first
      | (go_at_call 21; refine HR'.out.mono ?_; rintro e w2 ⟨tx, rd, aa, an, ac, rfl, hb2, hz2⟩
         have HB3 : Hid (Below w.heap.size w (w2.alloc (.cells #[.string tx, .bool rd, .slice aa an ac] 24))) := mkH (hb2.alloc hb2.size _)
         have HZ3 := mkH ((Below.heap_alloc w2 (.cells #[.string tx, .bool rd, .slice aa an ac] 24) _ (blk_lt hz2)).trans hz2)
         obtain ⟨x0, x1, x2, xf⟩ := cells3 HZ3.out
         clear hb2 hz2))
    clear x0 x1 x2 xf
    obtain ⟨z0, z1, z2⟩ := cell3 (put3 _ _ _ _ _ (.string ⟨#[]⟩) (.bool false) (.slice none 0 0) _ HZ3.out)
    refine bodyPost_ret (v := .tuple #[.agg #[.string ⟨#[]⟩, .bool false, .slice none 0 0], .iface 73 (.int .i64 3)]) (by simp [results, Tryz.results7, go_sem, z0, z1, z2]) rfl ⟨below_set3 HB3.out (Nat.le_refl _) _ _ _, .inr ⟨HN.out, rfl⟩⟩
  | some c =>
    obtain ⟨tx, rd, A⟩ := c
    obtain ⟨hA, htx, hfa⟩ := hF tx rd A hc
    have HR' : Hid (Calls Tryz.prog 21 #[.string s] (w.alloc (.cells #[.string ⟨#[]⟩, .bool false, .slice none 0 0] 24)) fun e w' => ∃ (aa : Option Addr) (an ac : Nat) (L : List ActQ), e = .returned (.tuple #[.agg #[.string tx, .bool rd, .slice aa an ac], .bool true]) ∧ Below w.heap.size w w' ∧ w'.heap[w.heap.size]? = some (.cells #[.string ⟨#[]⟩, .bool false, .slice none 0 0] 24) ∧ L.map (·.1) = A ∧ OwnL w' (.slice aa an ac) L) := mkH (HR.out.mono (by
      rintro e w' ⟨tx', rd', aa, an, ac, ok, rfl, hb, ⟨rfl, L, h, han, h1, h2⟩ | ⟨rfl, h⟩⟩
      · rw [hc] at h
        simp only [Option.some.injEq, Prod.mk.injEq] at h
        obtain ⟨rfl, rfl, rfl⟩ := h
        exact ⟨aa, an, ac, L, rfl, Below.ups HB1.out hb, (hb.block _ (blk_lt HZ1.out)).trans HZ1.out, rfl, h1, h2⟩
      · rw [hc] at h; cases h))
    have HAO : Hid (∀ W v L, L.map (·.1) = A → OwnL W v L → ActsAt W v A) := mkH (fun W v L e h => by
      subst e
      exact acts_own h.1 h.2 (fun q hq => (hfa q.1 (List.mem_map_of_mem hq)).1))
    have HPR : Hid (∀ W aa an ac L, L.map (·.1) = A → OwnL W (.slice aa an ac) L → Below w.heap.size w W → Calls Tryz.prog 8 #[.agg #[.string tx, .bool rd, .slice aa an ac]] W fun e w' => e = .returned (printE (tx, rd, A)) ∧ Below W.heap.size W w') := mkH (fun W aa an ac L e h hb => print_any tx rd A aa an ac W (HAO.out W _ L e h) hA htx (fun a ha => (hfa a ha).2) (hw.below hb) (ht.below hb))
    have HC := mkH hc
    clear HR hF he hw ht hl hc hfa HZ1 HB1
    have HN : Hid (printOk (tx, rd, A) = false ∨ printB (tx, rd, A) ≠ s → ∀ c, ¬ Takes l s c) := mkH (fun h c hk => by
      have h1 := hk.1
      rw [HC.out] at h1
      cases h1
      rcases h with h | h
      · rw [hk.2.1] at h; cases h
      · exact h hk.2.2)
    cases hp : printOk (tx, rd, A) with
    | false =>
      have HPE : Hid (printE (tx, rd, A) = .tuple #[.string ⟨#[]⟩, .iface 73 (.int .i64 1)]) := mkH (by unfold printE; rw [hp]; rfl)
      have HN' := mkH (HN.out (.inl hp))
      clear HN hp
      go_enter Tryz.func7, Tryz.ntmps7
      go_wp2_with (first
        | (go_at_call 21; refine HR'.out.mono ?_; rintro e w2 ⟨aa, an, ac, L, rfl, hb2, hz2, hL, hO⟩
           have HB3 : Hid (Below w.heap.size w (w2.alloc (.cells #[.string tx, .bool rd, .slice aa an ac] 24))) := mkH (hb2.alloc hb2.size _)
           have HZ3 := mkH ((Below.heap_alloc w2 (.cells #[.string tx, .bool rd, .slice aa an ac] 24) _ (blk_lt hz2)).trans hz2)
           have HP4 := mkH (HPR.out _ _ _ _ L hL (hO.up ((Below.refl _ _).alloc (Nat.le_refl _) _)) HB3.out)
           clear hb2 hz2 hO hL)
        | (go_at_call 8; refine HP4.out.mono ?_; rintro e w5 ⟨rfl, hb5⟩; rw [HPE.out]
           have HB5 := mkH (Below.ups HB3.out hb5)
           have HZ5 := mkH ((hb5.block _ (blk_lt HZ3.out)).trans HZ3.out)
           obtain ⟨x0, x1, x2, xf⟩ := cells3 HZ5.out
           clear hb5))
      clear x0 x1 x2 xf
      obtain ⟨z0, z1, z2⟩ := cell3 (put3 _ _ _ _ _ (.string ⟨#[]⟩) (.bool false) (.slice none 0 0) _ HZ5.out)
      refine bodyPost_ret (v := .tuple #[.agg #[.string ⟨#[]⟩, .bool false, .slice none 0 0], .iface 73 (.int .i64 3)]) (by simp [results, Tryz.results7, go_sem, z0, z1, z2]) rfl ⟨below_set3 HB5.out (Nat.le_refl _) _ _ _, .inr ⟨HN'.out, rfl⟩⟩
    | true =>
      have HPE : Hid (printE (tx, rd, A) = .tuple #[.string (printB (tx, rd, A)), .nilIface]) := mkH (by unfold printE; rw [hp]; rfl)
      generalize hpb : printB (tx, rd, A) = pb at *
      have HN' := mkH (fun h => HN.out (.inr h))
      have HTK : Hid (pb = s → Takes l s (tx, rd, A)) := mkH (fun h => ⟨HC.out, hp, hpb.trans h⟩)
      clear HN hp hpb
      go_enter Tryz.func7, Tryz.ntmps7
      go_wp2_with (first
        | (go_at_call 21; refine HR'.out.mono ?_; rintro e w2 ⟨aa, an, ac, L, rfl, hb2, hz2, hL, hO⟩
           have HB3 : Hid (Below w.heap.size w (w2.alloc (.cells #[.string tx, .bool rd, .slice aa an ac] 24))) := mkH (hb2.alloc hb2.size _)
           have HZ3 := mkH ((Below.heap_alloc w2 (.cells #[.string tx, .bool rd, .slice aa an ac] 24) _ (blk_lt hz2)).trans hz2)
           have HC3 := mkH (heap_alloc_new w2 (.cells #[.string tx, .bool rd, .slice aa an ac] 24))
           have HO3 := mkH (hO.up ((Below.refl _ _).alloc (Nat.le_refl _) (.cells #[.string tx, .bool rd, .slice aa an ac] 24)))
           have HP4 := mkH (HPR.out _ _ _ _ L hL HO3.out HB3.out)
           have HL := mkH hL
           have hlt : w.heap.size < w2.heap.size := blk_lt hz2
           clear hb2 hz2 hO hL)
        | (go_at_call 8; refine HP4.out.mono ?_; rintro e w5 ⟨rfl, hb5⟩; rw [HPE.out]
           have HB5 := mkH (Below.ups HB3.out hb5)
           have HZ5 := mkH ((hb5.block _ (blk_lt HZ3.out)).trans HZ3.out)
           have HC5 := mkH ((hb5.block _ (blk_lt HC3.out)).trans HC3.out)
           have HO5 := mkH (HO3.out.up hb5)
           obtain ⟨x0, x1, x2, xf⟩ := cells3 HZ5.out
           obtain ⟨c0, c1, c2, cf⟩ := cells3 HC5.out
           clear hb5))
      · rename_i hcmp
        clear x0 x1 x2 xf c0 c1 c2 cf
        obtain ⟨z0, z1, z2⟩ := cell3 (put3 _ _ _ _ _ (.string ⟨#[]⟩) (.bool false) (.slice none 0 0) _ HZ5.out)
        refine bodyPost_ret (v := .tuple #[.agg #[.string ⟨#[]⟩, .bool false, .slice none 0 0], .iface 73 (.int .i64 3)]) (by simp [results, Tryz.results7, go_sem, z0, z1, z2]) rfl ⟨below_set3 HB5.out (Nat.le_refl _) _ _ _, .inr ⟨HN'.out (fun e => ?_), rfl⟩⟩
        subst e
        simp at hcmp
      · rename_i hcmp
        clear x0 x1 x2 xf c0 c1 c2 cf
        obtain ⟨z0, z1, z2⟩ := cell3 (put3 _ _ _ _ _ (.string tx) (.bool rd) (.slice aa an ac) _ HZ5.out)
        refine bodyPost_ret (v := .tuple #[.agg #[.string tx, .bool rd, .slice aa an ac], .nilIface]) (by simp [results, Tryz.results7, go_sem, z0, z1, z2]) rfl ⟨below_set3 HB5.out (Nat.le_refl _) _ _ _, .inl ⟨tx, rd, A, aa, an, ac, HTK.out ?_, rfl, HAO.out _ _ L HL.out ?_⟩⟩
        · exact ba_of_list (by simpa using hcmp)
        · exact ((HO5.out.set HZ5.out).set (heap_setC _ _ 0 _ _ _ HZ5.out)).set (heap_setC _ _ 1 _ _ _ (heap_setC _ _ 0 _ _ _ HZ5.out))
end Go.Proofs.YtfppidnfomelpaaGreatDoor

namespace Go.Proofs.YtfppidnfomelpaaGreatDoor
open Go.Lib

/-! What is written is read again. -/
def Nice (l : List UInt8) : Prop := ∀ b ∈ l, b ≠ 10 ∧ b ≠ 32 ∧ b ≠ 39 ∧ b ≠ 44 ∧ b ≠ 59
theorem Nice.n10 {l : List UInt8} (h : Nice l) : (10 : UInt8) ∉ l := fun e => (h _ e).1 rfl
theorem Nice.n32 {l : List UInt8} (h : Nice l) : (32 : UInt8) ∉ l := fun e => (h _ e).2.1 rfl
theorem Nice.n39 {l : List UInt8} (h : Nice l) : (39 : UInt8) ∉ l := fun e => (h _ e).2.2.1 rfl
theorem Nice.n44 {l : List UInt8} (h : Nice l) : (44 : UInt8) ∉ l := fun e => (h _ e).2.2.2.1 rfl
theorem Nice.n59 {l : List UInt8} (h : Nice l) : (59 : UInt8) ∉ l := fun e => (h _ e).2.2.2.2 rfl
theorem nice_of {l : List UInt8} (h : ∀ b ∈ l, b.toNat = 45 ∨ (48 ≤ b.toNat ∧ b.toNat ≤ 57) ∨ b.toNat = 95 ∨ (97 ≤ b.toNat ∧ b.toNat ≤ 122)) : Nice l := by
  intro b hb
  have := h b hb
  refine ⟨?_, ?_, ?_, ?_, ?_⟩ <;> (rintro rfl; revert this; decide)
theorem nice_itoa (n : Int) : Nice (itoa n) := nice_of fun b hb => by
  rcases itoa_sign b hb with h | h
  · exact .inl h
  · exact .inr (.inl h)
theorem badName_big (r : Nat) (h : 126 < r) : badName r = true := by
  simp only [badName, smallB, digitB, Bool.and_eq_true, Bool.not_eq_true', Bool.and_eq_false_iff, decide_eq_false_iff_not, beq_eq_false_iff_ne]
  refine ⟨.inr (by omega), .inr (by omega), by omega⟩
theorem badLetter_big (r : Nat) (h : 126 < r) : badLetter r = true := by simp [badLetter, h]
theorem name_parts {s : ByteArray} (h : nameB s = true) : Nice s.data.toList ∧ s.data.toList ≠ [] := by
  simp only [nameB, Bool.and_eq_true, decide_eq_true_eq, Bool.not_eq_true', decide_eq_false_iff_not] at h
  obtain ⟨h1, _, _, h4⟩ := h
  refine ⟨nice_of fun b hb => ?_, fun e => ?_⟩
  · obtain ⟨h5, _⟩ := idx_mem badName_big h4 b hb
    have h6 : (!smallB b.toNat && (!digitB b.toNat && !((b.toNat : Int) == 95))) = false := h5
    simp only [smallB, digitB, Bool.and_eq_false_iff, Bool.not_eq_false', Bool.and_eq_true, decide_eq_true_eq, beq_iff_eq] at h6
    omega
  · have : s.data.toList.length = 0 := by rw [e]; rfl
    simp only [Array.length_toList] at this
    simp only [ByteArray.size] at h1
    omega
theorem text_parts {t : ByteArray} (h : rtB t = true) : (39 : UInt8) ∉ t.data.toList ∧ (10 : UInt8) ∉ t.data.toList := by
  simp only [rtB, Bool.and_eq_true, decide_eq_true_eq, Bool.not_eq_true', decide_eq_false_iff_not] at h
  refine ⟨fun e => ?_, fun e => ?_⟩
  · have := (idx_mem badLetter_big h.2 _ e).1
    revert this; decide
  · have := (idx_mem badLetter_big h.2 _ e).1
    revert this; decide
def Tailed (t : List UInt8) : Prop := t = [] ∨ ∃ r, t = 59 :: r
theorem cut_tail {c : UInt8} {x t : List UInt8} (hx : c ∉ x) (ht : t = [] ∨ ∃ r, t = c :: r) : (cutL c (x ++ t)).1 = x ∧ (cutL c (x ++ t)).2.1 = t.tail := by
  rcases ht with rfl | ⟨r, rfl⟩
  · rw [List.append_nil, cutL_miss hx]; simp
  · rw [cutL_hit hx]; simp
theorem app_list (a b : ByteArray) : (a ++ b).data.toList = a.data.toList ++ b.data.toList := by simp
theorem prefix_no {x t : List UInt8} (hx : (39 : UInt8) ∉ x) (ht : Tailed t) : Lib.hasPrefix (x ++ t) [39] = false := by
  unfold Lib.hasPrefix
  cases x with
  | nil =>
    rcases ht with rfl | ⟨r, rfl⟩
    · rfl
    · simp [List.isPrefixOf]
  | cons b x =>
    have : b ≠ 39 := fun e => hx (by simp [e])
    simp [List.isPrefixOf, this.symm]
theorem readVal_back {k n : Int} {t : ByteArray} {tl : List UInt8} (h : rightV k n t = true) (hn : I64 n) (ht : Tailed tl) : readVal ((printV k n t).data.toList ++ tl) = some ((k, n, t), tl.tail) := by
  unfold rightV at h
  unfold printV
  by_cases h0 : k = 0
  · subst h0
    simp only [if_true, Bool.and_eq_true, beq_iff_eq] at h ⊢
    obtain ⟨rfl, h2⟩ := h
    have e : t = bA [] := toList_inj (by simpa [bA, ByteArray.toList_eq] using h2)
    subst e
    have q := cut_tail (c := 59) (x := nullL) (t := tl) (by decide) ht
    unfold readVal
    show (if Lib.hasPrefix (nullL ++ tl) [39] = true then _ else _) = _
    rw [prefix_no (by decide) ht, if_neg (by decide)]
    show (if (cutL 59 (nullL ++ tl)).1 = nullL then _ else _) = _
    rw [if_pos q.1]
    show some ((0, 0, bA []), (cutL 59 (nullL ++ tl)).2.1) = _
    rw [q.2]
  · rw [if_neg h0] at h ⊢
    by_cases h1 : k = 1
    · subst h1
      simp only [if_true] at h ⊢
      have e : t = bA [] := toList_inj (by simpa [bA, ByteArray.toList_eq] using h)
      subst e
      have hi := nice_itoa n
      have q := cut_tail (c := 59) (x := itoa n) (t := tl) hi.n59 ht
      have el : (itoaB n).data.toList = itoa n := by simp [itoaB]
      have hne : itoa n ≠ nullL := fun e => by
        have := itoa_sign (n := n) 110 (by rw [e]; decide)
        revert this; decide
      rw [el]
      unfold readVal
      rw [prefix_no hi.n39 ht, if_neg (by decide), q.1, q.2, if_neg hne, numOf_itoa hn]
      rfl
    · rw [if_neg h1] at h ⊢
      by_cases h2 : k = 2
      · subst h2
        simp only [if_true, Bool.and_eq_true, beq_iff_eq] at h ⊢
        obtain ⟨rfl, h3⟩ := h
        have el : (⟨#[39]⟩ ++ t ++ ⟨#[39]⟩ : ByteArray).data.toList ++ tl = 39 :: (t.data.toList ++ 39 :: tl) := by simp
        rw [el]
        unfold readVal
        rw [if_pos (by simp [Lib.hasPrefix, List.isPrefixOf])]
        simp only [List.drop_succ_cons, List.drop_zero]
        rw [cutL_hit (text_parts h3).1]
        simp only [if_true, bA_list]
        congr 2
        rcases ht with rfl | ⟨r, rfl⟩
        · rfl
        · simp [Lib.trimPrefix, Lib.hasPrefix, List.isPrefixOf]
      · rw [if_neg h2] at h; cases h
def mmL (b : Bool) : List UInt8 := (eitherB b mustW mayW).data.toList
theorem mmL_nice (b : Bool) : Nice (mmL b) := by cases b <;> (unfold Nice mmL; decide)
theorem mmL_must (b : Bool) : decide (mmL b = mustL) = b := by cases b <;> decide
def columnL (c : Col) : List UInt8 := itoa c.1 ++ 32 :: (c.2.1.data.toList ++ 32 :: (itoa c.2.2.1 ++ 32 :: (mmL c.2.2.2.1 ++ 32 :: (printV c.2.2.2.2.1 c.2.2.2.2.2.1 c.2.2.2.2.2.2).data.toList)))
theorem columnB_list (c : Col) : (columnB c).data.toList = columnL c := by
  simp [columnB, joinB, Lib.join, List.intercalate, columnL, mmL, itoaB]
structure ColR (c : Col) : Prop where
  ok : ColOk c
  may : mayB c = true
theorem ColR.parts {c : Col} (h : ColR c) : nameB c.2.1 = true ∧ rightV c.2.2.2.2.1 c.2.2.2.2.2.1 c.2.2.2.2.2.2 = true := by
  have := h.may
  simp only [mayB, colB, fitB, Bool.and_eq_true] at this
  exact ⟨this.2.2.1.2, this.2.2.2.1⟩
theorem rest1_hit {x y : List UInt8} (h : (32 : UInt8) ∉ x) : rest1 (x ++ 32 :: y) = y := by unfold rest1; rw [cutL_hit h]
theorem readCol_back {c : Col} {tl : List UInt8} (h : ColR c) (ht : Tailed tl) : readCol (columnL c ++ tl) = some (c, tl.tail) := by
  obtain ⟨hp1, hp2⟩ := h.parts
  have hn := (name_parts hp1).1
  obtain ⟨c1, c2, c3, c4, c5, c6, c7⟩ := c
  have e : columnL (c1, c2, c3, c4, c5, c6, c7) ++ tl = itoa c1 ++ 32 :: (c2.data.toList ++ 32 :: (itoa c3 ++ 32 :: (mmL c4 ++ 32 :: ((printV c5 c6 c7).data.toList ++ tl)))) := by
    simp [columnL]
  have i1 := (nice_itoa c1).n32
  have i3 := (nice_itoa c3).n32
  have i4 := (mmL_nice c4).n32
  have q1 : I64 c1 := h.ok.id
  have q3 : I64 c3 := h.ok.kind
  have q6 : I64 c6 := h.ok.num
  unfold readCol
  rw [e, rest1_hit i1, rest1_hit hn.n32, rest1_hit i3, rest1_hit i4, cutL_hit i1, cutL_hit i3, cutL_hit hn.n32, cutL_hit i4]
  simp only
  rw [numOf_itoa q1, numOf_itoa q3, readVal_back hp2 q6 ht]
  simp only [Option.bind_some, Option.map_some, bA_list, mmL_must]
theorem columnL_ne (c : Col) : columnL c ≠ [] := by
  unfold columnL
  intro e
  have := congrArg List.length e
  simp at this
theorem readCols_back : ∀ {l : List Col}, l ≠ [] → (∀ c ∈ l, ColR c) → readCols (Lib.join (l.map columnL) [59]) = some l
  | [], h, _ => absurd rfl h
  | [c], _, h => by
    have e : Lib.join ([c].map columnL) [59] = columnL c ++ [] := by simp [Lib.join]
    rw [e, readCols_cons (by simpa using columnL_ne c) (readCol_back (h c (by simp)) (.inl rfl))]
    rw [show ([] : List UInt8).tail = [] from rfl, readCols_nil]
    rfl
  | c :: d :: l, _, h => by
    have e : Lib.join ((c :: d :: l).map columnL) [59] = columnL c ++ 59 :: Lib.join ((d :: l).map columnL) [59] := by simp [Lib.join]
    rw [e, readCols_cons (by simp) (readCol_back (h c (by simp)) (.inr ⟨_, rfl⟩))]
    rw [List.tail_cons, readCols_back (by simp) (fun x hx => h x (by simp [hx]))]
    rfl
theorem allNum_back : ∀ {l : List Int}, (∀ x ∈ l, I64 x) → allNum (l.map itoa) = some l
  | [], _ => rfl
  | n :: l, h => by
    rw [List.map_cons, allNum, numOf_itoa (h n (by simp)), allNum_back (fun x hx => h x (by simp [hx]))]
    rfl
theorem readPls_back {l : List Int} (h0 : l ≠ []) (h : ∀ x ∈ l, I64 x) : readPls (Lib.join (l.map itoa) [44]) = some l := by
  unfold readPls
  rw [splitT_join (by simpa using h0) (fun x hx => by
    obtain ⟨n, _, rfl⟩ := List.mem_map.1 hx
    exact (nice_itoa n).n44), allNum_back h]
theorem joinB_list (xs : List ByteArray) (sep : ByteArray) : (joinB xs sep).data.toList = Lib.join (xs.map (·.data.toList)) sep.data.toList := by simp [joinB]
theorem itoaB_list (n : Int) : (itoaB n).data.toList = itoa n := by simp [itoaB]
def lineL (a : Actn) : List UInt8 :=
  if a.1 = 1 then addL ++ 32 :: (a.2.1.data.toList ++ 32 :: itoa a.2.2.1)
  else if a.1 = 2 then removeL ++ 32 :: a.2.1.data.toList
  else if a.1 = 3 then maskL ++ 32 :: (a.2.1.data.toList ++ 32 :: Lib.join (a.2.2.2.1.map itoa) [44])
  else schemaL ++ 32 :: (itoa a.2.2.2.2.2 ++ 32 :: Lib.join (a.2.2.2.2.1.map columnL) [59])
theorem lineB_list (a : Actn) : (lineB a).data.toList = lineL a := by
  unfold lineB lineL
  split
  · simp [itoaB_list, addL]
  · split
    · simp [removeL]
    · split
      · simp [joinB_list, maskL, List.map_map, Function.comp_def, itoaB_list]
      · simp [joinB_list, schemaL, List.map_map, Function.comp_def, itoaB_list, columnB_list]
theorem bare_parts {p : ByteArray} {r : Int} {mn cn : Nat} {nx : Int} (h : bareB p r mn cn nx = true) : p = bA [] ∧ r = 0 ∧ mn = 0 ∧ cn = 0 ∧ nx = 0 := by
  simp only [bareB, Bool.and_eq_true, beq_iff_eq] at h
  obtain ⟨h1, h2, h3, h4, h5⟩ := h
  exact ⟨toList_inj (by simpa [bA, ByteArray.toList_eq] using h1), h2, by omega, by omega, h5⟩
theorem cols_right {l : List Col} {nx : Int} (h : rightB l nx = true) (hc : ∀ x ∈ l, ColOk x) : l ≠ [] ∧ ∀ c ∈ l, ColR c := by
  have hr := (rightB_iff l nx).1 h
  refine ⟨fun e => ?_, fun c hc' => ⟨hc c hc', (mayB_iff c).2 (hr.2.2.1 c hc').1⟩⟩
  have := hr.1
  rw [e] at this
  simp at this
theorem no_add : (32 : UInt8) ∉ addL := by decide
theorem no_remove : (32 : UInt8) ∉ removeL := by decide
theorem no_mask : (32 : UInt8) ∉ maskL := by decide
theorem no_schema : (32 : UInt8) ∉ schemaL := by decide
theorem readAct_back {a : Actn} (h : rightA a = true) (ho : LineOk a) : readAct (lineL a) = some a := by
  obtain ⟨k, p, r, m, cl, nx⟩ := a
  unfold rightA at h
  unfold lineL
  simp only at h ⊢
  by_cases h1 : k = 1
  · subst h1
    simp only [if_true, Bool.and_eq_true] at h ⊢
    obtain ⟨h2, h3⟩ := h
    obtain ⟨_, _, e1, e2, rfl⟩ := bare_parts h3
    have e1' : m = [] := List.length_eq_zero_iff.1 e1
    have e2' : cl = [] := List.length_eq_zero_iff.1 e2
    subst e1' e2'
    have hn : nameB p = true := by simp only [rfB, Bool.and_eq_true] at h2; exact h2.1
    unfold readAct
    rw [cutL_hit no_add, rest1_hit no_add, cutL_hit (name_parts hn).1.n32]
    simp only [if_true]
    have hr : I64 r := ho.rows
    rw [numOf_itoa hr]
    simp [bA_list]
  · rw [if_neg h1] at h ⊢
    by_cases h2 : k = 2
    · subst h2
      simp only [if_true, Bool.and_eq_true] at h ⊢
      obtain ⟨hn, h3⟩ := h
      obtain ⟨_, rfl, e1, e2, rfl⟩ := bare_parts h3
      have e1' : m = [] := List.length_eq_zero_iff.1 e1
      have e2' : cl = [] := List.length_eq_zero_iff.1 e2
      subst e1' e2'
      unfold readAct
      rw [cutL_hit no_remove, rest1_hit no_remove, cutL_miss (name_parts hn).1.n32]
      simp only
      rw [if_neg (by decide), if_pos trivial, bA_list]
    · rw [if_neg h2] at h ⊢
      by_cases h3 : k = 3
      · subst h3
        simp only [if_true, Bool.and_eq_true] at h ⊢
        obtain ⟨⟨hn, hr⟩, h3⟩ := h
        obtain ⟨_, rfl, _, e2, rfl⟩ := bare_parts h3
        have e2' : cl = [] := List.length_eq_zero_iff.1 e2
        subst e2'
        have hm : m ≠ [] := by
          rintro rfl
          simp [risingB] at hr
        unfold readAct
        rw [cutL_hit no_mask, rest1_hit no_mask, cutL_hit (name_parts hn).1.n32]
        simp only
        rw [if_neg (by decide), if_neg (by decide), if_pos trivial, readPls_back hm ho.mask, bA_list]
        rfl
      · rw [if_neg h3] at h ⊢
        by_cases h4 : k = 4
        · subst h4
          simp only [if_true, Bool.and_eq_true] at h ⊢
          obtain ⟨hr, h3⟩ := h
          obtain ⟨rfl, rfl, e1, _, _⟩ := bare_parts h3
          have e1' : m = [] := List.length_eq_zero_iff.1 e1
          subst e1'
          obtain ⟨hl, hc⟩ := cols_right hr ho.cols
          have hx : I64 nx := ho.next
          unfold readAct
          rw [cutL_hit no_schema, rest1_hit no_schema, cutL_hit (nice_itoa nx).n32]
          simp only
          rw [if_neg (by decide), if_neg (by decide), if_neg (by decide), if_pos trivial, numOf_itoa hx, readCols_back hl hc]
          rfl
        · rw [if_neg h4] at h; cases h
theorem join_no {c s : UInt8} (hs : c ≠ s) : ∀ {l : List (List UInt8)}, (∀ x ∈ l, c ∉ x) → c ∉ Lib.join l [s]
  | [], _ => by simp [Lib.join, List.intercalate]
  | [x], h => by simpa [Lib.join] using h x (by simp)
  | x :: y :: l, h => by
    have e : Lib.join (x :: y :: l) [s] = x ++ s :: Lib.join (y :: l) [s] := by simp [Lib.join]
    rw [e]
    simp only [List.mem_append, List.mem_cons, not_or]
    exact ⟨h x (by simp), hs, join_no hs (fun z hz => h z (by simp [hz]))⟩
theorem val_n10 {k n : Int} {t : ByteArray} (h : rightV k n t = true) : (10 : UInt8) ∉ (printV k n t).data.toList := by
  unfold rightV at h
  unfold printV
  split
  · decide
  · rename_i h0
    rw [if_neg h0] at h
    split
    · rw [itoaB_list]; exact (nice_itoa n).n10
    · rename_i h1
      rw [if_neg h1] at h
      split
      · rename_i h2
        rw [if_pos h2, Bool.and_eq_true] at h
        simp only [app_list, List.mem_append, not_or]
        exact ⟨⟨by decide, (text_parts h.2).2⟩, by decide⟩
      · decide
theorem col_n10 {c : Col} (h : ColR c) : (10 : UInt8) ∉ columnL c := by
  obtain ⟨hp1, hp2⟩ := h.parts
  unfold columnL
  simp only [List.mem_append, List.mem_cons, not_or]
  exact ⟨(nice_itoa _).n10, by decide, (name_parts hp1).1.n10, by decide, (nice_itoa _).n10, by decide, (mmL_nice _).n10, by decide, val_n10 hp2⟩
theorem line_n10 {a : Actn} (h : rightA a = true) (ho : LineOk a) : (10 : UInt8) ∉ lineL a := by
  obtain ⟨k, p, r, m, cl, nx⟩ := a
  unfold rightA at h
  unfold lineL
  simp only at h ⊢
  by_cases h1 : k = 1
  · rw [if_pos h1] at h ⊢
    simp only [Bool.and_eq_true, rfB] at h
    simp only [List.mem_append, List.mem_cons, not_or]
    exact ⟨by decide, by decide, (name_parts h.1.1).1.n10, by decide, (nice_itoa _).n10⟩
  · rw [if_neg h1] at h ⊢
    by_cases h2 : k = 2
    · rw [if_pos h2] at h ⊢
      simp only [Bool.and_eq_true] at h
      simp only [List.mem_append, List.mem_cons, not_or]
      exact ⟨by decide, by decide, (name_parts h.1).1.n10⟩
    · rw [if_neg h2] at h ⊢
      by_cases h3 : k = 3
      · rw [if_pos h3] at h ⊢
        simp only [Bool.and_eq_true] at h
        simp only [List.mem_append, List.mem_cons, not_or]
        exact ⟨by decide, by decide, (name_parts h.1.1).1.n10, by decide, join_no (by decide) (fun x hx => by
          obtain ⟨n, _, rfl⟩ := List.mem_map.1 hx
          exact (nice_itoa n).n10)⟩
      · rw [if_neg h3] at h ⊢
        by_cases h4 : k = 4
        · rw [if_pos h4] at h
          simp only [Bool.and_eq_true] at h
          obtain ⟨_, hc⟩ := cols_right h.1 ho.cols
          simp only [List.mem_append, List.mem_cons, not_or]
          exact ⟨by decide, by decide, (nice_itoa _).n10, by decide, join_no (by decide) (fun x hx => by
            obtain ⟨c, hc', rfl⟩ := List.mem_map.1 hx
            exact col_n10 (hc c hc'))⟩
        · rw [if_neg h4] at h; cases h
theorem allActs_back : ∀ {l : List Actn}, (∀ a ∈ l, rightA a = true ∧ LineOk a) → allActs (l.map lineL) = some l
  | [], _ => rfl
  | a :: l, h => by
    rw [List.map_cons, allActs, readAct_back (h a (by simp)).1 (h a (by simp)).2, allActs_back (fun x hx => h x (by simp [hx]))]
    rfl
def commitL : List UInt8 := [99, 111, 109, 109, 105, 116]
def rbL (b : Bool) : List UInt8 := (eitherB b readsW blindW).data.toList
theorem rbL_nice (b : Bool) : Nice (rbL b) := by cases b <;> (unfold Nice rbL; decide)
theorem rbL_reads (b : Bool) : decide (rbL b = readsL) = b := by cases b <;> decide
theorem headB_list (tx : ByteArray) (rd : Bool) : (headB tx rd).data.toList = commitL ++ 32 :: (tx.data.toList ++ 32 :: rbL rd) ++ [10] := by
  simp [headB, commitL, rbL]
/-- WHAT IS WRITTEN IS READ AGAIN. -/
theorem readCom_back {c : Com} (h : printOk c = true) (ho : ∀ a ∈ c.2.2, LineOk a) : readCom (printL c) = some c := by
  obtain ⟨tx, rd, l⟩ := c
  simp only [printOk, Bool.and_eq_true, List.all_eq_true] at h
  obtain ⟨hn, hl⟩ := h
  have hnm := (name_parts hn).1
  have e1 : printL (tx, rd, l) = (commitL ++ 32 :: (tx.data.toList ++ 32 :: rbL rd)) ++ 10 :: (l.map lineL).flatMap (fun x => x ++ [10]) := by
    simp [printL, headB_list, linesL, lineB_list, List.flatMap_map]
  have hh : (10 : UInt8) ∉ commitL ++ 32 :: (tx.data.toList ++ 32 :: rbL rd) := by
    simp only [List.mem_append, List.mem_cons, not_or]
    exact ⟨by decide, by decide, hnm.n10, by decide, (rbL_nice rd).n10⟩
  unfold readCom
  rw [e1, cutL_hit hh]
  simp only
  rw [linesT_lines (fun x hx => by
    obtain ⟨a, ha, rfl⟩ := List.mem_map.1 hx
    exact line_n10 (hl a ha) (ho a ha)), allActs_back (fun a ha => ⟨hl a ha, ho a ha⟩), rest1_hit (by decide), cutL_hit hnm.n32]
  simp [bA_list, rbL_reads]
end Go.Proofs.YtfppidnfomelpaaGreatDoor

namespace Go.Proofs.YtfppidnfomelpaaGreatDoor
open Go.Lib

theorem name_size {s : ByteArray} (h : nameB s = true) : s.size ≤ 16 := by
  simp only [nameB, Bool.and_eq_true, decide_eq_true_eq] at h
  exact h.2.1
theorem empty_size {t : ByteArray} (h : t.toList.isEmpty = true) : t.size ≤ 0 := by
  rw [List.isEmpty_iff, ByteArray.toList_eq] at h
  show t.data.size ≤ 0
  rw [← Array.length_toList, h]
  exact Nat.le_refl _
theorem val_size {k n : Int} {t : ByteArray} (h : rightV k n t = true) : t.size ≤ 40 := by
  unfold rightV at h
  split at h
  · simp only [Bool.and_eq_true] at h; have := empty_size h.2; omega
  · split at h
    · have := empty_size h; omega
    · split at h
      · simp only [Bool.and_eq_true, rtB, decide_eq_true_eq] at h; exact h.2.1
      · cases h
theorem may_ok {c : Col} (h : mayB c = true) (hi : ColI c) : ColOk c := by
  simp only [mayB, colB, fitB, Bool.and_eq_true] at h
  have h1 := name_size h.2.2.1.2
  have h2 := val_size h.2.2.2.1
  exact ⟨hi.1, by omega, hi.2.1, hi.2.2, by omega⟩
theorem lineOk_of {a : Actn} (h : rightA a = true) (hi : Ints a) : LineOk a := by
  unfold rightA at h
  split at h
  · simp only [Bool.and_eq_true, rfB] at h
    obtain ⟨_, _, h3, h4, _⟩ := bare_parts h.2
    have := name_size h.1.1
    exact ⟨by omega, hi.rows, hi.mask, by omega, (fun x hx => by rw [List.length_eq_zero_iff.1 h4] at hx; cases hx), by omega, hi.next⟩
  · split at h
    · simp only [Bool.and_eq_true] at h
      obtain ⟨_, _, h3, h4, _⟩ := bare_parts h.2
      have := name_size h.1
      exact ⟨by omega, hi.rows, hi.mask, by omega, (fun x hx => by rw [List.length_eq_zero_iff.1 h4] at hx; cases hx), by omega, hi.next⟩
    · split at h
      · simp only [Bool.and_eq_true, risingB] at h
        obtain ⟨_, _, _, h4, _⟩ := bare_parts h.2
        have := name_size h.1.1
        have := rises_le 60 h.1.2.2
        exact ⟨by omega, hi.rows, hi.mask, by omega, (fun x hx => by rw [List.length_eq_zero_iff.1 h4] at hx; cases hx), by omega, hi.next⟩
      · split at h
        · simp only [Bool.and_eq_true] at h
          obtain ⟨h1, _, h3, _, _⟩ := bare_parts h.2
          have hr := (rightB_iff _ _).1 h.1
          refine ⟨by rw [h1]; simp [bA, ByteArray.size], hi.rows, hi.mask, by omega, fun x hx => may_ok ((mayB_iff x).2 (hr.2.2.1 x hx).1) (hi.cols x hx), by have := hr.2.1; omega, hi.next⟩
        · cases h
theorem i64_0 : I64 0 := ⟨by decide, by decide⟩
theorem readVal_ok {s : List UInt8} {v : Val3} {b : List UInt8} (h : readVal s = some (v, b)) : I64 v.2.1 ∧ v.2.2.size ≤ s.length := by
  unfold readVal at h
  split at h
  · split at h
    · cases h
      refine ⟨i64_0, ?_⟩
      have h2 := cutL_le 39 (s.drop 1)
      rw [List.length_drop] at h2
      show (bA _).size ≤ _
      rw [bA_size]
      omega
    · cases h
  · split at h
    · cases h; exact ⟨i64_0, by show (bA []).size ≤ _; rw [bA_size]; exact Nat.zero_le _⟩
    · cases hn : numOf (cutL 59 s).1 with
      | none => rw [hn] at h; cases h
      | some n => rw [hn] at h; cases h; exact ⟨numOf_bounds hn, by show (bA []).size ≤ _; rw [bA_size]; exact Nat.zero_le _⟩
theorem readCol_ok {s : List UInt8} {c : Col} {b : List UInt8} (h : readCol s = some (c, b)) : ColI c ∧ c.2.1.size ≤ s.length ∧ c.2.2.2.2.2.2.size ≤ s.length := by
  obtain ⟨i, k, v, h1, h2, h3, rfl⟩ := readCol_some h
  have q := readVal_ok h3
  have r1 := rest1_le s
  have r2 := rest1_le (rest1 s)
  have r3 := rest1_le (rest1 (rest1 s))
  have r4 := rest1_le (rest1 (rest1 (rest1 s)))
  have r5 := cutL_le 32 (rest1 s)
  refine ⟨⟨numOf_bounds h1, numOf_bounds h2, q.1⟩, ?_, ?_⟩
  · show (bA _).size ≤ _
    rw [bA_size]
    omega
  · have := q.2
    show v.2.2.size ≤ _
    omega
theorem readCols_ok : ∀ (n : Nat) {s : List UInt8} {l : List Col}, s.length ≤ n → readCols s = some l → ∀ x ∈ l, ColI x ∧ x.2.1.size ≤ n ∧ x.2.2.2.2.2.2.size ≤ n
  | 0, s, l, hn, h => by
    have : s = [] := List.length_eq_zero_iff.1 (by omega)
    subst this
    rw [readCols_nil] at h
    cases h
    intro x hx
    cases hx
  | n + 1, s, l, hn, h => by
    by_cases e : s = []
    · subst e
      rw [readCols_nil] at h
      cases h
      intro x hx
      cases hx
    · cases hc : readCol s with
      | none => rw [readCols_none e hc] at h; cases h
      | some p =>
        obtain ⟨c, b⟩ := p
        rw [readCols_cons e hc] at h
        have hlt := readCol_lt hc
        cases hb : readCols b with
        | none => rw [hb] at h; cases h
        | some m =>
          rw [hb] at h
          cases h
          intro x hx
          rcases List.mem_cons.1 hx with rfl | hx
          · have := readCol_ok hc
            exact ⟨this.1, by omega, by omega⟩
          · have := readCols_ok n (by omega) hb x hx
            exact ⟨this.1, by omega, by omega⟩
theorem allNum_ok : ∀ {l : List (List UInt8)} {m : List Int}, allNum l = some m → m.length = l.length ∧ ∀ x ∈ m, I64 x
  | [], m, h => by simp only [allNum] at h; cases h; exact ⟨rfl, fun x hx => by cases hx⟩
  | y :: l, m, h => by
    simp only [allNum] at h
    cases hy : numOf y with
    | none => rw [hy] at h; cases h
    | some n =>
      rw [hy] at h
      simp only [Option.bind_some] at h
      cases hr : allNum l with
      | none => rw [hr] at h; cases h
      | some k =>
        rw [hr] at h
        cases h
        have := allNum_ok hr
        refine ⟨by simp [this.1], fun x hx => ?_⟩
        rcases List.mem_cons.1 hx with rfl | hx
        · exact numOf_bounds hy
        · exact this.2 x hx
theorem readAct_ints {a : List UInt8} {x : Actn} (h : readAct a = some x) : Ints x := by
  unfold readAct at h
  split at h
  · cases hn : numOf (cutL 32 (rest1 a)).2.1 with
    | none => rw [hn] at h; cases h
    | some n => rw [hn] at h; cases h; exact ⟨numOf_bounds hn, (fun _ q => by cases q), (fun _ q => by cases q), i64_0⟩
  · split at h
    · cases h; exact ⟨i64_0, (fun _ q => by cases q), (fun _ q => by cases q), i64_0⟩
    · split at h
      · cases hn : readPls (cutL 32 (rest1 a)).2.1 with
        | none => rw [hn] at h; cases h
        | some n => rw [hn] at h; cases h; exact ⟨i64_0, (allNum_ok hn).2, (fun _ q => by cases q), i64_0⟩
      · split at h
        · cases hn : numOf (cutL 32 (rest1 a)).1 with
          | none => rw [hn] at h; cases h
          | some n =>
            rw [hn] at h
            simp only [Option.bind_some] at h
            cases hc : readCols (cutL 32 (rest1 a)).2.1 with
            | none => rw [hc] at h; cases h
            | some l => rw [hc] at h; cases h; exact ⟨i64_0, (fun _ q => by cases q), (fun y hy => (readCols_ok _ (Nat.le_refl _) hc y hy).1), numOf_bounds hn⟩
        · cases h
end Go.Proofs.YtfppidnfomelpaaGreatDoor

namespace Go.Proofs.YtfppidnfomelpaaGreatDoor
open Go.Lib

theorem cutL_two (c : UInt8) : ∀ s : List UInt8, ((cutL c s).2.2 = true ∧ (cutL c s).1.length + 1 + (cutL c s).2.1.length = s.length) ∨ ((cutL c s).2.2 = false ∧ (cutL c s).2.1 = [])
  | [] => .inr ⟨rfl, rfl⟩
  | b :: l => by
    have ih := cutL_two c l
    unfold cutL
    split
    · left; exact ⟨rfl, by simp; omega⟩
    · rcases ih with ⟨h1, h2⟩ | ⟨h1, h2⟩
      · left; exact ⟨h1, by simp only [List.length_cons]; omega⟩
      · right; exact ⟨h1, h2⟩
theorem readAct_nil : readAct [] = none := by decide
theorem lines_two : ∀ (n : Nat) {t : List UInt8} {A : List Actn}, t.length ≤ n → allActs (linesT t) = some A → 2 * A.length ≤ t.length + 1 ∧ ∀ a ∈ A, ∃ x : List UInt8, x.length ≤ t.length ∧ readAct x = some a
  | 0, t, A, hn, h => by
    have : t = [] := List.length_eq_zero_iff.1 (by omega)
    subst this
    rw [linesT_nil] at h
    simp only [allActs] at h
    cases h
    exact ⟨by simp, fun a ha => by cases ha⟩
  | n + 1, t, A, hn, h => by
    by_cases e : t = []
    · subst e
      rw [linesT_nil] at h
      simp only [allActs] at h
      cases h
      exact ⟨by simp, fun a ha => by cases ha⟩
    · rw [linesT_cons e] at h
      simp only [allActs] at h
      have hlt := cutL_lt 10 e
      have hle := cutL_le 10 t
      cases hy : readAct (cutL 10 t).1 with
      | none => rw [hy] at h; cases h
      | some y =>
        rw [hy] at h
        simp only [Option.bind_some] at h
        cases hr : allActs (linesT (cutL 10 t).2.1) with
        | none => rw [hr] at h; cases h
        | some M =>
          rw [hr] at h
          cases h
          have ih := lines_two n (by omega) hr
          have hne : (cutL 10 t).1 ≠ [] := fun e0 => by rw [e0, readAct_nil] at hy; cases hy
          have hpos : 0 < (cutL 10 t).1.length := List.length_pos_iff.2 hne
          refine ⟨?_, fun a ha => ?_⟩
          · have := ih.1
            simp only [List.length_cons]
            rcases cutL_two 10 t with ⟨_, h2⟩ | ⟨_, h2⟩
            · omega
            · rw [h2] at this
              simp only [List.length_nil] at this
              have : 0 < t.length := List.length_pos_iff.2 e
              omega
          · rcases List.mem_cons.1 ha with rfl | ha
            · exact ⟨_, by omega, hy⟩
            · obtain ⟨x, hx, hxa⟩ := ih.2 a ha
              exact ⟨x, by omega, hxa⟩
theorem pls_two : ∀ (n : Nat) {s : List UInt8} {m : List Int}, s.length ≤ n → allNum (splitT 44 s) = some m → 2 * m.length ≤ s.length + 1
  | n, s, m, hn, h => by
    rw [splitT] at h
    rcases cutL_two 44 s with ⟨h1, h2⟩ | ⟨h1, h2⟩
    · rw [dif_pos h1] at h
      simp only [allNum] at h
      cases hy : numOf (cutL 44 s).1 with
      | none => rw [hy] at h; cases h
      | some y =>
        rw [hy] at h
        simp only [Option.bind_some] at h
        have hpos : 0 < (cutL 44 s).1.length := List.length_pos_iff.2 (numOf_ne hy)
        cases hr : allNum (splitT 44 (cutL 44 s).2.1) with
        | none => rw [hr] at h; cases h
        | some k =>
          rw [hr] at h
          cases h
          cases n with
          | zero => omega
          | succ n =>
            have := pls_two n (by omega) hr
            simp only [List.length_cons]
            omega
    · rw [dif_neg (by rw [h1]; simp)] at h
      simp only [allNum] at h
      cases hy : numOf s with
      | none => rw [hy] at h; cases h
      | some y =>
        rw [hy] at h
        cases h
        have hpos : 0 < s.length := List.length_pos_iff.2 (numOf_ne hy)
        simp only [List.length_cons, List.length_nil]
        omega
theorem fine_small {p : ByteArray} {k r nx : Int} {M : List Int} {C : List Col} (hp : p.size ≤ 1000000) (hm : M.length ≤ 600000) (hc : ∀ x ∈ C, x.2.1.size ≤ 1000000 ∧ x.2.2.2.2.2.2.size ≤ 1000000) : Fine (k, p, r, M, C, nx) :=
  ⟨by show p.size ≤ _; unfold maxLen; omega, hm, fun x hx => ⟨by have := (hc x hx).1; unfold maxLen; omega, by have := (hc x hx).2; unfold maxLen; omega⟩⟩
theorem readAct_fine {a : List UInt8} {x : Actn} (hl : a.length ≤ 1000000) (h : readAct a = some x) : Fine x := by
  have r1 := rest1_le a
  have r2 := cutL_le 32 (rest1 a)
  have hb : (bA (cutL 32 (rest1 a)).1).size ≤ 1000000 := by rw [bA_size]; omega
  unfold readAct at h
  split at h
  · cases hn : numOf (cutL 32 (rest1 a)).2.1 with
    | none => rw [hn] at h; cases h
    | some n => rw [hn] at h; cases h; exact fine_small hb (Nat.zero_le _) (fun _ q => by cases q)
  · split at h
    · cases h; exact fine_small hb (Nat.zero_le _) (fun _ q => by cases q)
    · split at h
      · cases hn : readPls (cutL 32 (rest1 a)).2.1 with
        | none => rw [hn] at h; cases h
        | some n =>
          rw [hn] at h
          cases h
          have := pls_two _ (Nat.le_refl _) hn
          exact fine_small hb (by omega) (fun _ q => by cases q)
      · split at h
        · cases hn : numOf (cutL 32 (rest1 a)).1 with
          | none => rw [hn] at h; cases h
          | some n =>
            rw [hn] at h
            simp only [Option.bind_some] at h
            cases hc : readCols (cutL 32 (rest1 a)).2.1 with
            | none => rw [hc] at h; cases h
            | some l =>
              rw [hc] at h
              cases h
              exact fine_small (by rw [bA_size]; exact Nat.zero_le _) (Nat.zero_le _) (fun y hy => (readCols_ok 1000000 (by omega) hc y hy).2)
        · cases h
/-- What Parse needs of what was read (hF of parse_any_log). -/
theorem read_bounds {l : List UInt8} (hl : l.length ≤ 1000000) : ∀ tx rd A, readCom l = some (tx, rd, A) → A.length ≤ 600000 ∧ tx.size ≤ maxLen ∧ ∀ a ∈ A, Fine a ∧ (rightA a = true → LineOk a) := by
  intro tx rd A h
  unfold readCom at h
  have q1 := cutL_le 10 l
  have q2 := rest1_le (cutL 10 l).1
  have q3 := cutL_le 32 (rest1 (cutL 10 l).1)
  cases hr : allActs (linesT (cutL 10 l).2.1) with
  | none => rw [hr] at h; cases h
  | some M =>
    rw [hr] at h
    cases h
    obtain ⟨h1, h2⟩ := lines_two _ (Nat.le_refl _) hr
    refine ⟨by omega, by rw [bA_size]; unfold maxLen; omega, fun a ha => ?_⟩
    obtain ⟨x, hx, hxa⟩ := h2 a ha
    exact ⟨readAct_fine (by omega) hxa, fun hra => lineOk_of hra (readAct_ints hxa)⟩
end Go.Proofs.YtfppidnfomelpaaGreatDoor

namespace Go.Proofs.YtfppidnfomelpaaGreatDoor
open Go.RowKit Go.Proofs Go.Lib Go.Joins

theorem parse_log (s : ByteArray) (w : World) (hs : s.size ≤ 1000000) (he : ErrB w) (hw : NcB w) (ht : TabB w) : Calls Tryz.prog 7 #[.string s] w (ParsePost s.data.toList s w) :=
  parse_any_log places_ok s w hs he hw ht (read_bounds (by rw [size_list]; exact hs))
theorem pick_any (a : Int) (n : Nat) (hn : 0 < n) (hn2 : n ≤ 1000000) (w : World) :
    Calls Tryz.prog 10 #[.int .i64 a, .int .i64 n] w fun e w' => ∃ r : Nat, r < n ∧ e = .returned (.int .i64 r) ∧ w' = w := by
  have hw : (0 : Int) ≤ IntKind.u64.wrap a ∧ IntKind.u64.wrap a < 18446744073709551616 := by rw [IntKind.wrap_u64]; omega
  have hz : ((n : Int) == 0) = false := by simp; omega
  have hnz : ¬ (n : Int) = 0 := by omega
  go_enter Tryz.func10, Tryz.ntmps10
  go_wp2
  go_ret
  have hm0 : 0 ≤ IntKind.u64.wrap a % (n : Int) := Int.emod_nonneg _ hnz
  have hm1 : IntKind.u64.wrap a % (n : Int) < (n : Int) := Int.emod_lt_of_pos _ (by omega)
  refine ⟨(IntKind.u64.wrap a % (n : Int)).toNat, by omega, ret_int ?_, rfl⟩
  unfold wrap64
  omega
theorem print_len {tx : ByteArray} {rd : Bool} {A : List Actn} (h : printOk (tx, rd, A) = true) (hl : ∀ a ∈ A, LineOk a) (hn : A.length ≤ 12) : 0 < (printB (tx, rd, A)).size ∧ (printB (tx, rd, A)).size ≤ 1000000 := by
  have e : (printB (tx, rd, A)).size = (headB tx rd).size + (linesL A).length := by
    show (printL (tx, rd, A)).toArray.size = _
    rw [List.size_toArray, printL, List.length_append, size_list]
  simp only [printOk, Bool.and_eq_true] at h
  have h1 := headB_size rd (Nat.le_trans (name_size h.1) (by decide))
  have h2 := linesL_len hl
  have h3 : 0 < (headB tx rd).size := by
    unfold headB
    have e9 : (⟨#[10]⟩ : ByteArray).size = 1 := rfl
    rw [bsize_app, e9]
    omega
  omega
theorem print_end {c : Com} : ∃ l, (printB c).data.toList = l ++ [10] := by
  obtain ⟨tx, rd, A⟩ := c
  have e : (printB (tx, rd, A)).data.toList = (headB tx rd).data.toList ++ linesL A := by show (printL _).toArray.toList = _; rfl
  rw [e]
  rcases List.eq_nil_or_concat A with rfl | ⟨B, a, rfl⟩
  · refine ⟨(⟨#[99, 111, 109, 109, 105, 116, 32]⟩ ++ tx ++ ⟨#[32]⟩ ++ eitherB rd readsW blindW : ByteArray).data.toList, ?_⟩
    have : linesL [] = [] := rfl
    rw [this, List.append_nil, headB]
    simp
  · refine ⟨(headB tx rd).data.toList ++ (linesL B ++ (lineB a).data.toList), ?_⟩
    rw [List.concat_eq_append, linesL_snoc]
    simp

set_option maxHeartbeats 2000000 in
set_option maxRecDepth 100000 in
theorem alike_same (tx : ByteArray) (rd : Bool) (A : List Actn) (aa : Option Addr) (an ac : Nat) (ba : Option Addr) (bn bc : Nat) (w : World) (h1 : ActsAt w (.slice aa an ac) A) (h2 : ActsAt w (.slice ba bn bc) A) (hok : printOk (tx, rd, A) = true) (hn : A.length ≤ 600000) (htx : tx.size ≤ maxLen) (hl : ∀ a ∈ A, rightA a = true → LineOk a) (hw : NcB w) (ht : TabB w) :
    Calls Tryz.prog 9 #[.agg #[.string tx, .bool rd, .slice aa an ac], .agg #[.string tx, .bool rd, .slice ba bn bc]] w fun e w' => e = .returned (.bool true) ∧ Below w.heap.size w w' := by
  have e1 := h1.len
  have e2 := h2.len
  subst e1 e2
  have HP : ∀ (va : Option Addr) (vc : Nat), ActsAt w (.slice va A.length vc) A → Hid (∀ W, Below w.heap.size w W → Calls Tryz.prog 8 #[.agg #[.string tx, .bool rd, .slice va A.length vc]] W fun e w' => e = .returned (.tuple #[.string (printB (tx, rd, A)), .nilIface]) ∧ Below W.heap.size W w') := fun va vc hv => mkH (fun W hW => by
    have := print_any tx rd A va A.length vc W (hv.below hW) hn htx hl (hw.below hW) (ht.below hW)
    unfold printE at this
    rw [hok] at this
    exact this)
  have HP1 := HP aa ac h1
  have HP2 := HP ba bc h2
  generalize printB (tx, rd, A) = pb at *
  obtain ⟨y0, y1, y2, y3⟩ := two_alloc w (.cells #[.string tx, .bool rd, .slice aa A.length ac] 24) (.cells #[.string tx, .bool rd, .slice ba A.length bc] 24)
  have HY0 := mkH y0
  have HY1 := mkH y1
  have HY2 := mkH y2
  have HY3 := mkH y3
  clear y0 y1 y2 y3 h1 h2 hok hl hw ht hn htx HP
  generalize A.length = n at *
  go_enter Tryz.func9, Tryz.ntmps9
  go_wp2_with fail
  refine (HP1.out _ HY3.out).mono ?_
  rintro e w3 ⟨rfl, hb3⟩
  have HB3 := mkH (Below.ups HY3.out hb3)
  have HA3 := mkH ((hb3.block _ (blk_lt HY1.out)).trans HY1.out)
  have HC3 := mkH ((hb3.block _ (blk_lt HY2.out)).trans HY2.out)
  clear hb3 HY0 HY1 HY2 HY3 HP1
  obtain ⟨q0, q1, q2, qf⟩ := cells3 HC3.out
  go_wp2_with fail
  refine (HP2.out _ HB3.out).mono ?_
  rintro e w4 ⟨rfl, hb4⟩
  have HB4 := mkH (Below.ups HB3.out hb4)
  obtain ⟨r0, r1, r2, rf⟩ := cells3 ((hb4.block _ (blk_lt HA3.out)).trans HA3.out)
  obtain ⟨s0, s1, s2, sf⟩ := cells3 ((hb4.block _ (blk_lt HC3.out)).trans HC3.out)
  clear hb4 HA3 HC3 HB3 HP2 q0 q1 q2 qf
  go_wp2_with fail
  go_ret
  exact ⟨by simp, HB4.out⟩
end Go.Proofs.YtfppidnfomelpaaGreatDoor
