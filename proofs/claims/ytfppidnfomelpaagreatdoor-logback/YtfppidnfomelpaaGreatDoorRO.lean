/- What log.Parse does, said of every call, if readPlaces does what it should. -/
import Derived.Test.YtfppidnfomelpaaGreatDoorRN
import Derived.Test.YtfppidnfomelpaaGreatDoorP8
namespace Go.Proofs.YtfppidnfomelpaaGreatDoor
open Go.RowKit Go.Proofs Go.Lib Go.Joins

/-- What Parse takes: what Print gives again. -/
def Takes (l : List UInt8) (s : ByteArray) (c : Com) : Prop := readCom l = some c ∧ printOk c = true ∧ printB c = s
def ParsePost (l : List UInt8) (s : ByteArray) (w : World) (e : Ending) (w' : World) : Prop :=
  Below w.heap.size w w' ∧ ((∃ (tx : ByteArray) (rd : Bool) (A : List Actn) (aa : Option Addr) (an ac : Nat), Takes l s (tx, rd, A) ∧ e = .returned (.tuple #[.agg #[.string tx, .bool rd, .slice aa an ac], .nilIface]) ∧ ActsAt w' (.slice aa an ac) A) ∨
    ((∀ c, ¬ Takes l s c) ∧ e = .returned (.tuple #[.agg #[.string ⟨#[]⟩, .bool false, .slice none 0 0], .iface 73 (.int .i64 3)])))

theorem own_boxset {W : World} {base : Nat} {t T : TypeId} {z : Nat} {v : Value} {n : Nat} {xs : List Value} {b i : Nat} {u : Value} {cs : Array Value} (h : W.ownsRow base t z v n xs) (hb : W.heap[b]? = some (.cells cs T (0, 0))) (hne : t ≠ T) : (W.setCell ⟨b, i, none⟩ u).ownsRow base t z v n xs :=
  own_keep h (grown_setC W b i u) (fun k hk e => by
    obtain ⟨c1, h1⟩ := own_at h hk
    injection e with e
    subst e
    rw [h1] at hb
    injection hb with hb
    injection hb with _ hb
    exact hne hb)
theorem ba_of_list {a b : ByteArray} (h : a.toList = b.toList) : a = b := by
  rw [ByteArray.toList_eq, ByteArray.toList_eq] at h
  obtain ⟨x⟩ := a
  obtain ⟨y⟩ := b
  have h' : x = y := Array.toList_inj.1 h
  rw [h']
/-- Actions L lie at v, in rows of their own. -/
def OwnL (W : World) (v : Value) (L : List ActQ) : Prop := W.ownsRow 0 62 6 v L.length (cellsQ L) ∧ ∀ q ∈ L, OwnQ 0 W q
theorem OwnL.up {W Y : World} {v : Value} {L : List ActQ} (h : OwnL W v L) (hb : Below W.heap.size W Y) : OwnL Y v L := ⟨own_up h.1 hb, fun q hq => ⟨own_up (h.2 q hq).1 hb, own_up (h.2 q hq).2 hb⟩⟩
theorem OwnL.set {W : World} {v u : Value} {L : List ActQ} {b i : Nat} {cs : Array Value} (h : OwnL W v L) (hb : W.heap[b]? = some (.cells cs 24 (0, 0))) : OwnL (W.setCell ⟨b, i, none⟩ u) v L :=
  ⟨own_boxset h.1 hb (by decide), fun q hq => ⟨own_boxset (h.2 q hq).1 hb (by decide), own_boxset (h.2 q hq).2 hb (by decide)⟩⟩

set_option maxHeartbeats 4000000 in
set_option maxRecDepth 100000 in
theorem parse_any_log (hP : PlacesOk) (s : ByteArray) (w : World) (hs : s.size ≤ 1000000) (he : ErrB w) (hw : NcB w) (ht : TabB w)
    (hF : ∀ tx rd A, readCom s.data.toList = some (tx, rd, A) → A.length ≤ 600000 ∧ tx.size ≤ maxLen ∧ ∀ a ∈ A, Fine a ∧ (rightA a = true → LineOk a)) :
    Calls Tryz.prog 7 #[.string s] w (ParsePost s.data.toList s w) := by
  have HB1 : Hid (Below w.heap.size w (w.alloc (.cells #[.string ⟨#[]⟩, .bool false, .slice none 0 0] 24))) := mkH ((Below.refl _ _).alloc (Nat.le_refl _) _)
  have HZ1 := mkH (heap_alloc_new w (.cells #[.string ⟨#[]⟩, .bool false, .slice none 0 0] 24))
  have HR := mkH (read_any hP s (w.alloc (.cells #[.string ⟨#[]⟩, .bool false, .slice none 0 0] 24)) hs (he.below HB1.out))
  generalize hl : s.data.toList = l at *
  cases hc : readCom l with
  | none =>
    have HR' : Hid (Calls Tryz.prog 21 #[.string s] (w.alloc (.cells #[.string ⟨#[]⟩, .bool false, .slice none 0 0] 24)) fun e w' => ∃ (tx : ByteArray) (rd : Bool) (aa : Option Addr) (an ac : Nat), e = .returned (.tuple #[.agg #[.string tx, .bool rd, .slice aa an ac], .bool false]) ∧ Below w.heap.size w w' ∧ w'.heap[w.heap.size]? = some (.cells #[.string ⟨#[]⟩, .bool false, .slice none 0 0] 24)) := mkH (HR.out.mono (by
      rintro e w' ⟨tx, rd, aa, an, ac, ok, rfl, hb, ⟨_, L, h, _⟩ | ⟨rfl, _⟩⟩
      · rw [hc] at h; cases h
      · exact ⟨tx, rd, aa, an, ac, rfl, Below.ups HB1.out hb, (hb.block _ (blk_lt HZ1.out)).trans HZ1.out⟩))
    have HN : Hid (∀ c, ¬ Takes l s c) := mkH (fun c h => by have := h.1; rw [hc] at this; cases this)
    clear HR hc hF he hw ht hl HZ1 HB1
    go_enter Tryz.func7, Tryz.ntmps7
    go_wp2_with (first
      | (go_at_call 21; refine HR'.out.mono ?_; rintro e w2 ⟨tx, rd, aa, an, ac, rfl, hb2, hz2⟩
         have HB3 : Hid (Below w.heap.size w (w2.alloc (.cells #[.string tx, .bool rd, .slice aa an ac] 24))) := mkH (hb2.alloc hb2.size _)
         have HZ3 := mkH ((Below.heap_alloc w2 (.cells #[.string tx, .bool rd, .slice aa an ac] 24) _ (blk_lt hz2)).trans hz2)
         obtain ⟨x0, x1, x2, xf⟩ := cells3 HZ3.out
         clear hb2 hz2))
    clear x0 x1 x2 xf
    obtain ⟨z0, z1, z2⟩ := cell3 (put3 _ _ _ _ _ (.string ⟨#[]⟩) (.bool false) (.slice none 0 0) _ HZ3.out)
    refine bodyPost_ret (v := .tuple #[.agg #[.string ⟨#[]⟩, .bool false, .slice none 0 0], .iface 73 (.int .i64 3)]) (by simp [results, Tryz.results7, go_sem, z0, z1, z2]) rfl ⟨below_set3 HB3.out (Nat.le_refl _) _ _ _, .inr ⟨HN.out, rfl⟩⟩
  | some c =>
    obtain ⟨tx, rd, A⟩ := c
    obtain ⟨hA, htx, hfa⟩ := hF tx rd A hc
    have HR' : Hid (Calls Tryz.prog 21 #[.string s] (w.alloc (.cells #[.string ⟨#[]⟩, .bool false, .slice none 0 0] 24)) fun e w' => ∃ (aa : Option Addr) (an ac : Nat) (L : List ActQ), e = .returned (.tuple #[.agg #[.string tx, .bool rd, .slice aa an ac], .bool true]) ∧ Below w.heap.size w w' ∧ w'.heap[w.heap.size]? = some (.cells #[.string ⟨#[]⟩, .bool false, .slice none 0 0] 24) ∧ L.map (·.1) = A ∧ OwnL w' (.slice aa an ac) L) := mkH (HR.out.mono (by
      rintro e w' ⟨tx', rd', aa, an, ac, ok, rfl, hb, ⟨rfl, L, h, han, h1, h2⟩ | ⟨rfl, h⟩⟩
      · rw [hc] at h
        simp only [Option.some.injEq, Prod.mk.injEq] at h
        obtain ⟨rfl, rfl, rfl⟩ := h
        exact ⟨aa, an, ac, L, rfl, Below.ups HB1.out hb, (hb.block _ (blk_lt HZ1.out)).trans HZ1.out, rfl, h1, h2⟩
      · rw [hc] at h; cases h))
    have HAO : Hid (∀ W v L, L.map (·.1) = A → OwnL W v L → ActsAt W v A) := mkH (fun W v L e h => by
      subst e
      exact acts_own h.1 h.2 (fun q hq => (hfa q.1 (List.mem_map_of_mem hq)).1))
    have HPR : Hid (∀ W aa an ac L, L.map (·.1) = A → OwnL W (.slice aa an ac) L → Below w.heap.size w W → Calls Tryz.prog 8 #[.agg #[.string tx, .bool rd, .slice aa an ac]] W fun e w' => e = .returned (printE (tx, rd, A)) ∧ Below W.heap.size W w') := mkH (fun W aa an ac L e h hb => print_any tx rd A aa an ac W (HAO.out W _ L e h) hA htx (fun a ha => (hfa a ha).2) (hw.below hb) (ht.below hb))
    have HC := mkH hc
    clear HR hF he hw ht hl hc hfa HZ1 HB1
    have HN : Hid (printOk (tx, rd, A) = false ∨ printB (tx, rd, A) ≠ s → ∀ c, ¬ Takes l s c) := mkH (fun h c hk => by
      have h1 := hk.1
      rw [HC.out] at h1
      cases h1
      rcases h with h | h
      · rw [hk.2.1] at h; cases h
      · exact h hk.2.2)
    cases hp : printOk (tx, rd, A) with
    | false =>
      have HPE : Hid (printE (tx, rd, A) = .tuple #[.string ⟨#[]⟩, .iface 73 (.int .i64 1)]) := mkH (by unfold printE; rw [hp]; rfl)
      have HN' := mkH (HN.out (.inl hp))
      clear HN hp
      go_enter Tryz.func7, Tryz.ntmps7
      go_wp2_with (first
        | (go_at_call 21; refine HR'.out.mono ?_; rintro e w2 ⟨aa, an, ac, L, rfl, hb2, hz2, hL, hO⟩
           have HB3 : Hid (Below w.heap.size w (w2.alloc (.cells #[.string tx, .bool rd, .slice aa an ac] 24))) := mkH (hb2.alloc hb2.size _)
           have HZ3 := mkH ((Below.heap_alloc w2 (.cells #[.string tx, .bool rd, .slice aa an ac] 24) _ (blk_lt hz2)).trans hz2)
           have HP4 := mkH (HPR.out _ _ _ _ L hL (hO.up ((Below.refl _ _).alloc (Nat.le_refl _) _)) HB3.out)
           clear hb2 hz2 hO hL)
        | (go_at_call 8; refine HP4.out.mono ?_; rintro e w5 ⟨rfl, hb5⟩; rw [HPE.out]
           have HB5 := mkH (Below.ups HB3.out hb5)
           have HZ5 := mkH ((hb5.block _ (blk_lt HZ3.out)).trans HZ3.out)
           obtain ⟨x0, x1, x2, xf⟩ := cells3 HZ5.out
           clear hb5))
      clear x0 x1 x2 xf
      obtain ⟨z0, z1, z2⟩ := cell3 (put3 _ _ _ _ _ (.string ⟨#[]⟩) (.bool false) (.slice none 0 0) _ HZ5.out)
      refine bodyPost_ret (v := .tuple #[.agg #[.string ⟨#[]⟩, .bool false, .slice none 0 0], .iface 73 (.int .i64 3)]) (by simp [results, Tryz.results7, go_sem, z0, z1, z2]) rfl ⟨below_set3 HB5.out (Nat.le_refl _) _ _ _, .inr ⟨HN'.out, rfl⟩⟩
    | true =>
      have HPE : Hid (printE (tx, rd, A) = .tuple #[.string (printB (tx, rd, A)), .nilIface]) := mkH (by unfold printE; rw [hp]; rfl)
      generalize hpb : printB (tx, rd, A) = pb at *
      have HN' := mkH (fun h => HN.out (.inr h))
      have HTK : Hid (pb = s → Takes l s (tx, rd, A)) := mkH (fun h => ⟨HC.out, hp, hpb.trans h⟩)
      clear HN hp hpb
      go_enter Tryz.func7, Tryz.ntmps7
      go_wp2_with (first
        | (go_at_call 21; refine HR'.out.mono ?_; rintro e w2 ⟨aa, an, ac, L, rfl, hb2, hz2, hL, hO⟩
           have HB3 : Hid (Below w.heap.size w (w2.alloc (.cells #[.string tx, .bool rd, .slice aa an ac] 24))) := mkH (hb2.alloc hb2.size _)
           have HZ3 := mkH ((Below.heap_alloc w2 (.cells #[.string tx, .bool rd, .slice aa an ac] 24) _ (blk_lt hz2)).trans hz2)
           have HC3 := mkH (heap_alloc_new w2 (.cells #[.string tx, .bool rd, .slice aa an ac] 24))
           have HO3 := mkH (hO.up ((Below.refl _ _).alloc (Nat.le_refl _) (.cells #[.string tx, .bool rd, .slice aa an ac] 24)))
           have HP4 := mkH (HPR.out _ _ _ _ L hL HO3.out HB3.out)
           have HL := mkH hL
           have hlt : w.heap.size < w2.heap.size := blk_lt hz2
           clear hb2 hz2 hO hL)
        | (go_at_call 8; refine HP4.out.mono ?_; rintro e w5 ⟨rfl, hb5⟩; rw [HPE.out]
           have HB5 := mkH (Below.ups HB3.out hb5)
           have HZ5 := mkH ((hb5.block _ (blk_lt HZ3.out)).trans HZ3.out)
           have HC5 := mkH ((hb5.block _ (blk_lt HC3.out)).trans HC3.out)
           have HO5 := mkH (HO3.out.up hb5)
           obtain ⟨x0, x1, x2, xf⟩ := cells3 HZ5.out
           obtain ⟨c0, c1, c2, cf⟩ := cells3 HC5.out
           clear hb5))
      · rename_i hcmp
        clear x0 x1 x2 xf c0 c1 c2 cf
        obtain ⟨z0, z1, z2⟩ := cell3 (put3 _ _ _ _ _ (.string ⟨#[]⟩) (.bool false) (.slice none 0 0) _ HZ5.out)
        refine bodyPost_ret (v := .tuple #[.agg #[.string ⟨#[]⟩, .bool false, .slice none 0 0], .iface 73 (.int .i64 3)]) (by simp [results, Tryz.results7, go_sem, z0, z1, z2]) rfl ⟨below_set3 HB5.out (Nat.le_refl _) _ _ _, .inr ⟨HN'.out (fun e => ?_), rfl⟩⟩
        subst e
        simp at hcmp
      · rename_i hcmp
        clear x0 x1 x2 xf c0 c1 c2 cf
        obtain ⟨z0, z1, z2⟩ := cell3 (put3 _ _ _ _ _ (.string tx) (.bool rd) (.slice aa an ac) _ HZ5.out)
        refine bodyPost_ret (v := .tuple #[.agg #[.string tx, .bool rd, .slice aa an ac], .nilIface]) (by simp [results, Tryz.results7, go_sem, z0, z1, z2]) rfl ⟨below_set3 HB5.out (Nat.le_refl _) _ _ _, .inl ⟨tx, rd, A, aa, an, ac, HTK.out ?_, rfl, HAO.out _ _ L HL.out ?_⟩⟩
        · exact ba_of_list (by simpa using hcmp)
        · exact ((HO5.out.set HZ5.out).set (heap_setC _ _ 0 _ _ _ HZ5.out)).set (heap_setC _ _ 1 _ _ _ (heap_setC _ _ 0 _ _ _ HZ5.out))
end Go.Proofs.YtfppidnfomelpaaGreatDoor
