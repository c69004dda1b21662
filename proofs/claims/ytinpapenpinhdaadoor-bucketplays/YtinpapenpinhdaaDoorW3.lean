/- What List does, said of every call: keys, collected, those that begin so, in order. -/
import Derived.Test.YtinpapenpinhdaaDoorW2
import Derived.Shelf.SlIter.Nil
import Derived.Shelf.SlicesE.DeleteFunc
import Derived.Shelf.SortM.Plain
import Derived.Shelf.SortM.SortNone
import Derived.Lib.Walk
import Derived.Lib.Strings
import Derived.Lib.Slices
import Derived.Laws.Strings3
import Derived.Sort.KeysCollected
namespace Go.Proofs.YtinpapenpinhdaaDoor
open Go.RowKit Go.Maps Go.Sort Go.Shelf Go.Lib

/-- Texts lie in a row. -/
def Ss (w : World) (base : Nat) (v : Value) (L : List (List UInt8)) : Prop := ∃ a cap, v = .slice a L.length cap ∧ L.length ≤ cap ∧ (L ≠ [] → ∃ b, a = some ⟨b, 0, none⟩ ∧ base ≤ b ∧ b < w.heap.size ∧ Holds encStr w b 0 L.toArray)

theorem ss_of_row {w : World} {base : Nat} {v : Value} {L : List (List UInt8)} (h : w.ownsRow base 9 1 v L.length (L.map encStr)) : Ss w base v L := by
  obtain ⟨_, ⟨rfl, h0⟩ | ⟨g, cap, cur, rfl, hg, hh, hc, hm, hs, ht⟩⟩ := h
  · rw [List.length_eq_zero_iff.1 h0]
    exact ⟨_, _, rfl, Nat.le_refl _, fun h => absurd rfl h⟩
  · refine ⟨_, cap, rfl, hc, fun _ => ⟨g, rfl, hg, Nat.lt_of_not_le (fun hl => by rw [Array.getElem?_eq_none hl] at hh; cases hh), fun j hj => ?_⟩⟩
    have hj' : j < L.length := by simpa using hj
    have h1 : (cur.toList.take (L.length * 1))[j]? = some (encStr L[j]!) := by rw [ht, List.getElem?_map, List.getElem?_eq_getElem hj', getElem!_pos L j hj']; rfl
    rw [List.getElem?_take_of_lt (by omega)] at h1
    have e : L.toArray[j]! = L[j]! := by rw [getElem!_pos L j hj', getElem!_pos L.toArray j hj]; simp
    constructor
    · simp only [World.cell?, hh, Nat.zero_add, e]
      simpa using h1
    · simp [World.frozen?, hh]

theorem below_putRow {base blk off n : Nat} {w : World} (d : Array (List UInt8)) (h : base ≤ blk) : Below base w (putRow encStr (Sort.ahead w n) blk off d) :=
  ⟨rfl, rfl, rfl, by simp, fun k hk => by simp only [putRow, mapBlock, heap_ahead, Array.getElem?_modify]; rw [if_neg (by omega)]⟩
theorem below_grow {base : Nat} {w0 w : World} (os : Array Obj) (h : Below base w0 w) (hb : base ≤ w.heap.size) : Below base w0 (grow w os) :=
  h.trans ⟨rfl, rfl, rfl, by simp, fun k hk => heap_grow_old w os (by omega)⟩

set_option maxHeartbeats 1000000 in
theorem slHasPrefix_any (s p : ByteArray) (w : World) :
    Calls Tryd.prog 36 #[.string s, .string p] w fun e w' => e = .returned (.bool (Lib.hasPrefix s.data.toList p.data.toList)) ∧ w' = w := by
  rw [← Lib.hasPrefix_of_take, ← Lib.size_eq, ← Lib.size_eq]
  go_enter Tryd.func36, Tryd.ntmps36
  go_wp2
  · rename_i h
    go_ret
    refine ⟨?_, rfl⟩
    show Ending.returned (Value.bool ((s.extract 0 p.size).toList == p.toList)) = _
    rw [Lib.extract_toList, Lib.toList_data]
    simp [h]
  · rename_i h
    go_ret
    refine ⟨?_, rfl⟩
    show Ending.returned (Value.bool false) = _
    simp [h]
theorem hasPrefix_any (s p : ByteArray) (w : World) :
    Calls Tryd.prog 27 #[.string s, .string p] w fun e w' => e = .returned (.bool (Lib.hasPrefix s.data.toList p.data.toList)) ∧ w' = w := by
  go_enter Tryd.func27, Tryd.ntmps27
  go_wp2_with (go_at_call 36; refine (slHasPrefix_any _ _ _).mono ?_; rintro e w' ⟨rfl, hw⟩; rw [hw])
  go_ret
  exact ⟨rfl, rfl⟩

/-- The closure of List, in whatever world holds the prefix in its cell. -/
theorem gives26 (p : ByteArray) (x : List UInt8) (B : Nat) (W : World) (hc : W.cell? ⟨B, 0, none⟩ = some (.string p)) :
    FnGives Tryd.prog 26 #[.pointer (some ⟨B, 0, none⟩)] #[encStr x] (.bool (!Lib.hasPrefix x p.data.toList)) W := by
  show Calls Tryd.prog 26 #[.string ⟨x.toArray⟩, .pointer (some ⟨B, 0, none⟩)] W _
  have hp := hasPrefix_any ⟨x.toArray⟩ p
  simp only at hp
  have HP : Hid (∀ w, Calls Tryd.prog 27 #[.string ⟨x.toArray⟩, .string p] w fun e w' => e = .returned (.bool (Lib.hasPrefix x p.data.toList)) ∧ w' = w) := hp
  clear hp
  generalize Lib.hasPrefix x p.data.toList = r at HP ⊢
  go_enter Tryd.func26, Tryd.ntmps26
  go_wp2_with (go_at_call 27; refine (HP.out _).mono ?_; rintro e w' ⟨rfl, hw⟩; rw [hw])
  go_ret
  exact ⟨rfl, 0, rfl⟩
theorem pred26 (p : ByteArray) (B : Nat) (w : World) (hB : B < w.heap.size) (hcell : w.cell? ⟨B, 0, none⟩ = some (.string p)) :
    PredAt Tryd.prog 26 #[.pointer (some ⟨B, 0, none⟩)] encStr (fun x => !Lib.hasPrefix x p.data.toList) w :=
  fun W x hb => gives26 p x B W ((hb.cell (p := ⟨B, 0, none⟩) hB).trans hcell)
theorem over26 (p : ByteArray) (B blk off size : Nat) (w : World) (hB : B < w.heap.size) (hne : B ≠ blk) (hcell : w.cell? ⟨B, 0, none⟩ = some (.string p)) :
    PredOver Tryd.prog 26 #[.pointer (some ⟨B, 0, none⟩)] encStr (fun x => !Lib.hasPrefix x p.data.toList) blk off size w :=
  fun n os dk x _ => gives26 p x B _ (by
    unfold sortWorld
    rw [cell?_grow _ _ _ (by show B < (putRow _ _ _ _ _).heap.size; rw [size_putRow]; exact hB), cell?_putRow_other _ _ blk off _ _ (Or.inl hne)]
    exact hcell)

theorem keys_any (mb : Option Nat) (W : World) : Calls Tryd.prog 24 #[.map mb] W fun e w' => e = .returned (.func (.func 34) #[] #[.pointer (some ⟨W.heap.size, 0, none⟩)]) ∧ w' = W.alloc (.cells #[.map mb] 23) :=
  (callsIn_wide (n := 5)).1 (AnyZ.keys_in Tryd.layKeys Fence.wide 5 trivial rfl mb W)

theorem collect_any (mv : Value) (n : Nat) (D : DataW Unit) (w : World) (hT : Th w mv n D) (hn : n ≤ 1000) :
    Calls Tryd.prog 23 #[.func (.func 34) #[] #[.pointer (some ⟨w.heap.size, 0, none⟩)]] (w.alloc (.cells #[mv] 23)) fun e w' => ∃ v ss, e = .returned v ∧ ss.Perm (strKeys D) ∧ Ss w' (w.heap.size + 1) v ss ∧ w.heap.size + 1 ≤ w'.heap.size ∧ Below w.heap.size w w' := by
  have hba : Below w.heap.size w (w.alloc (.cells #[mv] 23)) := (Below.refl _ _).alloc (Nat.le_refl _) _
  rcases hT with ⟨rfl, rfl⟩ | ⟨m, rfl, hm⟩
  · have hseq : SeqGives Fence.wide 3 Tryd.prog 34 #[.pointer (some ⟨w.heap.size, 0, none⟩)] encStr (fun ss : List (List UInt8) => ss = []) 0 (w.alloc (.cells #[.map none] 23)) :=
      AnyZ.keys_gives_nil (ρ := Tryd.layKeys_ren) { Tryd.layKeys with } Fence.wide _ trivial rfl w.heap.size _ (by simp) (by simp)
    have hc := (callsIn_wide (n := 5)).1 (AnyZ.collect_in Tryd.layCollect Fence.wide 5 trivial trivial rfl (by omega) 34 #[.pointer (some ⟨w.heap.size, 0, none⟩)] trivial (enters_of Tryd.func34 (by kernel_rfl) rfl) _ 0 (Nat.zero_le _) (by omega) _ hseq)
    change Calls Tryd.prog 23 _ _ _ at hc
    refine hc.mono ?_
    rintro e w' ⟨v, ss, rfl, rfl, hrow, hnil, hb⟩
    exact ⟨v, [], rfl, List.Perm.refl _, (by simp at hrow; exact ss_of_row hrow), by simpa using hb.size, hba.trans (hb.mono (by simp))⟩
  · have hsz : Maps.size D ≤ n := hm.size_le
    have hbl := hm.lt
    have hseq : SeqGives Fence.wide 3 Tryd.prog 34 #[.pointer (some ⟨w.heap.size, 0, none⟩)] encStr (fun ss => ss.Perm (strKeys D)) (Maps.size D) (w.alloc (.cells #[.map (some m)] 23)) :=
      AnyZ.keys_gives (ρ := Tryd.layKeys_ren) { Tryd.layKeys with } Fence.wide _ trivial rfl (by omega) w.heap.size m n D _ (by simp) (by simp) (hm.alloc _)
    have hc := (callsIn_wide (n := 5)).1 (AnyZ.collect_in Tryd.layCollect Fence.wide 5 trivial trivial rfl (by omega) 34 #[.pointer (some ⟨w.heap.size, 0, none⟩)] trivial (enters_of Tryd.func34 (by kernel_rfl) rfl) _ _ (by unfold maxLen; omega) (by omega) _ hseq)
    change Calls Tryd.prog 23 _ _ _ at hc
    refine hc.mono ?_
    rintro e w' ⟨v, ss, rfl, hp, hrow, hnil, hb⟩
    exact ⟨v, ss, rfl, hp, (by simp at hrow; exact ss_of_row hrow), by simpa using hb.size, hba.trans (hb.mono (by simp))⟩

/-- slices.IndexFunc at nothing. -/
theorem index_zero (a : Option Addr) (cap : Nat) (fv : Value) (w : World) : Calls Tryd.prog 35 #[.slice a 0 cap, fv] w fun e w' => e = .returned (.int .i64 (-1)) ∧ w' = w := by
  go_enter Tryd.func35, Tryd.ntmps35
  go_wp2
  refine wp_loop_rounds 1 ?_
  rw [rounds_succ]
  go_wp2
  go_ret
  exact ⟨rfl, rfl⟩
theorem del_zero (a : Option Addr) (cap : Nat) (fv : Value) (w : World) : Calls Tryd.prog 25 #[.slice a 0 cap, fv] w fun e w' => e = .returned (.slice a 0 cap) ∧ w' = w := by
  have hi := index_zero a cap fv
  go_enter Tryd.func25, Tryd.ntmps25
  go_wp2_with (go_at_call 35; refine (hi _).mono ?_; rintro e w' ⟨rfl, hw⟩; rw [hw])
  go_ret
  exact ⟨rfl, rfl⟩

theorem del_any (base B : Nat) (p : ByteArray) (v : Value) (ss : List (List UInt8)) (w : World) (hS : Ss w base v ss) (hB : B < base) (hbw : base ≤ w.heap.size) (hcell : w.cell? ⟨B, 0, none⟩ = some (.string p)) (hn : ss.length ≤ 1000) :
    Calls Tryd.prog 25 #[v, .func (.func 26) #[] #[.pointer (some ⟨B, 0, none⟩)]] w fun e w' => ∃ v', e = .returned v' ∧ Ss w' base v' (ss.filter fun x => Lib.hasPrefix x p.data.toList) ∧ Below base w w' := by
  obtain ⟨a, cap, rfl, hc, hl⟩ := hS
  cases ss with
  | nil =>
    refine (del_zero a cap _ w).mono ?_
    rintro e w' ⟨rfl, rfl⟩
    exact ⟨_, rfl, ⟨_, _, rfl, Nat.zero_le _, fun h => absurd rfl h⟩, Below.refl _ _⟩
  | cons x0 ss0 =>
    generalize hss : x0 :: ss0 = ss at hc hl hn ⊢
    obtain ⟨b, rfl, hbb, hbl, hH⟩ := hl (by rw [← hss]; simp)
    have eg : ∀ args w, (callFunc 26 args).run Tryd.prog w = .ok (.enter 26 args) w := enters_of Tryd.func26 (by kernel_rfl) rfl
    have hcon := AnyE.slices_DeleteFunc Tryd.layDel encStr (fun _ => rfl) (fun x => !Lib.hasPrefix x p.data.toList) 26 #[.pointer (some ⟨B, 0, none⟩)] eg [] Tryd.zeroValue9 b 0 cap ss.toArray w
      (pred26 p B w (by omega) hcell) (over26 p B b 0 _ w (by omega) (by omega) hcell) hH (by simp; omega) (by simpa using hc)
    change Calls Tryd.prog 25 _ _ _ at hcon
    have hfe : (ss.toArray.toList.filter fun x => !(!Lib.hasPrefix x p.data.toList)) = ss.filter fun x => Lib.hasPrefix x p.data.toList := by simp
    rw [hfe] at hcon
    simp only [List.size_toArray] at hcon
    have hle : (ss.filter fun x => Lib.hasPrefix x p.data.toList).length ≤ ss.length := List.length_filter_le _ _
    generalize (ss.filter fun x => Lib.hasPrefix x p.data.toList) = r at hcon hle ⊢
    refine hcon.mono ?_
    rintro e w' ⟨rfl, q, rfl⟩
    refine ⟨_, rfl, ⟨_, cap, rfl, by omega, fun _ => ⟨b, rfl, hbb, by simpa using hbl, fun j hj => ?_⟩⟩, below_putRow _ hbb⟩
    have hj' : j < r.length := by simpa using hj
    have hh := holds_putRow encStr (Sort.ahead w q) b 0 ss.toArray (r ++ List.replicate (ss.length - r.length) []).toArray hH (by simp; omega) j (by simp; omega)
    rw [hh.1, hh.2]
    refine ⟨?_, rfl⟩
    rw [getElem!_pos _ j (by simp; omega), getElem!_pos _ j hj]
    simp [List.getElem_append_left hj']

theorem sort_any (base : Nat) (v : Value) (ss : List (List UInt8)) (w : World) (hS : Ss w base v ss) (hbw : base ≤ w.heap.size) (hn : ss.length ≤ 1000) :
    Calls Tryd.prog 28 #[v] w fun e w' => e = .returned (.tuple #[]) ∧ Ss w' base v (ss.mergeSort leB) ∧ Below base w w' := by
  obtain ⟨a, cap, rfl, hc, hl⟩ := hS
  cases ss with
  | nil =>
    have hcon := AnyM.slices_Sort_string_none Tryd.laySort a cap w
    change Calls Tryd.prog 28 _ _ _ at hcon
    refine hcon.mono ?_
    rintro e w' ⟨rfl, rfl⟩
    exact ⟨rfl, ⟨a, cap, by simp, by simp, fun h => absurd (by simp) h⟩, Below.refl _ _⟩
  | cons x0 ss0 =>
    generalize hss : x0 :: ss0 = ss at hc hl hn ⊢
    obtain ⟨b, rfl, hbb, hbl, hH⟩ := hl (by rw [← hss]; simp)
    have hcon := AnyM.slices_Sort_string Tryd.laySort b 0 cap ss w hH hbl (by omega)
    change Calls Tryd.prog 28 _ _ _ at hcon
    refine hcon.mono ?_
    rintro e w' ⟨rfl, q, os, rfl⟩
    refine ⟨rfl, ⟨_, cap, by simp, by simpa using hc, fun _ => ⟨b, rfl, hbb, by simp; omega, ?_⟩⟩, below_grow _ (below_putRow _ hbb) (by simpa using hbw)⟩
    exact holds_grow _ _ _ _ _ _ (by simpa using hbl) (holds_putRow encStr (Sort.ahead w q) b 0 ss.toArray _ hH (by simp))

/-- The keys that begin so, in order. -/
def listR (D : DataW Unit) (p : ByteArray) : List (List UInt8) := ((strKeys D).filter fun x => Lib.hasPrefix x p.data.toList).mergeSort leB
theorem strKeys_len {D : DataW Unit} (h : IsMap D) : (strKeys D).length = Maps.size D := by
  obtain ⟨es, rfl⟩ := h
  simp [strKeys, Maps.size]
theorem listR_len {D : DataW Unit} (h : IsMap D) : (listR D ByteArray.empty).length = Maps.size D := by
  unfold listR
  rw [List.length_mergeSort, ← strKeys_len h]
  congr 1
  refine List.filter_eq_self.2 fun x _ => ?_
  simp [Lib.hasPrefix, ByteArray.empty, ByteArray.emptyWithCapacity]
  exact List.nil_prefix
/-- What a List comes to. -/
def ListPost (D : DataW Unit) (p : ByteArray) (w : World) (e : Ending) (w' : World) : Prop := ∃ v, e = .returned v ∧ Ss w' w.heap.size v (listR D p) ∧ Below w.heap.size w w'
set_option maxRecDepth 100000 in
theorem list_any (bb n : Nat) (D : DataW Unit) (mv : Value) (p : ByteArray) (w : World) (h0 : w.cell? ⟨bb, 0, none⟩ = some mv) (hT : Th w mv n D) (hn : n ≤ 1000) :
    Calls Tryd.prog 12 #[.pointer (some ⟨bb, 0, none⟩), .string p] w (ListPost D p w) := by
  have hbb : bb < w.heap.size := World.block_lt_of_cell? w ⟨bb, 0, none⟩ h0
  have hmv : ∃ mb, mv = .map mb := by
    rcases hT with ⟨rfl, _⟩ | ⟨m, rfl, _⟩
    · exact ⟨_, rfl⟩
    · exact ⟨_, rfl⟩
  obtain ⟨mb, rfl⟩ := hmv
  have hall := all_any bb (.map mb) (w.alloc (.cells #[.string p] 9)) ((World.cell?_alloc_lt _ _ ⟨bb, 0, none⟩ hbb).trans h0)
  have hcol := collect_any (.map mb) n D (w.alloc (.cells #[.string p] 9)) (hT.alloc _) hn
  rw [show (w.alloc (.cells #[.string p] 9)).heap.size = w.heap.size + 1 by simp] at hcol
  have hsz : (strKeys D).length ≤ 1000 := by rw [strKeys_len hT.isMap]; exact Nat.le_trans hT.size_le hn
  have HC : Hid (((w.alloc (.cells #[.string p] 9)).cell? ⟨w.heap.size, 0, none⟩) = some (.string p)) := mkH (by simp)
  have HD : Hid (∀ (v : Value) (ss : List (List UInt8)) (w1 : World), ss.Perm (strKeys D) → Ss w1 (w.heap.size + 1 + 1) v ss → w.heap.size + 1 + 1 ≤ w1.heap.size → Below (w.heap.size + 1) (w.alloc (.cells #[.string p] 9)) w1 → Calls Tryd.prog 25 #[v, .func (.func 26) #[] #[.pointer (some ⟨w.heap.size, 0, none⟩)]] w1 fun e w' => ∃ v', e = .returned v' ∧ Ss w' (w.heap.size + 1 + 1) v' (ss.filter fun x => Lib.hasPrefix x p.data.toList) ∧ Below (w.heap.size + 1 + 1) w1 w') := by
    intro v ss w1 hp hS hs1 hb
    exact del_any _ _ p v ss w1 hS (by omega) hs1 ((hb.cell (p := ⟨w.heap.size, 0, none⟩) (by simp)).trans HC.out) (by rw [hp.length_eq]; exact hsz)
  have HS : Hid (∀ (v : Value) (ss : List (List UInt8)) (w1 : World), ss.Perm (strKeys D) → Ss w1 (w.heap.size + 1 + 1) v (ss.filter fun x => Lib.hasPrefix x p.data.toList) → w.heap.size + 1 + 1 ≤ w1.heap.size → Calls Tryd.prog 28 #[v] w1 fun e w' => e = .returned (.tuple #[]) ∧ Ss w' (w.heap.size + 1 + 1) v (listR D p) ∧ Below (w.heap.size + 1 + 1) w1 w') := by
    intro v ss w1 hp hS hb
    have hl : (ss.filter fun x => Lib.hasPrefix x p.data.toList).length ≤ 1000 := Nat.le_trans (List.length_filter_le _ _) (by rw [hp.length_eq]; exact hsz)
    refine (sort_any _ v _ w1 hS hb hl).mono ?_
    rintro e w' ⟨rfl, hS', hb'⟩
    refine ⟨rfl, ?_, hb'⟩
    unfold listR
    rw [← mergeSort_of_perm (hp.filter _)]
    exact hS'
  clear hT hn hsz h0
  go_enter Tryd.func12, Tryd.ntmps12
  go_wp2_with (first
    | (go_at_call 19; refine hall.mono ?_; rintro e w1 ⟨rfl, rfl⟩)
    | (go_at_call 24; refine (keys_any _ _).mono ?_; rintro e w1 ⟨rfl, rfl⟩)
    | (go_at_call 23; refine hcol.mono ?_; rintro e w2 ⟨v2, ss, rfl, hp2, hS2, hz2, hb2⟩)
    | (go_at_call 25; refine (HD.out _ _ _ hp2 hS2 hz2 hb2).mono ?_; rintro e w3 ⟨v3, rfl, hS3, hb3⟩)
    | (go_at_call 28; refine (HS.out _ _ _ hp2 hS3 (Nat.le_trans hz2 hb3.size)).mono ?_; rintro e w4 ⟨rfl, hS4, hb4⟩))
  go_ret
  refine ⟨_, rfl, ?_, ?_⟩
  · obtain ⟨a, c, e1, e2, h⟩ := hS4
    exact ⟨a, c, e1, e2, fun hn => by obtain ⟨b, x1, x2, x3⟩ := h hn; exact ⟨b, x1, by omega, x3⟩⟩
  · exact ((Below.refl _ w).alloc (Nat.le_refl _) _).trans ((hb2.mono (by simp)).trans ((hb3.mono (by omega)).trans (hb4.mono (by omega))))
end Go.Proofs.YtinpapenpinhdaaDoor
