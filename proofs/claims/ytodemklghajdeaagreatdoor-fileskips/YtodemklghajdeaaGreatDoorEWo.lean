/- What encode.Decode does, said of every call. -/
import Derived.Test.YtodemklghajdeaaGreatDoorEWn
namespace Go.Proofs.YtodemklghajdeaaGreatDoor.E
open Go.RowKit Go.Proofs Go.Shelf

def OkV (x : V) : Prop := -9223372036854775808 ≤ x.2.1 ∧ x.2.1 ≤ 9223372036854775807 ∧ x.2.2.size ≤ 1000000
theorem okV_zero : OkV (0, 0, str []) := ⟨by decide, by decide, by rw [show (0, 0, str []).2.2 = str [] from rfl, str_size]; decide⟩
theorem valueR_ok {k : Int} {s : St} (h : s.1.length ≤ 1000000) : OkV (valueR k s).1 := by
  unfold valueR
  split
  · have := unzig_in (numR_lt s)
    exact ⟨this.1, this.2, by rw [show (1, Lib.unzigzag (numR s).1, str []).2.2 = str [] from rfl, str_size]; decide⟩
  · refine ⟨by show (-9223372036854775808 : Int) ≤ 0; decide, by show (0 : Int) ≤ _; decide, ?_⟩
    show (str (bytesR (upToR 40 s).1 (upToR 40 s).2).1).size ≤ 1000000
    rw [str_size]
    have h2 := upToR_len 40 s
    unfold bytesR
    split
    · simp
    · simp; omega
theorem valuesR_ok {k : Int} : ∀ (n : Nat) (s : St), s.1.length ≤ 1000000 → ∀ x ∈ (valuesR k n s).1, OkV x
  | 0, _, _, x, h => by simp [valuesR] at h
  | n + 1, s, hs, x, h => by
    simp only [valuesR, List.mem_cons] at h
    rcases h with rfl | h
    · exact valueR_ok hs
    · exact valuesR_ok n _ (Nat.le_trans (valueR_len k s) hs) x h
theorem stepsR_ok : ∀ (n : Nat) (a : Int) (s : St), ∀ x ∈ (stepsR n a s).1, OkV x
  | 0, _, _, x, h => by simp [stepsR] at h
  | n + 1, a, s, x, h => by
    simp only [stepsR, List.mem_cons] at h
    rcases h with rfl | h
    · have := wr64_in (a + Lib.unzigzag (numR s).1)
      refine ⟨this.1, this.2, ?_⟩
      show (str []).size ≤ _
      rw [str_size]; decide
    · exact stepsR_ok n _ _ x h
theorem runsR_ok {k : Int} {n : Nat} : ∀ (f : Nat) (D : List V) (s : St), s.1.length ≤ 1000000 → (∀ x ∈ D, OkV x) → ∀ x ∈ (runsR k n f D s).1, OkV x
  | 0, D, s, _, hd, x, h => hd x h
  | f + 1, D, s, hs, hd, x, h => by
    by_cases hc : D.length < n ∧ s.2 = false
    · rw [runsR_go hc] at h
      have h1 := upToR_len ((n - D.length : Nat) : Int) s
      have h2 := valueR_len k (upToR ((n - D.length : Nat) : Int) s).2
      refine runsR_ok f _ _ (by unfold runSt; omega) (fun y hy => ?_) x h
      unfold runL at hy
      simp only [List.mem_append, List.mem_replicate] at hy
      rcases hy with hy | ⟨_, rfl⟩
      · exact hd y hy
      · exact valueR_ok (by omega)
    · rw [runsR_stop hc] at h; exact hd x h
theorem whichGo_ok {d : List V} (hd : ∀ x ∈ d, OkV x) : ∀ (n : Nat) (A : List V) (s : St), (∀ x ∈ A, OkV x) → ∀ x ∈ (whichGo d n A s).1, OkV x
  | 0, A, s, ha, x, h => ha x h
  | n + 1, A, s, ha, x, h => by
    rw [whichGo] at h
    split at h
    · simp at h
    · refine whichGo_ok hd n _ _ (fun y hy => ?_) x h
      simp only [List.mem_append, List.mem_singleton] at hy
      rcases hy with hy | rfl
      · exact ha y hy
      · cases e : d[(upToR ((d.length : Int) - 1) s).1]? with
        | none => exact okV_zero
        | some z => exact hd z (List.mem_of_getElem? e)
theorem knownR_ok {k : Int} {way n : Nat} {s : St} (h : s.1.length ≤ 1000000) : ∀ x ∈ (knownR k way n s).1, OkV x := by
  unfold knownR
  split
  · exact valuesR_ok n s h
  · split
    · exact runsR_ok _ _ _ h (by simp)
    · split
      · exact whichGo_ok (valuesR_ok _ _ (Nat.le_trans (upToR_len _ _) h)) _ _ _ (by simp)
      · split
        · exact stepsR_ok n 0 s
        · simp
theorem putAll_ok : ∀ (l : List V) (ps : List Nat) (vs : List V), (∀ x ∈ l, OkV x) → (∀ x ∈ vs, OkV x) → ∀ x ∈ putAll l ps vs, OkV x
  | l, [], vs, hl, _, x, h => by rw [putAll_nil'] at h; exact hl x h
  | l, q :: ps, [], hl, _, x, h => hl x h
  | l, q :: ps, y :: vs, hl, hv, x, h => by
    rw [putAll] at h
    refine putAll_ok _ ps vs (fun z hz => ?_) (fun z hz => hv z (by simp [hz])) x h
    rcases List.mem_or_eq_of_mem_set hz with h' | rfl
    · exact hl z h'
    · exact hv z (by simp)
theorem colR_ok {k : Int} {l : List UInt8} (h : l.length ≤ 1000000) : Okl (colR k l).1 ∧ (colR k l).1.length ≤ 60 := by
  have hn : ((colN l).1 : Int) ≤ 60 := by have := upToR_le 60 (l, false); unfold colN; omega
  unfold colR
  split
  · exact ⟨by intro x hx; simp at hx, by simp⟩
  · split
    · exact ⟨by intro x hx; simp at hx, by simp⟩
    · refine ⟨fun x hx => ?_, by simp only [putAll_len, List.length_replicate]; omega⟩
      have hw : (colW l).2.1.length ≤ 1000000 := Nat.le_trans (bytesR_len _ _) (Nat.le_trans (bytesR_len _ _) (Nat.le_trans (upToR_len 60 (l, false)) h))
      have := putAll_ok _ _ _ (fun z hz => by rw [List.eq_of_mem_replicate hz]; exact okV_zero) (knownR_ok hw) x hx
      exact ⟨this.1, this.2.1, by unfold maxLen; have := this.2.2; omega⟩
/-- What Decode finds. -/
def decR (kind : Int) (l : List UInt8) : Option (List V) :=
  if (colR kind l).2 then none else if fitsB kind (colR kind l).1 ∧ encB kind (colR kind l).1 = l then some (colR kind l).1 else none
def DecPost (r : Option (List V)) (w : World) (e : Ending) (w' : World) : Prop :=
  match r with
  | none => e = .returned (.tuple #[.slice none 0 0, .iface 80 (.int .i64 3)]) ∧ Below w.heap.size w w'
  | some L => ∃ v', e = .returned (.tuple #[v', .nilIface]) ∧ Sl w' v' L ∧ Below w.heap.size w w'
/-- The same, with what is told in memory of the call's own. -/
def DecOwn (r : Option (List V)) (w : World) (e : Ending) (w' : World) : Prop :=
  match r with
  | none => e = .returned (.tuple #[.slice none 0 0, .iface 80 (.int .i64 3)]) ∧ Below w.heap.size w w'
  | some L => ∃ v', e = .returned (.tuple #[v', .nilIface]) ∧ w'.ownsRow w.heap.size 45 3 v' L.length (flatV L) ∧ Below w.heap.size w w'
theorem dec_none {w w' : World} {e : Ending} (h : e = .returned (.tuple #[.slice none 0 0, .iface 80 (.int .i64 3)]) ∧ Below w.heap.size w w') : DecOwn none w e w' := h
theorem below_of_grown {w W w' : World} {o : Obj} (h : (w.alloc o).grownBy w' (some w.heap.size)) (_hW : W = w) : Below w.heap.size w w' :=
  ⟨h.os, h.tape, h.output, by have := h.size; simp at this; omega, fun k hk => (h.block k (by simp; omega) (by simp; omega)).trans (Below.heap_alloc _ _ _ hk)⟩

set_option maxHeartbeats 1000000 in
theorem from_any (s : ByteArray) (w : World) :
    Calls Tryz.prog 31 #[.string s] w fun e w' => e = .returned (.agg #[.string s, .bool false]) ∧ Below w.heap.size w w' := by
  go_enter Tryz.func31, Tryz.ntmps31
  go_wp2
  refine bodyPost_ret (v := .agg #[.string s, .bool false]) (by simp [results, Tryz.results31, go_sem]) rfl ⟨rfl, ?_⟩
  first | exact Below.refl _ _ | exact (Below.refl _ _).alloc (Nat.le_refl _) _

set_option maxHeartbeats 2000000 in
set_option maxRecDepth 100000 in
theorem decode_own (kind : Int) (s : ByteArray) (w : World) (hs : s.size ≤ 1000000) :
    Calls Tryz.prog 77 #[.int .i64 kind, .string s] w (DecOwn (decR kind s.data.toList) w) := by
  obtain ⟨l, rfl⟩ : ∃ l, s = str l := ⟨s.data.toList, (str_self s).symm⟩
  rw [str_toList]
  rw [str_size] at hs
  have HC := mkHid (fun W : World => column_any W.heap.size kind l (W.alloc (.cells #[.string (str l), .bool false, .int .i64 kind] 165)) (heap_alloc_new _ _) hs)
  have HFR := mkHid (from_any (str l) w)
  have HOK := mkHid (colR_ok (k := kind) hs)
  have HD : Hid (decR kind l = if (colR kind l).2 then none else if fitsB kind (colR kind l).1 ∧ encB kind (colR kind l).1 = l then some (colR kind l).1 else none) := mkHid rfl
  have HEN : Hid (∀ L, encRes kind L = if fitsB kind L then if L.length ≤ 60 then .tuple #[.string (str (encB kind L)), .nilIface] else .tuple #[.string ⟨#[]⟩, .iface 80 (.int .i64 4)] else .tuple #[.string ⟨#[]⟩, .iface 80 (.int .i64 1)]) := mkHid (fun _ => rfl)
  generalize colR kind l = R at *
  obtain ⟨L, q⟩ := R
  simp only at HC HOK HD
  go_enter Tryz.func77, Tryz.ntmps77
  go_wp2_with fail
  refine HFR.out.mono ?_
  rintro e w0 ⟨rfl, hb0⟩
  go_wp2_with fail
  refine (HC.out w0).mono ?_
  rintro e w1 ⟨v1, ⟨st1, st2⟩, rfl, hR1, hq, hown, hg1⟩
  simp only at hq hown
  subst hq
  have HB1 := mkHid (hb0.trans ((below_of_grown hg1 rfl).mono hb0.size))
  have HR1 := mkHid hR1
  obtain ⟨q0, q1, q2, z1, z2⟩ := rd_cells hR1
  simp only at q2
  clear hg1 hR1
  cases st2 with
  | true =>
    have HE : Hid (decR kind l = none) := mkHid (by rw [HD.out]; rfl)
    clear hown
    go_wp2_with fail
    refine (wrong_any _ _ _ w1 HR1.out).mono ?_
    rintro e w1 ⟨rfl, rfl⟩
    go_wp2
    go_ret2
    rw [HE.out]
    exact dec_none ⟨rfl, HB1.out⟩
  | false =>
    have HO := mkHid (hown rfl)
    have HEC := mkHid (encode_any kind v1 L w1 (Sl_of_owns HO.out) (by have := HOK.out.2; omega) HOK.out.1)
    have hs1 := HB1.out.size
    have h60 := HOK.out.2
    clear hown
    cases hf : fitsB kind L with
    | false =>
      have HE : Hid (decR kind l = none) := mkHid (by rw [HD.out, hf]; rfl)
      rw [HEN.out, hf] at HEC
      simp only [Bool.false_eq_true, if_false] at HEC
      clear hf
      go_wp2_with fail
      refine (wrong_any _ _ _ w1 HR1.out).mono ?_
      rintro e w1 ⟨rfl, rfl⟩
      go_wp2_with fail
      refine HEC.out.mono ?_
      rintro e w2 ⟨rfl, hb2⟩
      go_wp2
      go_ret2
      rw [HE.out]
      exact dec_none ⟨rfl, HB1.out.trans (hb2.mono hs1)⟩
    | true =>
      rw [HEN.out, hf] at HEC
      simp only [if_true, if_pos h60] at HEC
      by_cases heq : encB kind L = l
      · have HE : Hid (decR kind l = some L) := mkHid (by rw [HD.out, hf]; simp [heq])
        rw [heq] at HEC
        clear hf heq
        have hself : ((str l).toList == (str l).toList) = true := by simp
        go_wp2_with fail
        refine (wrong_any _ _ _ w1 HR1.out).mono ?_
        rintro e w1 ⟨rfl, rfl⟩
        go_wp2_with fail
        refine HEC.out.mono ?_
        rintro e w2 ⟨rfl, hb2⟩
        go_wp2
        go_ret2
        rw [HE.out]
        exact ⟨_, rfl, ownsRow_base (ownsRow_up HO.out hb2) (by have := hb0.size; simp; omega), HB1.out.trans (hb2.mono hs1)⟩
      · have HE : Hid (decR kind l = none) := mkHid (by rw [HD.out, hf]; simp [heq])
        have hne : ((str (encB kind L)).toList == (str l).toList) = false := by
          rw [ByteArray.toList_eq, ByteArray.toList_eq, str_toList, str_toList]; simpa using heq
        clear hf heq
        generalize str (encB kind L) = se at *
        go_wp2_with fail
        refine (wrong_any _ _ _ w1 HR1.out).mono ?_
        rintro e w1 ⟨rfl, rfl⟩
        go_wp2_with fail
        refine HEC.out.mono ?_
        rintro e w2 ⟨rfl, hb2⟩
        go_wp2
        go_ret2
        rw [HE.out]
        exact dec_none ⟨rfl, HB1.out.trans (hb2.mono hs1)⟩
theorem decode_any (kind : Int) (s : ByteArray) (w : World) (hs : s.size ≤ 1000000) :
    Calls Tryz.prog 77 #[.int .i64 kind, .string s] w (DecPost (decR kind s.data.toList) w) := by
  refine (decode_own kind s w hs).mono fun e w' h => ?_
  cases hd : decR kind s.data.toList with
  | none => rw [hd] at h; exact h
  | some L =>
    rw [hd] at h
    obtain ⟨v', he, ho, hb⟩ := h
    exact ⟨v', he, Sl_of_owns ho, hb⟩
end Go.Proofs.YtodemklghajdeaaGreatDoor.E
