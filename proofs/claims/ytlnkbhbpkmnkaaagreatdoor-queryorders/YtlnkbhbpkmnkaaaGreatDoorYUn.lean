/- QueryParts' law: sums that its loop makes; plain mathematics. -/
import Derived.Test.YtlnkbhbpkmnkaaaGreatDoorFY3
import Derived.Test.YtlnkbhbpkmnkaaaGreatDoorFX0
import Derived.Maps.AppendAt
namespace Go.Proofs.YtlnkbhbpkmnkaaaGreatDoor.F
open Go.RowKit Go.Proofs Go.Shelf Go.Joins

set_option maxHeartbeats 4000000 in
set_option maxRecDepth 100000 in
theorem rightRows_any (lv rv : Value) (l : List Col) (rows : List (List V)) (w : World) (hl : SlE 7 C.encC w lv l) (hr : SlR w rv rows) (hlen : l.length ≤ 1000) (hrl : rows.length ≤ 100000)
    (hsz : ∀ x ∈ l, x.2.1.size ≤ maxLen ∧ x.2.2.2.2.2.2.size ≤ maxLen) (ht : ∀ r ∈ rows, ∀ v ∈ r, v.2.2.size ≤ maxLen) (h64 : All64 rows) (hw : C.NcB w) (hg : C.EtB w) :
    Calls Tryz.prog 8 #[lv, rv] w fun e w' => e = .returned (.bool (makeOk l rows)) ∧ Below w.heap.size w w' := by
  have HM := mkH (make_any lv rv l rows w hl hr hlen hrl hsz ht h64 hw hg)
  obtain ⟨la, lc, rfl, _⟩ := hl.slice
  obtain ⟨ra, rc, rfl, _⟩ := hr.slice
  clear hl hr hsz ht h64 hw hg
  cases hok : makeOk l rows with
  | false =>
    rw [makeR_no hok] at HM
    unfold MakePost at HM
    simp only at HM
    go_enter Tryz.func8, Tryz.ntmps8
    go_wp2_with fail
    with_reducible refine HM.out.mono ?_
    rintro e w1 ⟨T, v, rfl, hb1⟩
    go_wp2
    go_ret
    exact ⟨rfl, hb1.alloc hb1.size _⟩
  | true =>
    rw [makeR_yes hok] at HM
    unfold MakePost at HM
    simp only at HM
    go_enter Tryz.func8, Tryz.ntmps8
    go_wp2_with fail
    with_reducible refine HM.out.mono ?_
    rintro e w1 ⟨cv, gv, rfl, hf, hb1⟩
    obtain ⟨ca, cc, rfl, _⟩ := hf.1.slice
    obtain ⟨ga, gc, rfl, _⟩ := hf.2.slice
    clear hf
    go_wp2
    go_ret
    exact ⟨rfl, hb1.alloc hb1.size _⟩
end Go.Proofs.YtlnkbhbpkmnkaaaGreatDoor.F
namespace Go.Proofs.YtlnkbhbpkmnkaaaGreatDoor
open Go.RowKit Go.Proofs Go.Lib Go.Joins Go.Proofs.YtlnkbhbpkmnkaaaGreatDoor.Ask

theorem bA_data (s : ByteArray) : bA s.data.toList = s := by
  unfold bA
  simp
theorem kept_nm {s : ByteArray} (h : C.colB s = true) (hk : (F.wordsQ.any fun y => s.toList == y.toList) = false) : nmL s.data.toList = true := by
  unfold nmL
  rw [bA_data]
  unfold C.colB at h
  simp only [Bool.and_eq_true, Bool.not_eq_true', Bool.or_eq_false_iff] at h
  obtain ⟨⟨h1, h2, h3, h4, h5⟩, hn⟩ := h
  have hn' : nameB s = true := hn
  rw [hn', Bool.and_true]
  have e : ∀ l : List UInt8, (⟨l.toArray⟩ : ByteArray).toList = l := fun l => by rw [ByteArray.toList_eq]
  have hk' : (([[98, 121], [100, 101, 115, 99], [108, 105, 109, 105, 116], [111, 114, 100, 101, 114], [115, 101, 108, 101, 99, 116], [119, 104, 101, 114, 101]] : List (List UInt8)).any fun y => s.toList == y) = false := by
    rw [← hk]
    unfold F.wordsQ
    simp only [List.any_cons, List.any_nil]
    have e1 : (⟨#[98, 121]⟩ : ByteArray).toList = [98, 121] := e [98, 121]
    have e2 : (⟨#[100, 101, 115, 99]⟩ : ByteArray).toList = [100, 101, 115, 99] := e [100, 101, 115, 99]
    have e3 : (⟨#[108, 105, 109, 105, 116]⟩ : ByteArray).toList = [108, 105, 109, 105, 116] := e [108, 105, 109, 105, 116]
    have e4 : (⟨#[111, 114, 100, 101, 114]⟩ : ByteArray).toList = [111, 114, 100, 101, 114] := e [111, 114, 100, 101, 114]
    have e5 : (⟨#[115, 101, 108, 101, 99, 116]⟩ : ByteArray).toList = [115, 101, 108, 101, 99, 116] := e [115, 101, 108, 101, 99, 116]
    have e6 : (⟨#[119, 104, 101, 114, 101]⟩ : ByteArray).toList = [119, 104, 101, 114, 101] := e [119, 104, 101, 114, 101]
    rw [e1, e2, e3, e4, e5, e6]
  simp only [List.any_cons, List.any_nil, Bool.or_false, Bool.or_eq_false_iff] at hk'
  obtain ⟨k1, k2, k3, k4, k5, k6⟩ := hk'
  unfold mayN
  unfold C.isW at h1 h2 h3 h4 h5
  unfold isW
  rw [h1, h2, h3, h4, h5, k1, k2, k3, k4, k5, k6]
  rfl
theorem nm_star {s : ByteArray} (h : C.colB s = true) : s ≠ ⟨#[42]⟩ := by
  rintro rfl
  have : C.colB ⟨#[42]⟩ = false := by kernel_rfl
  rw [this] at h
  cases h
def fnsQ (c : List UInt8) (num : Bool) : List It := [(.count, some c), (.min, some c), (.max, some c), if num then (.sum, some c) else (.count, none)]
def qParts (a c : List UInt8) (num : Bool) : QQ := ⟨(.no, some a), (.count, none) :: fnsQ c num, some a, none, none⟩
def qWhole (c : List UInt8) (num : Bool) : QQ := ⟨(.count, none), fnsQ c num, none, none, none⟩
theorem fns_ok {c : List UInt8} (hc : nmL c = true) (hl : c.length ≤ 1000) (num : Bool) : ∀ y ∈ fnsQ c num, ItOk y := by
  have h1 : ∀ f, ItOk (f, some c) := fun f => ⟨fun n e => by injection e with e; subst e; exact ⟨hc, hl⟩, fun e => by cases e⟩
  have h2 : ItOk (.count, none) := ⟨(fun n e => by cases e), fun _ => rfl⟩
  intro y hy
  cases num <;> simp [fnsQ] at hy <;> rcases hy with rfl | rfl | rfl | rfl <;> first | exact h1 _ | exact h2
theorem qParts_ok {a c : List UInt8} (ha : nmL a = true) (hal : a.length ≤ 1000) (hc : nmL c = true) (hl : c.length ≤ 1000) (num : Bool) : QOk (qParts a c num) where
  its y hy := by
    rcases List.mem_cons.1 hy with rfl | hy
    · exact ⟨fun n e => by injection e with e; subst e; exact ⟨ha, hal⟩, fun e => by cases e⟩
    · rcases List.mem_cons.1 hy with rfl | hy
      · exact ⟨(fun n e => by cases e), fun _ => rfl⟩
      · exact fns_ok hc hl num y hy
  few := by simp [qParts, fnsQ]
  byn n e := by simp [qParts] at e; subst e; exact ⟨ha, hal⟩
  ord x e := by simp [qParts] at e
  lim n e := by simp [qParts] at e
theorem qWhole_ok {c : List UInt8} (hc : nmL c = true) (hl : c.length ≤ 1000) (num : Bool) : QOk (qWhole c num) where
  its y hy := by
    rcases List.mem_cons.1 hy with rfl | hy
    · exact ⟨(fun n e => by cases e), fun _ => rfl⟩
    · exact fns_ok hc hl num y hy
  few := by simp [qWhole, fnsQ]
  byn n e := by simp [qWhole] at e
  ord x e := by simp [qWhole] at e
  lim n e := by simp [qWhole] at e
theorem qParts_80 (a c : List UInt8) (num : Bool) : (qT (qParts a c num)).length ≤ 80 := by
  cases num <;> simp [qT, qParts, fnsQ, itT, comT, byT, ordT, limT]
theorem qWhole_80 (c : List UInt8) (num : Bool) : (qT (qWhole c num)).length ≤ 80 := by
  cases num <;> simp [qT, qWhole, fnsQ, itT, comT, byT, ordT, limT]
theorem fineI_of {cols : List F.Col} {next : Int} (hr : C.RightP C.colB C.fitB cols next) {k : Nat} {c : F.Col} (hk : cols[k]? = some c) (f : F.Fn) (hf : f = .sum → c.2.2.1 ≠ 2) : F.FineI cols (f, bA c.2.1.data.toList) := by
  have hlt : k < cols.length := F.lt_of_some hk
  have he : cols[k]! = c := by rw [getElem!_pos cols k hlt]; rw [List.getElem?_eq_getElem hlt] at hk; injection hk
  have hfa := C.find_at hr hlt
  rw [he] at hfa
  rw [bA_data]
  refine .inr ⟨nm_star (hr.2.2.1 c (List.mem_of_getElem? hk)).1.2.2.1, k, c, hfa, hk, hf⟩
theorem qParts_fine {cols : List F.Col} {next : Int} (hr : C.RightP C.colB C.fitB cols next) {ka kc : Nat} {a c : F.Col} (hka : cols[ka]? = some a) (hkc : cols[kc]? = some c) (num : Bool) (hn : num = true → c.2.2.1 ≠ 2) :
    F.FineQ cols (itsF (qParts a.2.1.data.toList c.2.1.data.toList num)) (namesF (qParts a.2.1.data.toList c.2.1.data.toList num)) true where
  nms nm h := by
    have : nm = bA a.2.1.data.toList := by simpa [namesF, qParts] using h
    subst this
    rcases fineI_of hr hka .no (fun e => by cases e) with ⟨e, _⟩ | ⟨_, k, _, h1, _⟩
    · cases e
    · exact ⟨k, h1⟩
  its x hx := by
    have hst : F.FineI cols (.count, inB none) := .inl ⟨rfl, rfl⟩
    have h0 := fineI_of hr hka .no (fun e => by cases e)
    cases num <;> simp [itsF, qParts, fnsQ] at hx <;> rcases hx with rfl | rfl | rfl | rfl | rfl | rfl
    all_goals first
      | exact ⟨h0, .inr (.inr (by simp [namesF, qParts, inB]))⟩
      | exact ⟨hst, .inl (fun e => by cases e)⟩
      | exact ⟨fineI_of hr hkc _ (fun _ => hn rfl), .inl (fun e => by cases e)⟩
      | exact ⟨fineI_of hr hkc _ (fun e => by cases e), .inl (fun e => by cases e)⟩
theorem qWhole_fine {cols : List F.Col} {next : Int} (hr : C.RightP C.colB C.fitB cols next) {kc : Nat} {c : F.Col} (hkc : cols[kc]? = some c) (num : Bool) (hn : num = true → c.2.2.1 ≠ 2) :
    F.FineQ cols (itsF (qWhole c.2.1.data.toList num)) (namesF (qWhole c.2.1.data.toList num)) true where
  nms nm h := by simp [namesF, qWhole] at h
  its x hx := by
    have hst : F.FineI cols (.count, inB none) := .inl ⟨rfl, rfl⟩
    cases num <;> simp [itsF, qWhole, fnsQ] at hx <;> rcases hx with rfl | rfl | rfl | rfl | rfl
    all_goals first
      | exact ⟨hst, .inl (fun e => by cases e)⟩
      | exact ⟨fineI_of hr hkc _ (fun _ => hn rfl), .inl (fun e => by cases e)⟩
      | exact ⟨fineI_of hr hkc _ (fun e => by cases e), .inl (fun e => by cases e)⟩
end Go.Proofs.YtlnkbhbpkmnkaaaGreatDoor
namespace Go.Proofs.YtlnkbhbpkmnkaaaGreatDoor
open Go.RowKit Go.Proofs Go.Lib Go.Joins Go.Proofs.YtlnkbhbpkmnkaaaGreatDoor.Ask
open Go.Proofs.YtlnkbhbpkmnkaaaGreatDoor.Stb (ss)

theorem ss_none (R : List (List F.V)) : ss (F.ltB []) R = R := Stb.ss_same _ (fun _ _ => by unfold F.ltB F.stC; decide) R
theorem limR_none (R : List (List F.V)) : F.limR 0 R = R := by unfold F.limR; rw [if_pos (.inl rfl)]
/-- A part is no longer than the whole; and there are no more parts than rows. -/
theorem part_le {α : Type} : ∀ (L : List (List α)) (g : List α), g ∈ L → g.length ≤ L.flatten.length
  | x :: L, g, h => by
    rw [List.flatten_cons, List.length_append]
    rcases List.mem_cons.1 h with rfl | h
    · omega
    · have := part_le L g h; omega
theorem parts_le {α : Type} : ∀ (L : List (List α)), (∀ g ∈ L, g ≠ []) → L.length ≤ L.flatten.length
  | [], _ => Nat.zero_le _
  | x :: L, h => by
    rw [List.flatten_cons, List.length_append, List.length_cons]
    have h1 := List.length_pos_iff.2 (h x (List.mem_cons_self ..))
    have h2 := parts_le L fun g hg => h g (List.mem_cons_of_mem _ hg)
    omega
def itemsP (kc : Nat) (num : Bool) : List (F.Fn × Int) := [(.count, kc), (.min, kc), (.max, kc), if num then (.sum, (kc : Int)) else (.count, -1)]
def partsP (ka : Nat) (rows : List (List F.V)) : List (List (List F.V)) := F.cutA (F.stC [(ka, false)]) [] (ss (F.ltB [(ka, false)]) rows)
theorem find_star {cols : List F.Col} {next : Int} (hr : C.RightP C.colB C.fitB cols next) : C.findC cols (inB none) = -1 := by
  rcases C.find_cases cols (inB none) with ⟨h, _⟩ | ⟨k, hk, _, h⟩
  · exact h
  · rw [getElem!_pos cols k hk] at h
    exact absurd h (nm_star (hr.2.2.1 _ (List.getElem_mem hk)).1.2.2.1)
theorem find_col {cols : List F.Col} {next : Int} (hr : C.RightP C.colB C.fitB cols next) {k : Nat} {c : F.Col} (hk : cols[k]? = some c) : C.findC cols (bA c.2.1.data.toList) = (k : Int) := by
  have hlt : k < cols.length := F.lt_of_some hk
  have he : cols[k]! = c := by rw [getElem!_pos cols k hlt]; rw [List.getElem?_eq_getElem hlt] at hk; injection hk
  have hfa := C.find_at hr hlt
  rw [he] at hfa
  rw [bA_data]
  exact hfa
theorem ps_parts {cols : List F.Col} {next : Int} (hr : C.RightP C.colB C.fitB cols next) {ka kc : Nat} {a c : F.Col} (hka : cols[ka]? = some a) (hkc : cols[kc]? = some c) (num : Bool) :
    psF cols (qParts a.2.1.data.toList c.2.1.data.toList num) = (.no, (ka : Int)) :: (.count, -1) :: itemsP kc num := by
  have h1 := find_col hr hka
  have h2 := find_col hr hkc
  have h3 := find_star hr
  cases num <;> simp [psF, itsF, qParts, fnsQ, itemsP, inB] at h3 ⊢ <;> simp [h1, h2, h3]
theorem ps_whole {cols : List F.Col} {next : Int} (hr : C.RightP C.colB C.fitB cols next) {kc : Nat} {c : F.Col} (hkc : cols[kc]? = some c) (num : Bool) :
    psF cols (qWhole c.2.1.data.toList num) = (.count, -1) :: itemsP kc num := by
  have h2 := find_col hr hkc
  have h3 := find_star hr
  cases num <;> simp [psF, itsF, qWhole, fnsQ, itemsP, inB] at h3 ⊢ <;> simp [h2, h3]
theorem psOk_items (ka kc : Nat) (num : Bool) (g : List (List F.V)) (hg : g ≠ []) (h1 : ka < 8) (h2 : kc < 8) : F.PsOk ((.no, (ka : Int)) :: (.count, -1) :: itemsP kc num) g := by
  intro x hx
  cases num <;> simp [itemsP] at hx <;> rcases hx with rfl | rfl | rfl | rfl | rfl | rfl
  all_goals exact ⟨fun _ => ⟨hg, by first | omega | (rename_i e; cases e)⟩, by omega⟩
end Go.Proofs.YtlnkbhbpkmnkaaaGreatDoor
namespace Go.Proofs.YtlnkbhbpkmnkaaaGreatDoor
open Go.RowKit Go.Proofs Go.Lib Go.Joins Go.Proofs.YtlnkbhbpkmnkaaaGreatDoor.Ask
open Go.Proofs.YtlnkbhbpkmnkaaaGreatDoor.Stb (ss)

theorem partsP_flat (ka : Nat) (rows : List (List F.V)) : (partsP ka rows).flatten = ss (F.ltB [(ka, false)]) rows := F.cut_flat _ _
theorem partsP_len (ka : Nat) (rows : List (List F.V)) : (partsP ka rows).flatten.length = rows.length := by rw [partsP_flat]; exact Stb.ss_len _ _
theorem partsP_ne (ka : Nat) (rows : List (List F.V)) : ∀ g ∈ partsP ka rows, g ≠ [] := F.cutA_ne _ _ _
/-- What is told of parts. -/
def toldP (ka kc : Nat) (num : Bool) (rows : List (List F.V)) : List (List F.V) := F.toldQ ((.no, (ka : Int)) :: (.count, -1) :: itemsP kc num) (partsP ka rows)
def toldW (kc : Nat) (num : Bool) (rows : List (List F.V)) : List (List F.V) := F.toldQ ((.count, -1) :: itemsP kc num) [rows]
theorem runs_parts (lv rv : Value) (cols : List F.Col) (next : Int) (rows : List (List F.V)) (a c : F.Col) (ka kc : Nat) (num : Bool) (s : ByteArray) (w : World) (hr : C.RightP C.colB C.fitB cols next) (hka : cols[ka]? = some a) (hkc : cols[kc]? = some c) (ha : nmL a.2.1.data.toList = true) (hc : nmL c.2.1.data.toList = true) (hn : num = true → c.2.2.1 ≠ 2)
    (hs : s = bA (qX (qParts a.2.1.data.toList c.2.1.data.toList num))) (hs6 : s.size ≤ 1000000) (hal : a.2.1.data.toList.length ≤ 1000) (hcl : c.2.1.data.toList.length ≤ 1000) (hm : MkB w) (hg : GB w) (hw : 10 ≤ w.heap.size)
    (hcs : F.SlE 7 C.encC w lv cols) (hrs : F.SlR w rv rows) (hl : rows.length ≤ 900) :
    Calls Tryz.prog 11 #[lv, rv, .string s] w (RunsPost (toldP ka kc num rows) w) := by
  have h8 := hr.2.1
  have h1 := hr.1
  have hka8 := F.lt_of_some hka
  have hkc8 := F.lt_of_some hkc
  have hrv : ∃ a n c, rv = .slice a n c := by obtain ⟨a, c, e, _⟩ := hrs.slice; exact ⟨a, _, c, e⟩
  have hps := ps_parts hr hka hkc num
  have h := runs_any lv rv cols (qParts a.2.1.data.toList c.2.1.data.toList num) true (partsP ka rows) s w hs hs6 (qParts_ok ha hal hc hcl num) (qParts_80 _ _ num) hm hg hw hcs (by omega) h8 hrv (qParts_fine hr hka hkc num hn)
    (parts_do_by w lv rv _ cols rows _ ka rfl (find_col hr hka) (by omega) hcs (by omega) h8 hrs (by omega))
    (by have := parts_le _ (partsP_ne ka rows); rw [partsP_len] at this; omega)
    (fun g hgm => by
      rw [hps]
      refine ⟨psOk_items ka kc num g (partsP_ne ka rows g hgm) (by omega) (by omega), ?_⟩
      have := part_le _ g hgm
      rw [partsP_len] at this
      omega)
  rw [hps, show limN (qParts a.2.1.data.toList c.2.1.data.toList num).lim = 0 from rfl, show (qParts a.2.1.data.toList c.2.1.data.toList num).ord.toList = [] from rfl, ss_none, limR_none] at h
  exact h
theorem runs_whole (lv rv : Value) (cols : List F.Col) (next : Int) (rows : List (List F.V)) (c : F.Col) (kc : Nat) (num : Bool) (s : ByteArray) (w : World) (hr : C.RightP C.colB C.fitB cols next) (hkc : cols[kc]? = some c) (hc : nmL c.2.1.data.toList = true) (hn : num = true → c.2.2.1 ≠ 2)
    (hs : s = bA (qX (qWhole c.2.1.data.toList num))) (hs6 : s.size ≤ 1000000) (hcl : c.2.1.data.toList.length ≤ 1000) (hm : MkB w) (hg : GB w) (hw : 10 ≤ w.heap.size)
    (hcs : F.SlE 7 C.encC w lv cols) (hrs : F.SlR w rv rows) (h0 : rows ≠ []) (hl : rows.length ≤ 900) :
    Calls Tryz.prog 11 #[lv, rv, .string s] w (RunsPost (toldW kc num rows) w) := by
  have h8 := hr.2.1
  have h1 := hr.1
  have hkc8 := F.lt_of_some hkc
  have hrv : ∃ a n c, rv = .slice a n c := by obtain ⟨a, c, e, _⟩ := hrs.slice; exact ⟨a, _, c, e⟩
  have hlv : ∃ a n c, lv = .slice a n c := by obtain ⟨a, c, e, _⟩ := hcs.slice; exact ⟨a, _, c, e⟩
  have hps := ps_whole hr hkc num
  have h := runs_any lv rv cols (qWhole c.2.1.data.toList num) true [rows] s w hs hs6 (qWhole_ok hc hcl num) (qWhole_80 _ num) hm hg hw hcs (by omega) h8 hrv (qWhole_fine hr hkc num hn)
    (parts_do_whole w lv rv _ rows rfl (by cases num <;> rfl) (by simp [itsF, qWhole, fnsQ]) hlv hrs) (by simp)
    (fun g hgm => by
      rw [hps]
      have e : g = rows := by simpa using hgm
      subst e
      refine ⟨fun x hx => psOk_items 0 kc num g h0 (by omega) (by omega) x (List.mem_cons_of_mem _ hx), hl⟩)
  rw [hps, show limN (qWhole c.2.1.data.toList num).lim = 0 from rfl, show (qWhole c.2.1.data.toList num).ord.toList = [] from rfl, ss_none, limR_none] at h
  exact h
end Go.Proofs.YtlnkbhbpkmnkaaaGreatDoor
namespace Go.Proofs.YtlnkbhbpkmnkaaaGreatDoor
open Go.RowKit Go.Proofs Go.Lib Go.Joins Go.Proofs.YtlnkbhbpkmnkaaaGreatDoor.Ask
open Go.Proofs.YtlnkbhbpkmnkaaaGreatDoor.Stb (ss)

def colP (kc : Nat) (g : List (List F.V)) : List F.V := g.map fun r => F.atV r kc
theorem colP_flat (kc : Nat) (P : List (List (List F.V))) : (P.map (colP kc)).flatten = colP kc P.flatten := by
  unfold colP
  rw [List.map_flatten]
theorem colP_perm (ka kc : Nat) (rows : List (List F.V)) : ((partsP ka rows).map (colP kc)).flatten.Perm (colP kc rows) := by
  rw [colP_flat, partsP_flat]
  exact (Stb.ss_perm _ rows).map _
theorem parts_count (ka : Nat) (rows : List (List F.V)) : ((partsP ka rows).map fun g => (g.length : Int)).sum = rows.length := by
  rw [← partsP_len ka rows]
  induction partsP ka rows with
  | nil => rfl
  | cons g P ih => rw [List.map_cons, List.sum_cons, ih, List.flatten_cons, List.length_append]; omega
theorem parts_somes (ka kc : Nat) (rows : List (List F.V)) : ((partsP ka rows).map fun g => F.somes (colP kc g)).sum = F.somes (colP kc rows) := by
  rw [← F.somes_perm (colP_perm ka kc rows), F.somes_flat, List.map_map]
  rfl
theorem parts_isum (ka kc : Nat) (rows : List (List F.V)) : ((partsP ka rows).map fun g => F.isum (colP kc g)).sum = F.isum (colP kc rows) := by
  rw [← F.isum_perm (colP_perm ka kc rows), F.isum_flat, List.map_map]
  rfl
theorem colP_mem (ka kc : Nat) (rows : List (List F.V)) (x : F.V) : x ∈ colP kc rows ↔ ∃ l ∈ (partsP ka rows).map (colP kc), x ∈ l := by
  rw [← (colP_perm ka kc rows).mem_iff, List.mem_flatten]
theorem colP_up {kc : Nat} {ka : Nat} {rows : List (List F.V)} (hn : ∀ x ∈ colP kc rows, 0 ≤ x.1) : ∀ l ∈ (partsP ka rows).map (colP kc), ∀ x ∈ l, 0 ≤ x.1 := fun l hl x hx => hn x ((colP_mem ka kc rows x).2 ⟨l, hl, hx⟩)
theorem count_st {l : List F.V} (hn : ∀ x ∈ l, 0 ≤ x.1) : F.comesV .count l = F.numV (F.somes l) := by
  have hs := S.isSt_of l hn
  show F.numV ((S.stOf l).1 - (S.stOf l).2.1) = _
  rw [hs.cnt, hs.nul]
  rfl
theorem min_up {l : List F.V} {m : F.V} (h : S.IsMin l m) (hn : ∀ x ∈ l, 0 ≤ x.1) : 0 ≤ m.1 := by
  rcases h with ⟨rfl, _⟩ | ⟨_, h, _⟩
  · exact Int.le_refl _
  · exact hn _ h
theorem max_up {l : List F.V} {m : F.V} (h : S.IsMax l m) (hn : ∀ x ∈ l, 0 ≤ x.1) : 0 ≤ m.1 := by
  rcases h with ⟨rfl, _⟩ | ⟨_, h, _⟩
  · exact Int.le_refl _
  · exact hn _ h
theorem low_min (ka kc : Nat) (rows : List (List F.V)) (hn : ∀ x ∈ colP kc rows, 0 ≤ x.1) : (S.stOf ((partsP ka rows).map fun g => F.comesV .min (colP kc g))).2.2.1 = F.comesV .min (colP kc rows) := by
  have hall := colP_up (ka := ka) hn
  have h1 := F.parts_min (colP_mem ka kc rows) (F.comesV .min) (fun l hl => (S.isSt_of l (hall l hl)).mn) (S.isSt_of _ hn).mn
  rw [List.map_map] at h1
  have hlow : ∀ x ∈ (partsP ka rows).map (F.comesV .min ∘ colP kc), 0 ≤ x.1 := fun x hx => by
    obtain ⟨g, hg, rfl⟩ := List.mem_map.1 hx
    exact min_up (S.isSt_of _ (hall _ (List.mem_map_of_mem hg))).mn (hall _ (List.mem_map_of_mem hg))
  exact (S.isSt_of _ hlow).mn.one h1
theorem high_max (ka kc : Nat) (rows : List (List F.V)) (hn : ∀ x ∈ colP kc rows, 0 ≤ x.1) : (S.stOf ((partsP ka rows).map fun g => F.comesV .max (colP kc g))).2.2.2 = F.comesV .max (colP kc rows) := by
  have hall := colP_up (ka := ka) hn
  have h1 := F.parts_max (colP_mem ka kc rows) (F.comesV .max) (fun l hl => (S.isSt_of l (hall l hl)).mx) (S.isSt_of _ hn).mx
  rw [List.map_map] at h1
  have hlow : ∀ x ∈ (partsP ka rows).map (F.comesV .max ∘ colP kc), 0 ≤ x.1 := fun x hx => by
    obtain ⟨g, hg, rfl⟩ := List.mem_map.1 hx
    exact max_up (S.isSt_of _ (hall _ (List.mem_map_of_mem hg))).mx (hall _ (List.mem_map_of_mem hg))
  exact (S.isSt_of _ hlow).mx.one h1
/-- What 64 bits hold of a sum of sums. -/
theorem wrap_sums {α : Type} (f : α → Int) : ∀ (P : List α) (n : Int), P.foldl (fun n g => IntKind.i64.wrap (n + IntKind.i64.wrap (f g))) (IntKind.i64.wrap n) = IntKind.i64.wrap (n + (P.map f).sum)
  | [], n => by simp
  | g :: P, n => by
    rw [List.foldl_cons, F.wrap_add', F.wrap_add, wrap_sums f P, List.map_cons, List.sum_cons, Int.add_assoc]
/-- One part's row. -/
def rowP (ka kc : Nat) (num : Bool) (g : List (List F.V)) : List F.V := [F.atV (g.headD []) ka, F.numV g.length, F.comesV .count (colP kc g), F.comesV .min (colP kc g), F.comesV .max (colP kc g), if num then F.comesV .sum (colP kc g) else F.numV g.length]
theorem toldP_eq (ka kc : Nat) (num : Bool) (rows : List (List F.V)) : toldP ka kc num rows = (partsP ka rows).map (rowP ka kc num) := by
  unfold toldP F.toldQ
  refine List.map_congr_left fun g _ => ?_
  have hn : ¬ (kc : Int) < 0 := by omega
  cases num <;> simp [rowP, itemsP, F.ofI, colP, hn]
theorem toldW_eq (kc : Nat) (num : Bool) (rows : List (List F.V)) : toldW kc num rows = [(rowP 0 kc num rows).drop 1] := by
  have hn : ¬ (kc : Int) < 0 := by omega
  cases num <;> simp [toldW, F.toldQ, rowP, itemsP, F.ofI, colP, hn]
end Go.Proofs.YtlnkbhbpkmnkaaaGreatDoor
namespace Go.Proofs.YtlnkbhbpkmnkaaaGreatDoor
open Go.RowKit Go.Proofs Go.Lib Go.Joins Go.Proofs.YtlnkbhbpkmnkaaaGreatDoor.Ask
open Go.Proofs.YtlnkbhbpkmnkaaaGreatDoor.Stb (ss)

theorem stC_one (p : Nat) (a b : List F.V) : F.stC [(p, false)] a b = S.cmpW (F.atV a p) (F.atV b p) := by
  unfold F.stC
  simp only [Bool.false_eq_true, if_false]
  split
  · rename_i h
    rw [h]
    rfl
  · rfl
theorem cmp_lt_le {x y z : F.V} (h1 : S.cmpW x y < 0) (h2 : S.cmpW y z ≤ 0) : S.cmpW x z < 0 := by
  have h3 := S.cmpW_trans (Int.le_of_lt h1) h2
  rcases Int.lt_or_eq_of_le h3 with h | h
  · exact h
  · have := S.cmpW_zero.1 h
    subst this
    have := S.cmpW_swap x y
    omega
theorem cmp_le_lt {x y z : F.V} (h1 : S.cmpW x y ≤ 0) (h2 : S.cmpW y z < 0) : S.cmpW x z < 0 := by
  have h3 := S.cmpW_trans h1 (Int.le_of_lt h2)
  rcases Int.lt_or_eq_of_le h3 with h | h
  · exact h
  · have := S.cmpW_zero.1 h
    subst this
    have := S.cmpW_swap x y
    omega
theorem partsP_up (ka : Nat) (rows : List (List F.V)) : (partsP ka rows).Pairwise fun g g' => ∀ x ∈ g, ∀ y ∈ g', S.cmpW (F.atV x ka) (F.atV y ka) < 0 := by
  refine F.cutA_up (F.stC [(ka, false)]) (fun x y => S.cmpW (F.atV x ka) (F.atV y ka) < 0) (fun x y => S.cmpW (F.atV x ka) (F.atV y ka) ≤ 0) (fun x y h1 h2 => ?_) (fun x y z h1 h2 => cmp_le_lt h1 h2) (fun x y z h1 h2 => cmp_lt_le h1 h2) _ [] ?_
  · rw [stC_one] at h2
    omega
  · rw [List.nil_append]
    refine (Stb.ss_up _ (F.ordB _) rows).imp fun {x y} h => ?_
    have h' : ¬ F.stC [(ka, false)] y x < 0 := by simpa [F.ltB] using h
    rw [stC_one] at h'
    have := S.cmpW_swap (F.atV x ka) (F.atV y ka)
    omega
/-- Two parts' rows that stand together: the first values rise. -/
theorem rowP_up (ka : Nat) (rows : List (List F.V)) (i : Nat) (g g' : List (List F.V)) (h1 : (partsP ka rows)[i]? = some g) (h2 : (partsP ka rows)[i + 1]? = some g') :
    S.cmpW (F.atV (g.headD []) ka) (F.atV (g'.headD []) ka) < 0 := by
  have hl2 := F.lt_of_some h2
  have hl1 := F.lt_of_some h1
  rw [List.getElem?_eq_getElem hl1] at h1
  rw [List.getElem?_eq_getElem hl2] at h2
  injection h1 with h1
  injection h2 with h2
  have hp := (List.pairwise_iff_getElem.1 (partsP_up ka rows)) i (i + 1) hl1 hl2 (by omega)
  rw [h1, h2] at hp
  have n1 := partsP_ne ka rows g (h1 ▸ List.getElem_mem hl1)
  have n2 := partsP_ne ka rows g' (h2 ▸ List.getElem_mem hl2)
  cases g with
  | nil => exact absurd rfl n1
  | cons x g =>
    cases g' with
    | nil => exact absurd rfl n2
    | cons y g' => exact hp x (List.mem_cons_self ..) y (List.mem_cons_self ..)
/-- The law's text of the first query. -/
theorem textP (a c : List UInt8) (num : Bool) : qX (qParts a c num) = wSel ++ 32 :: (a ++ 44 :: 32 :: ([99, 111, 117, 110, 116, 40, 42, 41] ++ ((comX (fnsQ c num)) ++ (32 :: (wBy ++ 32 :: a))))) := by
  simp [qX, qParts, itX, inX, comX, byX, ordX, limX, fnL]
end Go.Proofs.YtlnkbhbpkmnkaaaGreatDoor
namespace Go.Proofs.YtlnkbhbpkmnkaaaGreatDoor
open Go.RowKit Go.Proofs Go.Lib Go.Joins Go.Proofs.YtlnkbhbpkmnkaaaGreatDoor.Ask
open Go.Proofs.YtlnkbhbpkmnkaaaGreatDoor.Stb (ss)

theorem rightP_of {l : List F.Col} {next : Int} (h : F.rightB l next = true) : C.RightP C.colB C.fitB l next := by
  have hr := F.right_iff.1 h
  refine ⟨hr.one, hr.eight, fun c hc => ?_, ?_⟩
  · obtain ⟨i, hi, rfl⟩ := List.mem_iff_getElem.1 hc
    have := hr.may i hi
    rw [List.getElem?_eq_getElem hi] at this
    exact ⟨(C.mayB_iff _).1 this.1, this.2⟩
  · refine List.pairwise_iff_getElem.2 fun i j hi hj hij => ?_
    have := hr.apart i j hij hj
    rw [List.getElem?_eq_getElem hi, List.getElem?_eq_getElem hj] at this
    simp only [Option.getD_some, C.alikeB, Bool.or_eq_false_iff, beq_eq_false_iff_ne] at this
    refine ⟨fun e => this.1 e, fun e => this.2 (by rw [e])⟩
theorem rv_facts {k n : Int} {t : ByteArray} (h : C.rightV k n t = true) : 0 ≤ k ∧ (k = 0 → n = 0) := by
  unfold C.rightV at h
  split at h
  · rename_i e
    simp only [Bool.and_eq_true, beq_iff_eq] at h
    exact ⟨by omega, fun _ => h.1⟩
  · split at h
    · rename_i e; exact ⟨by omega, fun e' => by omega⟩
    · split at h
      · rename_i e; exact ⟨by omega, fun e' => by omega⟩
      · cases h
theorem made_right {l : List F.Col} {rows : List (List F.V)} (h : F.makeOk l rows = true) : C.RightP C.colB C.fitB l F.next40 ∧ rows ≠ [] ∧ rows.length ≤ 60 ∧ ∀ r ∈ rows, r.length = l.length ∧ ∀ i, i < l.length → F.fitV (l[i]?.getD F.zC) (r[i]?.getD F.zV) = true := by
  unfold F.makeOk at h
  simp only [Bool.and_eq_true, decide_eq_true_eq, List.all_eq_true, beq_iff_eq] at h
  obtain ⟨h1, ⟨h2, h3⟩, h4⟩ := h
  refine ⟨rightP_of h1, (fun e => by subst e; simp at h2), h3, fun r hr => ?_⟩
  have := h4 r hr
  unfold F.rowE at this
  split at this
  · rename_i e
    exact ⟨e, fun i hi => F.rowGo_zero this e i hi⟩
  · cases this
theorem made_col {l : List F.Col} {rows : List (List F.V)} (h : F.makeOk l rows = true) {kc : Nat} (hk : kc < l.length) : ∀ x ∈ colP kc rows, 0 ≤ x.1 ∧ (x.1 = 0 → x.2.1 = 0) := by
  intro x hx
  obtain ⟨r, hr, rfl⟩ := List.mem_map.1 hx
  obtain ⟨hl, hf⟩ := (made_right h).2.2.2 r hr
  have := hf kc hk
  have hr' : kc < r.length := by omega
  have e : F.atV r kc = r[kc]?.getD F.zV := by
    unfold F.atV
    first | rfl | simp [List.getElem?_eq_getElem hr']
  rw [e]
  unfold F.fitV C.fitB at this
  simp only [Bool.and_eq_true] at this
  exact rv_facts this.1
end Go.Proofs.YtlnkbhbpkmnkaaaGreatDoor
namespace Go.Proofs.YtlnkbhbpkmnkaaaGreatDoor
open Go.RowKit Go.Proofs Go.Lib Go.Joins Go.Proofs.YtlnkbhbpkmnkaaaGreatDoor.Ask

theorem ba_ext {s : ByteArray} {l : List UInt8} (h : s.data.toList = l) : s = bA l := by
  rw [← h, bA_data]
/-- The functions that both queries ask for, as the law puts their text together. -/
def fnsS (c : ByteArray) (num : Bool) : ByteArray := (⟨#[99, 111, 117, 110, 116, 40, 42, 41, 44, 32, 99, 111, 117, 110, 116, 40]⟩ : ByteArray) ++ c ++ (⟨#[41, 44, 32, 109, 105, 110, 40]⟩ : ByteArray) ++ c ++ (⟨#[41, 44, 32, 109, 97, 120, 40]⟩ : ByteArray) ++ c ++ (⟨#[41, 44, 32]⟩ : ByteArray) ++ (if num then (⟨#[115, 117, 109, 40]⟩ : ByteArray) ++ c ++ (⟨#[41]⟩ : ByteArray) else (⟨#[99, 111, 117, 110, 116, 40, 42, 41]⟩ : ByteArray))
theorem text_parts (a c : ByteArray) (num : Bool) : (⟨#[115, 101, 108, 101, 99, 116, 32]⟩ : ByteArray) ++ a ++ (⟨#[44, 32]⟩ : ByteArray) ++ fnsS c num ++ (⟨#[32, 98, 121, 32]⟩ : ByteArray) ++ a = bA (qX (qParts a.data.toList c.data.toList num)) := by
  refine ba_ext ?_
  cases num <;> simp [fnsS, ByteArray.data_append, qX, qParts, fnsQ, itX, inX, comX, byX, ordX, limX, fnL, wSel, wBy]
theorem text_whole (c : ByteArray) (num : Bool) : (⟨#[115, 101, 108, 101, 99, 116, 32]⟩ : ByteArray) ++ fnsS c num = bA (qX (qWhole c.data.toList num)) := by
  refine ba_ext ?_
  cases num <;> simp [fnsS, ByteArray.data_append, qX, qWhole, fnsQ, itX, inX, comX, byX, ordX, limX, fnL, wSel]
set_option maxHeartbeats 1000000 in
theorem pickA_fix (a : Int) (n : Nat) (hn : 0 < n) (hn2 : n ≤ 1000000) :
    ∃ r : Nat, r < n ∧ ∀ w : World, Calls Tryz.prog 10 #[.int .i64 a, .int .i64 n] w fun e w' => e = .returned (.int .i64 r) ∧ w' = w := by
  have hw : (0 : Int) ≤ IntKind.u64.wrap a ∧ IntKind.u64.wrap a < 18446744073709551616 := by rw [IntKind.wrap_u64]; omega
  have hz : ((n : Int) == 0) = false := by simp; omega
  have hnz : ¬ (n : Int) = 0 := by omega
  have hm0 : 0 ≤ IntKind.u64.wrap a % (n : Int) := Int.emod_nonneg _ hnz
  have hm1 : IntKind.u64.wrap a % (n : Int) < (n : Int) := Int.emod_lt_of_pos _ (by omega)
  refine ⟨(IntKind.u64.wrap a % (n : Int)).toNat, by omega, fun w => ?_⟩
  go_enter Tryz.func10, Tryz.ntmps10
  go_wp2
  go_ret
  refine ⟨E.ret_int ?_, rfl⟩
  first | (rw [E.wr_eq, E.wr64_id (by omega) (by omega)]; omega) | omega
end Go.Proofs.YtlnkbhbpkmnkaaaGreatDoor
namespace Go.Proofs.YtlnkbhbpkmnkaaaGreatDoor
open Go.RowKit Go.Proofs Go.Lib Go.Joins Go.Proofs.YtlnkbhbpkmnkaaaGreatDoor.Ask

/-- What the law's loop has of a number of each part, before part k. -/
def sumP {α : Type} (f : α → Int) (P : List α) (k : Nat) : Int := IntKind.i64.wrap (((P.take k).map f).sum)
theorem sumP_zero {α : Type} (f : α → Int) (P : List α) : sumP f P 0 = 0 := by
  show IntKind.i64.wrap 0 = 0
  rw [IntKind.wrap_i64]; decide
theorem sumP_next {α : Type} (f : α → Int) {P : List α} {k : Nat} {g : α} (h : P[k]? = some g) : IntKind.i64.wrap (sumP f P k + f g) = sumP f P (k + 1) := by
  unfold sumP
  rw [F.wrap_add, S.take_one_more h, List.map_append, List.sum_append]
  simp
theorem sumP_next' {α : Type} (f : α → Int) {P : List α} {k : Nat} {g : α} (h : P[k]? = some g) : IntKind.i64.wrap (sumP f P k + IntKind.i64.wrap (f g)) = sumP f P (k + 1) := by
  rw [F.wrap_add', sumP_next f h]
theorem sumP_all {α : Type} (f : α → Int) (P : List α) : sumP f P P.length = IntKind.i64.wrap (P.map f).sum := by
  unfold sumP; rw [List.take_length]
/-- A part's number that goes into the total. -/
def totF (kc : Nat) (num : Bool) (g : List (List F.V)) : Int := if num then F.isum (colP kc g) else g.length
theorem tot_num (kc : Nat) (num : Bool) (g : List (List F.V)) (hl : g.length ≤ 100) (hn : ∀ x ∈ colP kc g, 0 ≤ x.1 ∧ (x.1 = 0 → x.2.1 = 0)) :
    (if num then F.comesV .sum (colP kc g) else F.numV g.length).2.1 = IntKind.i64.wrap (totF kc num g) := by
  cases num with
  | true =>
    show (F.comesV .sum (colP kc g)).2.1 = IntKind.i64.wrap (F.isum (colP kc g))
    exact F.sum_num (fun x hx => (hn x hx).1) (fun x hx => (hn x hx).2)
  | false =>
    show (g.length : Int) = IntKind.i64.wrap (g.length : Int)
    rw [IntKind.wrap_i64]; omega
theorem parts_tot (ka kc : Nat) (num : Bool) (rows : List (List F.V)) : ((partsP ka rows).map (totF kc num)).sum = totF kc num rows := by
  cases num with
  | true => exact parts_isum ka kc rows
  | false => exact parts_count ka rows
theorem part_mem (ka kc : Nat) (rows : List (List F.V)) (g : List (List F.V)) (hg : g ∈ partsP ka rows) : ∀ x ∈ colP kc g, x ∈ colP kc rows := fun x hx =>
  (colP_mem ka kc rows x).2 ⟨colP kc g, List.mem_map_of_mem hg, hx⟩
theorem somes_le (l : List F.V) : F.somes l ≤ l.length := by
  unfold F.somes; omega
theorem somes_nn (l : List F.V) : 0 ≤ F.somes l := by
  have := S.nulls_le l
  unfold F.somes; omega
/-- What is so of each part: how many, of what; its number; the least and the greatest. -/
structure PartP (kc : Nat) (num : Bool) (g : List (List F.V)) : Prop where
  one : 1 ≤ g.length
  few : g.length ≤ 100
  cnt : F.comesV .count (colP kc g) = F.numV (F.somes (colP kc g))
  lo : 0 ≤ F.somes (colP kc g)
  hi : F.somes (colP kc g) ≤ g.length
  tot : (if num then F.comesV .sum (colP kc g) else F.numV g.length).2.1 = IntKind.i64.wrap (totF kc num g)
theorem partP_of {kc : Nat} {num : Bool} {g : List (List F.V)} (h1 : 1 ≤ g.length) (h2 : g.length ≤ 100) (hn : ∀ x ∈ colP kc g, 0 ≤ x.1 ∧ (x.1 = 0 → x.2.1 = 0)) : PartP kc num g where
  one := h1
  few := h2
  cnt := count_st fun x hx => (hn x hx).1
  lo := somes_nn _
  hi := by have := somes_le (colP kc g); have e : (colP kc g).length = g.length := by simp [colP]
           omega
  tot := tot_num kc num g h2 hn
theorem partP_all {kc : Nat} {num : Bool} (ka : Nat) {rows : List (List F.V)} (h0 : rows ≠ []) (h2 : rows.length ≤ 100) (hn : ∀ x ∈ colP kc rows, 0 ≤ x.1 ∧ (x.1 = 0 → x.2.1 = 0)) : PartP kc num rows ∧ ∀ g ∈ partsP ka rows, PartP kc num g := by
  refine ⟨partP_of (Nat.pos_of_ne_zero fun e => h0 (List.length_eq_zero_iff.1 e)) h2 hn, fun g hg => partP_of ?_ ?_ fun x hx => hn x (part_mem ka kc rows g hg x hx)⟩
  · exact Nat.pos_of_ne_zero fun e => partsP_ne ka rows g hg (List.length_eq_zero_iff.1 e)
  · have := part_le _ g hg
    rw [partsP_len] at this
    omega
/-- len of a slice, at an operation of a plain region. -/
theorem wpList_lenS {P : Program} {w : World} {ops : Array Oper} {rest : List Oper} {o : Oper} {a : Act} {Q : Exit → Act → World → Prop} (hgd : o.guard = none) (s : Operand) (t e : TypeId) (ho : o.op = .call { callee := .builtin .len, args := #[s], argTypes := #[t] }) (ht : P.underlying t = some (.slice e)) (b : Option Addr) (n c : Nat) (hs : a.eval s = .slice b n c) (h : wpList P ops Q rest (a.put o.dst (.int .i64 n)) w) : wpList P ops Q (o :: rest) a w :=
  wpList_plain hgd fun K hK => by
    have he : P.elem t = e := by simp [Program.elem, ht]
    have hr := run_len_slice (P := P) (w := w) t o.type b n c (by rw [he]; exact ht)
    unfold Oper.wp execOp
    simp only [ho, resolve, invoke, builtin, Sem.run_bind, Sem.run_pure, Result.andThen_ok, List.map_toArray, List.map_cons, List.map_nil, hs, hr]
    exact hK _ _ h
theorem wp_lenS {P : Program} {w : World} {o : Oper} {a : Act} {K : Act → World → Prop} {Q : Exit → Act → World → Prop} (s : Operand) (t e : TypeId) (ho : o.op = .call { callee := .builtin .len, args := #[s], argTypes := #[t] }) (ht : P.underlying t = some (.slice e)) (b : Option Addr) (n c : Nat) (hs : a.eval s = .slice b n c) (h : K (a.put o.dst (.int .i64 n)) w) : o.wp P a w K Q := by
  have he : P.elem t = e := by simp [Program.elem, ht]
  have hr := run_len_slice (P := P) (w := w) t o.type b n c (by rw [he]; exact ht)
  unfold Oper.wp execOp
  simp only [ho, resolve, invoke, builtin, Sem.run_bind, Sem.run_pure, Result.andThen_ok, List.map_toArray, List.map_cons, List.map_nil, hs, hr]
  exact h
/-- No row of the one is a row of the other. -/
def Ap (v u : Value) : Prop := ∀ b, v.ownBlock = some b → u.ownBlock ≠ some b
theorem Ap.symm {v u : Value} (h : Ap v u) : Ap u v := fun b h1 h2 => h b h2 h1
theorem own_lt {w : World} {B e z n b : Nat} {v : Value} {xs : List Value} (h : w.ownsRow B e z v n xs) (hb : v.ownBlock = some b) : b < w.heap.size := by
  rcases h.2 with ⟨rfl, _⟩ | ⟨g, cap, cur, rfl, _, hh, _⟩
  · cases hb
  · have e : g = b := by simpa [Value.ownBlock] using hb
    subst e
    exact E.blk_lt hh
theorem Ap.kept {w w' : World} {B e z n : Nat} {v u : Value} {xs : List Value} (h : Ap v u) (hu : w.ownsRow B e z u n xs) (hg : w.grownBy w' v.ownBlock) : w'.ownsRow B e z u n xs :=
  hu.kept hg (by
    cases hb : u.ownBlock with
    | none => exact .inl rfl
    | some b => exact .inr fun e => h b e.symm hb)
/-- Behind an append to the one. -/
theorem Ap.grow {w : World} {B e z n g m c : Nat} {v u : Value} {xs : List Value} (h : Ap v u) (hu : w.ownsRow B e z u n xs) (hat : v.ownBlock = some g ∨ g = w.heap.size) : Ap (.slice (some ⟨g, 0, none⟩) m c) u := by
  intro b hb hub
  have e : g = b := by simpa [Value.ownBlock] using hb
  subst e
  rcases hat with hat | hat
  · exact h g hat hub
  · have := own_lt hu hub
    omega
theorem blk_kept {w w' : World} {b : Nat} {row : Option Nat} {o : Obj} (h : w.heap[b]? = some o) (hg : w.grownBy w' row) (hne : some b ≠ row) : w'.heap[b]? = some o := (hg.block b (E.blk_lt h) hne).trans h
/-- A part's row in memory. -/
theorem rowP_at {w : World} {v : Value} {ka kc : Nat} {num : Bool} {g : List (List F.V)} (h : E.Sl w v (rowP ka kc num g)) (hp : PartP kc num g) : ∃ b o c, v = .slice (some ⟨b, o, none⟩) 6 c ∧ b < w.heap.size ∧
    (w.cell? ⟨b, o, none⟩ = some (.int .i64 (F.atV (g.headD []) ka).1) ∧ w.cell? ⟨b, o + 1, none⟩ = some (.int .i64 (F.atV (g.headD []) ka).2.1) ∧ w.cell? ⟨b, o + 2, none⟩ = some (.string (F.atV (g.headD []) ka).2.2)) ∧
    w.cell? ⟨b, o + 4, none⟩ = some (.int .i64 g.length) ∧ w.cell? ⟨b, o + 7, none⟩ = some (.int .i64 (F.somes (colP kc g))) ∧
    (w.cell? ⟨b, o + 9, none⟩ = some (.int .i64 (F.comesV .min (colP kc g)).1) ∧ w.cell? ⟨b, o + 10, none⟩ = some (.int .i64 (F.comesV .min (colP kc g)).2.1) ∧ w.cell? ⟨b, o + 11, none⟩ = some (.string (F.comesV .min (colP kc g)).2.2)) ∧
    (w.cell? ⟨b, o + 12, none⟩ = some (.int .i64 (F.comesV .max (colP kc g)).1) ∧ w.cell? ⟨b, o + 13, none⟩ = some (.int .i64 (F.comesV .max (colP kc g)).2.1) ∧ w.cell? ⟨b, o + 14, none⟩ = some (.string (F.comesV .max (colP kc g)).2.2)) ∧
    w.cell? ⟨b, o + 16, none⟩ = some (.int .i64 (IntKind.i64.wrap (totF kc num g))) := by
  obtain ⟨a, c, e, hc, hl⟩ := h
  obtain ⟨b, o, rfl, hb, hcell⟩ := hl (by simp [rowP])
  have h0 := hcell 0 _ rfl
  have h1 := hcell 1 _ rfl
  have h2 := hcell 2 _ rfl
  have h3 := hcell 3 _ rfl
  have h4 := hcell 4 _ rfl
  have h5 := hcell 5 _ rfl
  rw [hp.cnt] at h2
  rw [hp.tot] at h5
  exact ⟨b, o, c, e, hb, ⟨h0.1, h0.2.1, h0.2.2⟩, h1.2.1, h2.2.1, ⟨h3.1, h3.2.1, h3.2.2⟩, ⟨h4.1, h4.2.1, h4.2.2⟩, h5.2.1⟩
/-- The whole's row in memory. -/
theorem rowW_at {w : World} {v : Value} {kc : Nat} {num : Bool} {g : List (List F.V)} (h : E.Sl w v ((rowP 0 kc num g).drop 1)) (hp : PartP kc num g) : ∃ b o c, v = .slice (some ⟨b, o, none⟩) 5 c ∧ b < w.heap.size ∧
    w.cell? ⟨b, o + 1, none⟩ = some (.int .i64 g.length) ∧ w.cell? ⟨b, o + 4, none⟩ = some (.int .i64 (F.somes (colP kc g))) ∧
    (w.cell? ⟨b, o + 6, none⟩ = some (.int .i64 (F.comesV .min (colP kc g)).1) ∧ w.cell? ⟨b, o + 7, none⟩ = some (.int .i64 (F.comesV .min (colP kc g)).2.1) ∧ w.cell? ⟨b, o + 8, none⟩ = some (.string (F.comesV .min (colP kc g)).2.2)) ∧
    (w.cell? ⟨b, o + 9, none⟩ = some (.int .i64 (F.comesV .max (colP kc g)).1) ∧ w.cell? ⟨b, o + 10, none⟩ = some (.int .i64 (F.comesV .max (colP kc g)).2.1) ∧ w.cell? ⟨b, o + 11, none⟩ = some (.string (F.comesV .max (colP kc g)).2.2)) ∧
    w.cell? ⟨b, o + 13, none⟩ = some (.int .i64 (IntKind.i64.wrap (totF kc num g))) := by
  obtain ⟨a, c, e, hc, hl⟩ := h
  obtain ⟨b, o, rfl, hb, hcell⟩ := hl (by simp [rowP])
  have h1 := hcell 0 _ rfl
  have h2 := hcell 1 _ rfl
  have h3 := hcell 2 _ rfl
  have h4 := hcell 3 _ rfl
  have h5 := hcell 4 _ rfl
  rw [hp.cnt] at h2
  rw [hp.tot] at h5
  exact ⟨b, o, c, e, hb, h1.2.1, h2.2.1, ⟨h3.1, h3.2.1, h3.2.2⟩, ⟨h4.1, h4.2.1, h4.2.2⟩, h5.2.1⟩
theorem sz_mk (l : Array UInt8) : (⟨l⟩ : ByteArray).size = l.size := rfl
theorem sz_list (a : ByteArray) : a.data.toList.length = a.size := by rw [Array.length_toList]; rfl
theorem size_fns (c : ByteArray) (num : Bool) (hc : c.size ≤ 60) : (fnsS c num).size ≤ 400 := by
  cases num <;> simp only [fnsS, ByteArray.size_append, Bool.false_eq_true, if_true, if_false, sz_mk, List.size_toArray, List.length_cons, List.length_nil] <;> omega
theorem size_parts (a c : ByteArray) (num : Bool) (ha : a.size ≤ 60) (hc : c.size ≤ 60) : (bA (qX (qParts a.data.toList c.data.toList num))).size ≤ 1000000 := by
  rw [← text_parts]
  have := size_fns c num hc
  simp only [ByteArray.size_append, sz_mk, List.size_toArray, List.length_cons, List.length_nil]
  omega
theorem size_whole (c : ByteArray) (num : Bool) (hc : c.size ≤ 60) : (bA (qX (qWhole c.data.toList num))).size ≤ 1000000 := by
  rw [← text_whole]
  have := size_fns c num hc
  simp only [ByteArray.size_append, sz_mk, List.size_toArray, List.length_cons, List.length_nil]
  omega
/-- One more value behind a row of values of one's own, at an operation of a drawn region. -/
theorem step_apV {ops : Array Oper} {o : Oper} {a : Act} {K : Act → World → Prop} {Q : Exit → Act → World → Prop} {EE : Prop} {W : World} (hgd : o.guard = none) (s x : Operand)
    (ho : o.op = .call { callee := .builtin .append, args := #[s, x], argTypes := #[35, 35] }) (base n : Nat) (v : Value) (xs : List Value) (hown : W.ownsRow base 29 3 v n xs) (b : Nat) (u0 u1 : Int) (u2 : ByteArray)
    (hb : W.heap[b]? = some (.cells #[.int .i64 u0, .int .i64 u1, .string u2] 29)) (hs : a.eval s = v) (hx : a.eval x = .slice (some ⟨b, 0, none⟩) 1 1) (hn : n ≤ 1000) (hbase : base ≤ W.heap.size)
    (h : ∀ g cap w', Hid (w'.ownsRow base 29 3 (.slice (some ⟨g, 0, none⟩) (n + 1) cap) (n + 1) (xs ++ [.int .i64 u0, .int .i64 u1, .string u2]) ∧ W.grownBy w' v.ownBlock ∧ (v.ownBlock = some g ∨ g = W.heap.size)) → K (a.put o.dst (.slice (some ⟨g, 0, none⟩) (n + 1) cap)) w') :
    if Region.wanted o (yielded ops a.tmps) = true then Oper.wp Tryz.prog o a W K Q else EE := by
  obtain ⟨i0, hi0, hz0, hz1, hz2⟩ := info_parts E.info32
  exact step_append_lies W hgd s x 35 ho base 29 i0 (.agg #[.int .i64 0, .int .i64 0, .string ⟨#[]⟩]) 3 32 Tryz.underlying35 hi0 hz0 hz1 hz2 rfl (by omega) v n xs hs hown ⟨b, 0, none⟩ 1 1 [.int .i64 u0, .int .i64 u1, .string u2] hx (by simp) (fun j u hj => World.news_of_block hb j u (by simpa using hj)) (by simp [Value.oneCell']) (by omega) (by unfold maxLen; omega) (by omega) hbase _ rfl (fun g cap w' h2 h3 h4 _ => h g cap w' ⟨h2, h3, h4⟩)
/-- The same, beside another such row, and a block that is kept. -/
theorem step_apV2 {ops : Array Oper} {o : Oper} {a : Act} {K : Act → World → Prop} {Q : Exit → Act → World → Prop} {EE : Prop} {W : World} (hgd : o.guard = none) (s x : Operand)
    (ho : o.op = .call { callee := .builtin .append, args := #[s, x], argTypes := #[35, 35] }) (base n m : Nat) (w0 : World) (v u : Value) (xs ys : List Value) (b : Nat) (u0 u1 : Int) (u2 : ByteArray) (bk : Nat) (ok : Obj)
    (hb : W.heap[b]? = some (.cells #[.int .i64 u0, .int .i64 u1, .string u2] 29)) (hbk : W.heap[bk]? = some ok) (hown : W.ownsRow base 29 3 v n xs) (hu : W.ownsRow base 29 3 u m ys) (hap : Ap v u) (hbe : Below base w0 W) (hne : some bk ≠ v.ownBlock) (hs : a.eval s = v) (hx : a.eval x = .slice (some ⟨b, 0, none⟩) 1 1) (hn : n ≤ 1000) (hbase : base ≤ W.heap.size)
    (h : ∀ g cap w', Hid (w'.ownsRow base 29 3 (.slice (some ⟨g, 0, none⟩) (n + 1) cap) (n + 1) (xs ++ [.int .i64 u0, .int .i64 u1, .string u2])) → Hid (w'.ownsRow base 29 3 u m ys) → Hid (Ap (.slice (some ⟨g, 0, none⟩) (n + 1) cap) u) → Hid (Below base w0 w') → Hid (w'.heap[bk]? = some ok) → Hid (base ≤ w'.heap.size) → K (a.put o.dst (.slice (some ⟨g, 0, none⟩) (n + 1) cap)) w') :
    if Region.wanted o (yielded ops a.tmps) = true then Oper.wp Tryz.prog o a W K Q else EE :=
  step_apV hgd s x ho base n v xs hown b u0 u1 u2 hb hs hx hn hbase fun g cap w' H => h g cap w' (mkH H.out.1) (mkH (hap.kept hu H.out.2.1)) (mkH (hap.grow hu H.out.2.2)) (mkH (hbe.grown H.out.2.1 hbase (fun j e => (hown.lt j e).1))) (mkH (blk_kept hbk H.out.2.1 hne)) (mkH (Nat.le_trans hbase H.out.2.1.size))
theorem sl_vals {w : World} {B n : Nat} {v : Value} {l : List F.V} (h : w.ownsRow B 29 3 v n (E.flatV l)) (hn : n = l.length) : E.Sl w v l := by
  subst hn
  exact E.Sl_of_owns h
/-- '==' of two values, at an operation of a region that only reads. -/
theorem quiet_eqV {C : World → Prop} {o : Oper} {a : Act} {K : Act → Prop} (x y : Operand) (ho : o.op = .binOp .eql 29 x y 29) (k n : Int) (t : ByteArray) (hx : a.eval x = .agg #[.int .i64 k, .int .i64 n, .string t]) (hy : a.eval y = .agg #[.int .i64 k, .int .i64 n, .string t]) (h : K (a.put o.dst (.bool true))) : o.quiet Tryz.prog a C K := by
  refine ⟨.bool true, fun w _ => ?_, h⟩
  have hr : (Op.equalIn 10000 29 (.agg #[.int .i64 k, .int .i64 n, .string t]) (.agg #[.int .i64 k, .int .i64 n, .string t])).run Tryz.prog w = .ok true w := by rw [E.eqV_is]; simp
  unfold Oper.quietAt execOp
  have hg : Tryz.prog.eqGuardType Tryz.prog.depth 29 = false := by kernel_rfl
  simp only [ho, hx, hy, Sem.run_bind, Sem.run_pure, run_eql_struct, run_eqGuard_agg, hg, Result.andThen_ok]
  rw [hr]
  exact ⟨rfl, rfl⟩
theorem sum_n (ka : Nat) (rows : List (List F.V)) (hl : rows.length ≤ 1000) : sumP (fun g => (g.length : Int)) (partsP ka rows) (partsP ka rows).length = rows.length := by
  rw [sumP_all, parts_count, IntKind.wrap_i64]; omega
theorem sum_m (ka kc : Nat) (rows : List (List F.V)) (hl : rows.length ≤ 1000) : sumP (fun g => F.somes (colP kc g)) (partsP ka rows) (partsP ka rows).length = F.somes (colP kc rows) := by
  have h1 := somes_le (colP kc rows)
  have h2 := somes_nn (colP kc rows)
  have e : (colP kc rows).length = rows.length := by simp [colP]
  rw [sumP_all, parts_somes, IntKind.wrap_i64]; omega
theorem sum_t (ka kc : Nat) (num : Bool) (rows : List (List F.V)) : sumP (totF kc num) (partsP ka rows) (partsP ka rows).length = IntKind.i64.wrap (totF kc num rows) := by
  rw [sumP_all, parts_tot]
theorem fld_min (c m k1 n1 p1 q1 : Int) (t1 u1 : ByteArray) (W : World) : (Instr.field 38 (.agg #[.int .i64 c, .int .i64 m, .int .i64 k1, .int .i64 n1, .string t1, .int .i64 p1, .int .i64 q1, .string u1]) 2).run Tryz.prog W = .ok (.agg #[.int .i64 k1, .int .i64 n1, .string t1]) W := by kernel_rfl
theorem fld_max (c m k1 n1 p1 q1 : Int) (t1 u1 : ByteArray) (W : World) : (Instr.field 38 (.agg #[.int .i64 c, .int .i64 m, .int .i64 k1, .int .i64 n1, .string t1, .int .i64 p1, .int .i64 q1, .string u1]) 3).run Tryz.prog W = .ok (.agg #[.int .i64 p1, .int .i64 q1, .string u1]) W := by kernel_rfl
/-- What runs does at the law's first query, by parts' rows. -/
theorem runsP_any (lv rv : Value) (cols : List F.Col) (next : Int) (rows : List (List F.V)) (a c : F.Col) (ka kc : Nat) (num : Bool) (s : ByteArray) (w : World) (hr : C.RightP C.colB C.fitB cols next) (hka : cols[ka]? = some a) (hkc : cols[kc]? = some c) (ha : F.keptC a = false) (hc : F.keptC c = false) (hn : num = true → c.2.2.1 ≠ 2)
    (hs : s = bA (qX (qParts a.2.1.data.toList c.2.1.data.toList num))) (hal : a.2.1.size ≤ 60) (hcl : c.2.1.size ≤ 60) (hm : MkB w) (hg : GB w) (hw : 10 ≤ w.heap.size)
    (hcs : F.SlE 7 C.encC w lv cols) (hrs : F.SlR w rv rows) (hl : rows.length ≤ 900) :
    Calls Tryz.prog 11 #[lv, rv, .string s] w fun e w' => ∃ x y, e = .returned (.tuple #[.slice x (partsP ka rows).length y, .bool true]) ∧ F.SlR w' (.slice x (partsP ka rows).length y) ((partsP ka rows).map (rowP ka kc num)) ∧ Below w.heap.size w w' := by
  have hna : nmL a.2.1.data.toList = true := kept_nm (hr.2.2.1 a (List.mem_of_getElem? hka)).1.2.2.1 ha
  have hnc : nmL c.2.1.data.toList = true := kept_nm (hr.2.2.1 c (List.mem_of_getElem? hkc)).1.2.2.1 hc
  have h := runs_parts lv rv cols next rows a c ka kc num s w hr hka hkc hna hnc hn hs (by rw [hs]; exact size_parts _ _ _ hal hcl) (by rw [sz_list]; omega) (by rw [sz_list]; omega) hm hg hw hcs hrs hl
  rw [toldP_eq] at h
  refine h.mono ?_
  rintro e w' ⟨x, y, he, hsl, hb⟩
  rw [List.length_map] at he hsl
  exact ⟨x, y, he, hsl, hb⟩
/-- What runs does at the law's second query. -/
theorem runsW_any (lv rv : Value) (cols : List F.Col) (next : Int) (rows : List (List F.V)) (c : F.Col) (kc : Nat) (num : Bool) (s : ByteArray) (w : World) (hr : C.RightP C.colB C.fitB cols next) (hkc : cols[kc]? = some c) (hc : F.keptC c = false) (hn : num = true → c.2.2.1 ≠ 2)
    (hs : s = bA (qX (qWhole c.2.1.data.toList num))) (hcl : c.2.1.size ≤ 60) (hm : MkB w) (hg : GB w) (hw : 10 ≤ w.heap.size)
    (hcs : F.SlE 7 C.encC w lv cols) (hrs : F.SlR w rv rows) (h0 : rows ≠ []) (hl : rows.length ≤ 900) :
    Calls Tryz.prog 11 #[lv, rv, .string s] w fun e w' => ∃ x y, e = .returned (.tuple #[.slice x 1 y, .bool true]) ∧ F.SlR w' (.slice x 1 y) [(rowP 0 kc num rows).drop 1] ∧ Below w.heap.size w w' := by
  have hnc : nmL c.2.1.data.toList = true := kept_nm (hr.2.2.1 c (List.mem_of_getElem? hkc)).1.2.2.1 hc
  have h := runs_whole lv rv cols next rows c kc num s w hr hkc hnc hn hs (by rw [hs]; exact size_whole _ _ hcl) (by rw [sz_list]; omega) hm hg hw hcs hrs h0 hl
  rw [toldW_eq] at h
  exact h
end Go.Proofs.YtlnkbhbpkmnkaaaGreatDoor
