/- What ask.isFunction and a reader's item do, said of every call that goes well. -/
import Derived.Test.YtlnkbhbpkmnkaaaGreatDoorAAK
import Derived.OwnWalk
import Derived.Deep.AppendLies
import Derived.Test.YtlnkbhbpkmnkaaaGreatDoorW1
namespace Go.Proofs.YtlnkbhbpkmnkaaaGreatDoor
open Go.RowKit Go.Proofs Go.Lib Go.Proofs.YtlnkbhbpkmnkaaaGreatDoor.Ask

def nmL (l : List UInt8) : Bool := mayN (bA l) && nameB (bA l)
def NmPost (B : Nat) (ts : List Tok) (w : World) (e : Ending) (w' : World) : Prop :=
  Past B w w' ∧ (((hdTok ts).kind = 1 ∧ nmL (hdTok ts).text = true ∧ e = .returned (.string (bA (hdTok ts).text)) ∧ Rd w' B (ts.drop 1)) ∨ (¬ ((hdTok ts).kind = 1 ∧ nmL (hdTok ts).text = true) ∧ Thrown e))
set_option maxHeartbeats 4000000 in
set_option maxRecDepth 100000 in
theorem rname_any (B : Nat) (ts : List Tok) (w : World) (hr : Rd w B ts) (hn : ts.length ≤ 1000) (hl : (hdTok ts).text.length ≤ 1000000) (hw : NnB w) :
    Calls Tryz.prog 69 #[.pointer (some ⟨B, 0, none⟩)] w (NmPost B ts w) := by
  have HT := mkH (token_rd B ts w hr)
  have HU : Hid (∀ V o, Below w.heap.size w V → Rd (V.alloc o) B ts ∧ Below w.heap.size w (V.alloc o)) := fun V o hb =>
    have hb' := hb.alloc hb.size o
    ⟨hr.up hb', hb'⟩
  have HP : Hid (∀ V, Rd V B ts → Calls Tryz.prog 106 #[.pointer (some ⟨B, 0, none⟩)] V fun e w' => e = .returned (.tuple #[]) ∧ Rd w' B (ts.drop 1) ∧ Past B V w') := fun V h => pass_past B ts V h hn
  have HB : Hid (B < w.heap.size) := hr.lt
  have HW := mkH throw_any
  have HM : Hid (∀ V, Below w.heap.size w V → Calls Tryz.prog 108 #[.string (bA (hdTok ts).text)] V fun e w' => e = .returned (.bool (mayN (bA (hdTok ts).text))) ∧ w' = V) := fun V hb => mayName_any _ V (hw.below hb)
  have HN : Hid (∀ V, Calls Tryz.prog 109 #[.string (bA (hdTok ts).text)] V fun e w' => e = .returned (.bool (nameB (bA (hdTok ts).text))) ∧ Below V.heap.size V w') := fun V => name_any _ V (by rw [bA_size]; unfold maxLen; omega)
  clear hr hn hl hw
  unfold NmPost nmL
  generalize (hdTok ts).kind = tk at *
  generalize bA (hdTok ts).text = tt at *
  generalize (hdTok ts).code = tc at *
  generalize mayN tt = b1 at *
  generalize nameB tt = b2 at *
  by_cases h1 : tk = 1
  · subst h1
    cases b1 with
    | false =>
      go_enter Tryz.func69, Tryz.ntmps69
      go_wp2_with fail
      refine HT.out.mono ?_
      rintro e w1 ⟨⟨p, rfl⟩, hb1⟩
      unfold tokV
      go_wp2_with (first
        | (go_at_call 108; refine (HM.out _ (HU.out _ _ hb1).2).mono ?_; rintro e w2 ⟨rfl, rfl⟩))
      refine (HW.out _ _ _).mono ?_
      rintro e w3 ⟨⟨a, rfl⟩, hb3⟩
      exact ⟨rfl, (Past.of (Nat.le_of_lt HB.out) (HU.out _ _ hb1).2).up (Nat.le_trans (Nat.le_of_lt HB.out) (HU.out _ _ hb1).2.size) hb3, .inr ⟨by simp, _, rfl⟩⟩
    | true =>
      cases b2 with
      | false =>
        go_enter Tryz.func69, Tryz.ntmps69
        go_wp2_with fail
        refine HT.out.mono ?_
        rintro e w1 ⟨⟨p, rfl⟩, hb1⟩
        unfold tokV
        go_wp2_with (first
          | (go_at_call 108; refine (HM.out _ (HU.out _ _ hb1).2).mono ?_; rintro e w2 ⟨rfl, rfl⟩))
        refine (HN.out _).mono ?_
        rintro e w2 ⟨rfl, hb2⟩
        have hk := (hb2.block w1.heap.size (by simp)).trans (heap_alloc_new _ _)
        have hc := cell_of_heap hk 2
        simp at hc
        go_wp2_with fail
        refine (HW.out _ _ _).mono ?_
        rintro e w3 ⟨⟨a, rfl⟩, hb3⟩
        have hB0 := Nat.le_of_lt HB.out
        have hB1 : ∀ o, B ≤ (w1.alloc o).heap.size := fun o => Nat.le_trans hB0 (HU.out w1 o hb1).2.size
        exact ⟨rfl, ((Past.of hB0 (HU.out _ _ hb1).2).up (hB1 _) hb2).up (Nat.le_trans (hB1 _) hb2.size) hb3, .inr ⟨by simp, _, rfl⟩⟩
      | true =>
        go_enter Tryz.func69, Tryz.ntmps69
        go_wp2_with fail
        refine HT.out.mono ?_
        rintro e w1 ⟨⟨p, rfl⟩, hb1⟩
        unfold tokV
        go_wp2_with (first
          | (go_at_call 108; refine (HM.out _ (HU.out _ _ hb1).2).mono ?_; rintro e w2 ⟨rfl, rfl⟩))
        refine (HN.out _).mono ?_
        rintro e w2 ⟨rfl, hb2⟩
        have hk := (hb2.block w1.heap.size (by simp)).trans (heap_alloc_new _ _)
        go_wp2_with fail
        refine (HP.out _ ((HU.out _ _ hb1).1.up hb2)).mono ?_
        rintro e w3 ⟨rfl, hr3, hp3⟩
        have hs1 := hb1.size
        have hs2 := hb2.size
        simp at hs2
        have hk3 := (hp3.keep w1.heap.size (by omega) (by have := HB.out; omega)).trans hk
        have hc := cell_of_heap hk3 1
        simp at hc
        go_wp2
        go_ret
        have hB0 := Nat.le_of_lt HB.out
        have hB1 : ∀ o, B ≤ (w1.alloc o).heap.size := fun o => Nat.le_trans hB0 (HU.out w1 o hb1).2.size
        exact ⟨((Past.of hB0 (HU.out _ _ hb1).2).up (hB1 _) hb2).trans hp3, .inl ⟨by simp, by simp, rfl, hr3⟩⟩
  · have h2 : ¬ ((tk : Int) = 1) := by omega
    have h3 : ((tk : Int) == 1) = false := by simpa using h2
    go_enter Tryz.func69, Tryz.ntmps69
    go_wp2_with fail
    refine HT.out.mono ?_
    rintro e w1 ⟨⟨p, rfl⟩, hb1⟩
    unfold tokV
    go_wp2_with fail
    refine (HW.out _ _ _).mono ?_
    rintro e w3 ⟨⟨a, rfl⟩, hb3⟩
    exact ⟨rfl, (Past.of (Nat.le_of_lt HB.out) (HU.out _ _ hb1).2).up (Nat.le_trans (Nat.le_of_lt HB.out) (HU.out _ _ hb1).2.size) hb3, .inr ⟨fun h => h1 h.1, _, rfl⟩⟩
end Go.Proofs.YtlnkbhbpkmnkaaaGreatDoor
namespace Go.Proofs.YtlnkbhbpkmnkaaaGreatDoor
open Go.RowKit Go.Proofs Go.Lib Go.Proofs.YtlnkbhbpkmnkaaaGreatDoor.Ask

def NbPost (B : Nat) (ts : List Tok) (w : World) (e : Ending) (w' : World) : Prop :=
  Past B w w' ∧ ((∃ n, (hdTok ts).kind = 2 ∧ numT (hdTok ts).text = some n ∧ e = .returned (.int .i64 n) ∧ Rd w' B (ts.drop 1)) ∨ (¬ ((hdTok ts).kind = 2 ∧ (numT (hdTok ts).text).isSome = true) ∧ Thrown e))
set_option maxHeartbeats 4000000 in
set_option maxRecDepth 100000 in
theorem rnumber_any (B : Nat) (ts : List Tok) (w : World) (hr : Rd w B ts) (hn : ts.length ≤ 1000) (hl : (hdTok ts).text.length ≤ 1000000) (hw : ErrB w) :
    Calls Tryz.prog 110 #[.pointer (some ⟨B, 0, none⟩)] w (NbPost B ts w) := by
  have HT := mkH (token_rd B ts w hr)
  have HU : Hid (∀ V o, Below w.heap.size w V → Rd (V.alloc o) B ts ∧ Below w.heap.size w (V.alloc o)) := fun V o hb =>
    have hb' := hb.alloc hb.size o
    ⟨hr.up hb', hb'⟩
  have HP : Hid (∀ V, Rd V B ts → Calls Tryz.prog 106 #[.pointer (some ⟨B, 0, none⟩)] V fun e w' => e = .returned (.tuple #[]) ∧ Rd w' B (ts.drop 1) ∧ Past B V w') := fun V h => pass_past B ts V h hn
  have HB : Hid (B < w.heap.size) := hr.lt
  have HW := mkH throw_any
  have HM : Hid (∀ V, Below w.heap.size w V → Calls Tryz.prog 146 #[.string (bA (hdTok ts).text), .int .i64 10, .int .i64 64] V (NumPost (hdTok ts).text V)) := fun V hb => by
    have := parse_any (bA (hdTok ts).text) V (by rw [bA_size]; omega) (hw.below hb)
    rw [bA_toList] at this
    exact this
  clear hr hn hl hw
  unfold NbPost
  unfold NumPost at HM
  generalize (hdTok ts).kind = tk at *
  generalize numT (hdTok ts).text = nt at *
  generalize bA (hdTok ts).text = tt at *
  generalize (hdTok ts).code = tc at *
  by_cases h1 : tk = 2
  · subst h1
    go_enter Tryz.func110, Tryz.ntmps110
    go_wp2_with fail
    refine HT.out.mono ?_
    rintro e w1 ⟨⟨p, rfl⟩, hb1⟩
    unfold tokV
    go_wp2_with fail
    refine (HM.out _ (HU.out _ _ hb1).2).mono ?_
    rintro e w2 ⟨n, er, rfl, hb2, h⟩
    have hk := (hb2.block w1.heap.size (by simp)).trans (heap_alloc_new _ _)
    have hB0 := Nat.le_of_lt HB.out
    have hB1 : ∀ o, B ≤ (w1.alloc o).heap.size := fun o => Nat.le_trans hB0 (HU.out w1 o hb1).2.size
    rcases h with ⟨hnt, rfl⟩ | ⟨hnt, t, v, rfl⟩
    · go_wp2_with fail
      refine (HP.out _ ((HU.out _ _ hb1).1.up hb2)).mono ?_
      rintro e w3 ⟨rfl, hr3, hp3⟩
      go_wp2
      go_ret
      exact ⟨((Past.of hB0 (HU.out _ _ hb1).2).up (hB1 _) hb2).trans hp3, .inl ⟨n, by simp, hnt, rfl, hr3⟩⟩
    · have hc := cell_of_heap hk 2
      simp at hc
      go_wp2_with fail
      refine (HW.out _ _ _).mono ?_
      rintro e w3 ⟨⟨a, rfl⟩, hb3⟩
      exact ⟨rfl, ((Past.of hB0 (HU.out _ _ hb1).2).up (hB1 _) hb2).up (Nat.le_trans (hB1 _) hb2.size) hb3, .inr ⟨by rw [hnt]; simp, _, rfl⟩⟩
  · have h2 : ¬ ((tk : Int) = 2) := by omega
    have h3 : ((tk : Int) == 2) = false := by simpa using h2
    go_enter Tryz.func110, Tryz.ntmps110
    go_wp2_with fail
    refine HT.out.mono ?_
    rintro e w1 ⟨⟨p, rfl⟩, hb1⟩
    unfold tokV
    go_wp2_with fail
    refine (HW.out _ _ _).mono ?_
    rintro e w3 ⟨⟨a, rfl⟩, hb3⟩
    exact ⟨rfl, (Past.of (Nat.le_of_lt HB.out) (HU.out _ _ hb1).2).up (Nat.le_trans (Nat.le_of_lt HB.out) (HU.out _ _ hb1).2.size) hb3, .inr ⟨fun h => h1 h.1, _, rfl⟩⟩
end Go.Proofs.YtlnkbhbpkmnkaaaGreatDoor
namespace Go.Proofs.YtlnkbhbpkmnkaaaGreatDoor
open Go.RowKit Go.Proofs Go.Lib Go.Proofs.YtlnkbhbpkmnkaaaGreatDoor.Ask

structure Ok (ts : List Tok) : Prop where
  len : ts.length ≤ 1000
  each : ∀ t ∈ ts, t.text.length ≤ 1000000 ∧ t.code ≤ 6
theorem Ok.suffix {ts r : List Tok} (h : Ok ts) (hs : r <:+ ts) : Ok r :=
  ⟨Nat.le_trans hs.length_le h.len, fun t ht => h.each t (hs.subset ht)⟩
theorem Ok.hd {ts : List Tok} (h : Ok ts) : (hdTok ts).text.length ≤ 1000000 ∧ (hdTok ts).code ≤ 6 := by
  cases ts with
  | nil => simp [hdTok, endT]
  | cons t ts => exact h.each t (List.mem_cons_self ..)
section
variable {w W : World} {base : Nat} {e : TypeId} {z : Nat} {v : Value} {n : Nat} {xs : List Value}
theorem own_up (h : w.ownsRow base e z v n xs) (hb : Below w.heap.size w W) : W.ownsRow base e z v n xs := by
  refine ⟨h.1, ?_⟩
  rcases h.2 with h | ⟨g, c, cur, hv, hb', hg, hr⟩
  · exact .inl h
  · exact .inr ⟨g, c, cur, hv, hb', (hb.block g (blk_lt hg)).trans hg, hr⟩
theorem own_sl (h : w.ownsRow base e z v n xs) : ∃ a c, v = .slice a n c := by
  rcases h.2 with ⟨e1, e0⟩ | ⟨g, c, cur, e1, _⟩
  · exact ⟨none, 0, by rw [e1, e0]⟩
  · exact ⟨_, c, e1⟩
theorem own_blk (h : w.ownsRow base e z v n xs) {k : Nat} (hk : v.ownBlock = some k) : base ≤ k := by
  rcases h.2 with ⟨e1, _⟩ | ⟨g, c, cur, e1, hb, _⟩
  · rw [e1] at hk; cases hk
  · rw [e1] at hk; cases hk; exact hb
end
def encT (x : Tok × Int) : List Value := [.int .i64 (x.1.kind : Int), .string (bA x.1.text), .int .i64 x.2, .int .i64 (x.1.code : Int)]
def cellsT (l : List (Tok × Int)) : List Value := (l.map encT).flatten
theorem cellsT_snoc (l : List (Tok × Int)) (x : Tok × Int) : cellsT (l ++ [x]) = cellsT l ++ encT x := by simp [cellsT]
theorem cellsT_len (l : List (Tok × Int)) : (cellsT l).length = l.length * 4 := by
  induction l with
  | nil => rfl
  | cons x l ih => simp only [cellsT, List.map_cons, List.flatten_cons, List.length_append, List.length_cons] at *; rw [ih]; simp [encT]; omega
def zeroT : Value := .agg #[.int .i64 0, .string ⟨#[]⟩, .int .i64 0, .int .i64 0]
theorem infoT : (Tryz.prog.info? 164).map (fun i => (i.zero, i.size, i.bytes)) = some (some zeroT, 4, 40) := by kernel_rfl
theorem text_le {s : List UInt8} {t : Tok} {r : List UInt8} (h : first1 s = some (t, r)) : t.text.length ≤ s.length := by
  cases s with
  | nil => cases h
  | cons b s =>
    simp only [first1] at h
    have h1 := (List.takeWhile_sublist isWc (l := s)).length_le
    have h2 := (List.takeWhile_sublist isDg (l := s)).length_le
    have h3 := (List.takeWhile_sublist notQ (l := s)).length_le
    split at h
    · cases h; simp only [List.length_cons]; omega
    · split at h
      · cases h; simp only [List.length_cons]; omega
      · split at h
        · cases h; simp only [List.length_cons]; omega
        · split at h
          · cases h; simp only [List.length_cons]; omega
          · unfold markF at h
            split at h <;> first
              | (rename_i heq; rw [heq]; cases h; simp [tM])
              | cases h
theorem ext_drop (s : ByteArray) (n : Nat) : s.extract n s.size = bA (s.data.toList.drop n) := by
  rw [extract_eq, List.take_of_length_le (by rw [List.length_drop, ← size_eq]; exact Nat.le_refl _)]; rfl
/-- What lies in a row, as tokens lie. -/
theorem lies_row {W : World} {g : Nat} {cs : Array Value} (hk : W.heap[g]? = some (.cells cs 164)) : ∀ (l : List (Tok × Int)) (p : Int) (o : Nat), (cs.toList.drop o).take (l.length * 4 + 4) = cellsT (l ++ [(endT, p)]) → Lies W g o (l.map Prod.fst)
  | [], p, o, h => by
    have e : cellsT ([] ++ [(endT, p)]) = encT (endT, p) := by simp [cellsT]
    rw [e] at h
    have at' : ∀ j u, (encT (endT, p))[j]? = some u → cs[o + j]? = some u := fun j u hj => by
      rw [← h, List.getElem?_take] at hj
      split at hj
      · rw [List.getElem?_drop] at hj; rw [← Array.getElem?_toList]; exact hj
      · cases hj
    exact ⟨p, cs, hk, at' 0 _ rfl, at' 1 _ rfl, at' 2 _ rfl, at' 3 _ rfl⟩
  | x :: l, p, o, h => by
    have e : cellsT ((x :: l) ++ [(endT, p)]) = encT x ++ cellsT (l ++ [(endT, p)]) := by simp [cellsT]
    rw [e] at h
    have hx : (encT x).length = 4 := rfl
    have at' : ∀ j u, (encT x)[j]? = some u → cs[o + j]? = some u := fun j u hj => by
      have hj4 : j < 4 := by
        rcases Nat.lt_or_ge j 4 with h' | h'
        · exact h'
        · rw [List.getElem?_eq_none (by omega)] at hj; cases hj
      have hj2 : (encT x ++ cellsT (l ++ [(endT, p)]))[j]? = some u := by rw [List.getElem?_append_left (by omega)]; exact hj
      rw [← h, List.getElem?_take, if_pos (by simp only [List.length_cons]; omega), List.getElem?_drop] at hj2
      rw [← Array.getElem?_toList]; exact hj2
    refine ⟨⟨x.2, cs, hk, at' 0 _ rfl, at' 1 _ rfl, at' 2 _ rfl, at' 3 _ rfl⟩, lies_row hk l p (o + 4) ?_⟩
    have h2 := congrArg (List.drop 4) h
    rw [List.drop_left' hx, List.drop_take, List.drop_drop] at h2
    rw [← h2]
    simp only [List.length_cons]
    congr 1
    omega
end Go.Proofs.YtlnkbhbpkmnkaaaGreatDoor
namespace Go.Proofs.YtlnkbhbpkmnkaaaGreatDoor
open Go.RowKit Go.Proofs Go.Lib Go.Proofs.YtlnkbhbpkmnkaaaGreatDoor.Ask

def intNat : Value → Nat
  | .int _ n => n.toNat
  | _ => 0
theorem drop_len {q : UInt8 → Bool} (l : List UInt8) : l.dropWhile q = l.drop (l.takeWhile q).length := by
  induction l with
  | nil => rfl
  | cons b l ih => rw [List.dropWhile_cons, List.takeWhile_cons]; split <;> simp [ih]
theorem dropB_eq (l : List UInt8) : dropB l = l.drop (runL blR l) := drop_len l
theorem first_suf {s : List UInt8} {t : Tok} {r : List UInt8} (h : first1 s = some (t, r)) : r <:+ s := by
  cases s with
  | nil => cases h
  | cons b s =>
    have hc : ∀ {x : List UInt8}, x <:+ s → x <:+ b :: s := fun hx => hx.trans (List.suffix_cons b s)
    simp only [first1] at h
    split at h
    · cases h; exact hc (List.dropWhile_suffix _)
    · split at h
      · cases h; exact hc (List.dropWhile_suffix _)
      · split at h
        · cases h; exact hc (List.dropWhile_suffix _)
        · split at h
          · cases h; exact hc ((List.drop_suffix _ _).trans (List.dropWhile_suffix _))
          · unfold markF at h
            split at h <;> first
              | (rename_i heq; rw [heq]; cases h; first
                  | exact List.suffix_cons _ _
                  | exact (List.suffix_cons _ _).trans (List.suffix_cons _ _))
              | cases h
theorem first_rest {s : List UInt8} {t : Tok} {r : List UInt8} (h : first1 s = some (t, r)) : r = s.drop (s.length - r.length) := List.suffix_iff_eq_drop.mp (first_suf h)
def TsPost (l : List UInt8) (w : World) (e : Ending) (w' : World) : Prop :=
  ∃ o, TS 0 l o ∧ Below w.heap.size w w' ∧ ((o = none ∧ Thrown e) ∨ ∃ ts g c, o = some ts ∧ e = .returned (.slice (some ⟨g, 0, none⟩) (ts.length + 1) c) ∧ ts.length + 1 ≤ c ∧ w.heap.size ≤ g ∧ Lies w' g 0 ts ∧ Ok ts)
set_option maxHeartbeats 8000000 in
set_option maxRecDepth 100000 in
theorem tokens_any (s : ByteArray) (w : World) (hs : s.size ≤ 1000000) (hm : MkB w) : Calls Tryz.prog 62 #[.string s] w (TsPost s.data.toList w) := by
  have HM := mkH hm
  have HSZ := mkH (size_eq s)
  have hmf := hmfA
  obtain ⟨iC, ic1, ic2, ic3, ic4⟩ := info_parts infoT
  have HIC := mkH (And.intro ic1 (And.intro ic2 (And.intro ic3 ic4)))
  clear hm ic1 ic2 ic3 ic4
  unfold TsPost
  generalize hsl : s.data.toList = sl at *
  go_enter Tryz.func62, Tryz.ntmps62
  go_wp2_with fail
  go_loopw [3, 4] (fun vl vp wr => ∃ (P : Nat) (acc : List (Tok × Int)) (a : Option Addr) (c : Nat), vl = .slice a acc.length c ∧ vp = .int .i64 (P : Int) ∧ P ≤ s.size ∧ acc.length ≤ 80 ∧ Hid (∀ o, TS acc.length (sl.drop P) o → TS 0 sl (o.map (acc.map Prod.fst ++ ·))) ∧ Hid (wr.ownsRow w.heap.size 164 4 (.slice a acc.length c) acc.length (cellsT acc)) ∧ Hid (Below w.heap.size w wr) ∧ Hid (∀ t ∈ acc, t.1.text.length ≤ 1000000)) (fun _ vp _ => s.size - intNat vp)
  case atStart => exact ⟨0, [], none, 0, rfl, rfl, Nat.zero_le _, Nat.zero_le _, mkH (by intro o h; simpa using h), mkH (World.ownsRow_nil ..), mkH (Below.refl _ _), mkH (by simp)⟩
  case round =>
    obtain ⟨P, acc, a, c, rfl, rfl, hP, hA, HTS, HOW, HBW, HTX⟩ := hrel
    have c1 : (0 : Int) ≤ (P : Int) := by omega
    have c2 : (P : Int) ≤ (s.size : Int) := by omega
    go_wp2_with fail
    have HRN := run_blank (s.extract P s.size) (by unfold maxLen; rw [ext_drop, bA_size, List.length_drop, hsl, ← HSZ.out]; omega) wr
    rw [ext_drop, bA_toList, hsl] at HRN
    rw [ext_drop, hsl]
    refine HRN.mono ?_
    rintro e w1 ⟨rfl, hb1⟩
    have hn := runL_le blR (sl.drop P)
    have HDB := mkH (dropB_eq (sl.drop P))
    rw [List.length_drop, ← HSZ.out] at hn
    rw [List.drop_drop] at HDB
    have HB1 := mkH (Below.ups HBW.out hb1)
    have HO1 := mkH (own_up HOW.out hb1)
    clear HRN hb1 HOW HBW
    generalize hrn : runL blR (sl.drop P) = n at *
    clear hrn
    have hPn : P + n ≤ s.size := by omega
    by_cases hend : P + n = s.size
    · have c3 : ((P : Int) + (n : Int)) = (s.size : Int) := by omega
      have HFIN : Hid (TS 0 sl (some (acc.map Prod.fst))) := by
        show TS _ _ _
        have := HTS.out (some []) (.fin (by rw [HDB.out, List.drop_of_length_le (by rw [← HSZ.out]; omega)]))
        simpa using this
      have HA1 : Hid (Below w1.heap.size w1 (w1.alloc (oTok 0 ⟨#[]⟩ (s.size : Int) 0))) := mkH ((Below.refl _ _).alloc (Nat.le_refl _) _)
      go_wp2_with (first
        | (at_builtin; refine wpList_append_own _ rfl _ _ 113 rfl w.heap.size 164 iC zeroT 4 40 Tryz.underlying113 HIC.out.1 HIC.out.2.1 HIC.out.2.2.1 HIC.out.2.2.2 rfl (by decide) (.slice a acc.length c) acc.length (cellsT acc) rfl (own_up HO1.out HA1.out) ⟨w1.heap.size, 0, none⟩ 1 1 [.int .i64 0, .string ⟨#[]⟩, .int .i64 (s.size : Int), .int .i64 0] rfl rfl (fun j u hj => World.news_of_block (heap_alloc_new _ _) j u hj) (by intro u hu; simp at hu; rcases hu with rfl | rfl | rfl | rfl <;> rfl) (by unfold maxLen; omega) (by omega) (Nat.le_trans HB1.out.size HA1.out.size) ?_
           intro v1 w3 hown3 hg3 _
           have HO3 := mkH hown3
           have HG3 := mkH hg3
           clear hown3 hg3))
      obtain ⟨a', c', rfl⟩ := own_sl HO3.out
      go_ret
      have hb4 := Below.ups HB1.out HA1.out
      refine ⟨_, HFIN.out, hb4.grown HG3.out hb4.size (fun j hj => own_blk HO1.out hj), .inr ?_⟩
      rcases HO3.out.2 with ⟨_, h0⟩ | ⟨g, cap, cur, hv, hbg, hk, hc1, _, _, htk⟩
      · omega
      · cases hv
        have hle : (acc.map Prod.fst).length = acc.length := by simp
        refine ⟨acc.map Prod.fst, g, c', rfl, by rw [hle]; rfl, by rw [hle]; omega, hbg, lies_row hk acc (s.size : Int) 0 ?_, ?_⟩
        · rw [List.drop_zero, cellsT_snoc]
          have e4 : acc.length * 4 + 4 = (acc.length + 1) * 4 := by omega
          rw [e4, htk]; rfl
        · refine ⟨by rw [hle]; omega, fun t ht => ?_⟩
          obtain ⟨x, hx, rfl⟩ := List.mem_map.mp ht
          exact ⟨HTX.out x hx, (ts_codes HFIN.out _ rfl (by omega)).1 _ ht⟩
    · have c3 : ¬ (((P : Int) + (n : Int)) = (s.size : Int)) := by omega
      have c4 : (((P : Int) + (n : Int)) == (s.size : Int)) = false := by simpa using c3
      have HFS := first_any (s.extract (P + n) s.size) w1 (by rw [ext_drop, bA_size, List.length_drop, hsl, ← HSZ.out]; omega) (HM.out.below HB1.out) (by rw [ext_drop, bA_size, List.length_drop, hsl, ← HSZ.out]; omega)
      rw [ext_drop, bA_toList, hsl] at HFS
      unfold FPost at HFS
      have HLN : Hid ((sl.drop (P + n)).length = s.size - (P + n)) := by show _ = _; rw [List.length_drop, ← HSZ.out]
      have HDD : Hid (dropB (sl.drop P) ≠ []) := by
        show _ ≠ _
        rw [HDB.out]
        intro e
        have := congrArg List.length e
        rw [HLN.out] at this
        simp at this
        omega
      rw [← HDB.out] at HFS HLN
      have HXX := mkH HDB.out
      clear HDB
      have HF := mkH HFS
      clear HFS
      cases hf : first1 (dropB (sl.drop P)) with
      | none =>
        rw [hf] at HF
        have HTN : Hid (TS 0 sl none) := HTS.out none (.bad HDD.out hf)
        clear hf
        go_wp2_with fail
        rw [ext_drop, hsl, ← HXX.out]
        refine HF.out.mono ?_
        rintro e w2 ⟨hb2, rfl⟩
        have HB2 := mkH (Below.ups HB1.out hb2)
        clear hb2
        unfold tokV
        go_wp2_with fail
        refine (throw_any _ _ _).mono ?_
        rintro e w3 ⟨⟨ad, rfl⟩, hb3⟩
        exact ⟨rfl, none, HTN.out, Below.ups (HB2.out.alloc HB2.out.size _) hb3, .inl ⟨rfl, ad, rfl⟩⟩
      | some p =>
        obtain ⟨t, r⟩ := p
        rw [hf] at HF
        have hle := (first_le hf).1
        have HRS := mkH (first_rest hf)
        rw [HLN.out] at hle HRS
        have HXL := mkH HLN.out
        have HTL : Hid (t.text.length ≤ 1000000) := by
          show _ ≤ _
          have := text_le hf
          rw [HLN.out] at this
          omega
        by_cases h80 : acc.length = 80
        · have HTN : Hid (TS 0 sl none) := HTS.out none (.many hf h80)
          clear hf
          have c5 : (acc.length : Int) = 80 := by omega
          go_wp2_with fail
          rw [ext_drop, hsl, ← HXX.out]
          refine HF.out.mono ?_
          rintro e w2 ⟨hb2, rfl⟩
          rw [HXL.out]
          have HB2 := mkH (Below.ups HB1.out hb2)
          clear hb2
          unfold tokV
          have c6 : ¬ (((s.size - (P + n) - r.length : Nat) : Int) = 0) := by omega
          have c7 : ((((s.size - (P + n) - r.length : Nat) : Int)) == 0) = false := by simpa using c6
          generalize s.size - (P + n) - r.length = ln at *
          go_wp2_with fail
          refine (throw_any _ _ _).mono ?_
          rintro e w3 ⟨⟨ad, rfl⟩, hb3⟩
          exact ⟨rfl, none, HTN.out, Below.ups (HB2.out.alloc HB2.out.size _) hb3, .inl ⟨rfl, ad, rfl⟩⟩
        · have HTN : Hid (∀ o, TS (acc.length + 1) r o → TS 0 sl ((o.map (t :: ·)).map (acc.map Prod.fst ++ ·))) := fun o h => HTS.out _ (.go hf h80 h)
          clear hf
          have c5 : ¬ ((acc.length : Int) = 80) := by omega
          have c55 : ((acc.length : Int) == 80) = false := by simpa using c5
          go_wp2_with fail
          rw [ext_drop, hsl, ← HXX.out]
          refine HF.out.mono ?_
          rintro e w2 ⟨hb2, rfl⟩
          rw [HXL.out]
          have HB2 := mkH (Below.ups HB1.out hb2)
          have HO2 := mkH (own_up HO1.out hb2)
          clear hb2
          unfold tokV
          have c6 : ¬ (((s.size - (P + n) - r.length : Nat) : Int) = 0) := by omega
          have c7 : ((((s.size - (P + n) - r.length : Nat) : Int)) == 0) = false := by simpa using c6
          have c8 : P + n + (s.size - (P + n) - r.length) ≤ s.size := by omega
          generalize hln : s.size - (P + n) - r.length = ln at *
          have HA2 : Hid (Below w2.heap.size w2 ((w2.alloc (oTok (t.kind : Int) (bA t.text) ((P : Int) + (n : Int)) (t.code : Int))).alloc (oTok (t.kind : Int) (bA t.text) ((P : Int) + (n : Int)) (t.code : Int)))) := mkH (((Below.refl _ _).alloc (Nat.le_refl _) _).alloc (by rw [World.size_alloc]; exact Nat.le_succ _) _)
          go_wp2_with (first
            | (at_builtin; refine wpList_append_own _ rfl _ _ 113 rfl w.heap.size 164 iC zeroT 4 40 Tryz.underlying113 HIC.out.1 HIC.out.2.1 HIC.out.2.2.1 HIC.out.2.2.2 rfl (by decide) (.slice a acc.length c) acc.length (cellsT acc) rfl (own_up HO2.out HA2.out) ⟨w2.heap.size + 1, 0, none⟩ 1 1 (encT (t, (P : Int) + (n : Int))) rfl rfl (fun j u hj => World.news_of_block (by rw [← World.size_alloc w2 (oTok (t.kind : Int) (bA t.text) ((P : Int) + (n : Int)) (t.code : Int))]; exact heap_alloc_new _ _) j u hj) (by intro u hu; simp [encT] at hu; rcases hu with rfl | rfl | rfl | rfl <;> rfl) (by unfold maxLen; omega) (by omega) (Nat.le_trans HB2.out.size HA2.out.size) ?_
               intro v1 w3 hown3 hg3 _
               have HO3 := mkH hown3
               have HG3 := mkH hg3
               clear hown3 hg3))
          obtain ⟨a', c', rfl⟩ := own_sl HO3.out
          have hb4 := Below.ups HB2.out HA2.out
          refine ⟨⟨P + n + ln, acc ++ [(t, (P : Int) + (n : Int))], a', c', by simp, by simp, c8, by simp; omega, mkH ?_, mkH ?_, mkH (hb4.grown HG3.out hb4.size (fun j hj => own_blk HO2.out hj)), mkH ?_⟩, ?_⟩
          · intro o ho
            rw [← List.drop_drop, ← HXX.out, ← HRS.out] at ho
            have := HTN.out o (by simpa using ho)
            simpa [Function.comp_def] using this
          · rw [cellsT_snoc]
            simpa using HO3.out
          · intro x hx
            rcases List.mem_append.mp hx with hx | hx
            · exact HTX.out x hx
            · rw [List.mem_singleton] at hx; subst hx; exact HTL.out
          · simp only [intNat]
            omega
end Go.Proofs.YtlnkbhbpkmnkaaaGreatDoor
namespace Go.Proofs.YtlnkbhbpkmnkaaaGreatDoor
open Go.RowKit Go.Proofs Go.Lib Go.Joins Go.Proofs.YtlnkbhbpkmnkaaaGreatDoor.Ask

def fnL : F.Fn → List UInt8
  | .no => []
  | .count => [99, 111, 117, 110, 116]
  | .max => [109, 97, 120]
  | .min => [109, 105, 110]
  | .sum => [115, 117, 109]
theorem fnL_B (f : F.Fn) : bA (fnL f) = F.fnB f := by cases f <;> rfl
def isFnB (s : ByteArray) : Bool := s.toList == [99, 111, 117, 110, 116] || (s.toList == [109, 97, 120] || (s.toList == [109, 105, 110] || s.toList == [115, 117, 109]))
theorem isFn_fn {f : F.Fn} (h : f ≠ .no) : isFnB (bA (fnL f)) = true := by cases f <;> first | exact absurd rfl h | kernel_rfl
set_option maxHeartbeats 1000000 in
theorem isFn_any (s : ByteArray) (w : World) :
    Calls Tryz.prog 105 #[.string s] w fun e w' => e = .returned (.bool (isFnB s)) ∧ w' = w := by
  unfold isFnB
  cases h1 : s.toList == [99, 111, 117, 110, 116] with
  | true =>
    go_enter Tryz.func105, Tryz.ntmps105
    go_wp2
    go_ret
    exact ⟨rfl, rfl⟩
  | false =>
    cases h2 : s.toList == [109, 97, 120] with
    | true =>
      go_enter Tryz.func105, Tryz.ntmps105
      go_wp2
      go_ret
      exact ⟨rfl, rfl⟩
    | false =>
      cases h3 : s.toList == [109, 105, 110] with
      | true =>
        go_enter Tryz.func105, Tryz.ntmps105
        go_wp2
        go_ret
        exact ⟨rfl, rfl⟩
      | false =>
        cases h4 : s.toList == [115, 117, 109] with
        | true =>
          go_enter Tryz.func105, Tryz.ntmps105
          go_wp2
          go_ret
          exact ⟨rfl, rfl⟩
        | false =>
          go_enter Tryz.func105, Tryz.ntmps105
          go_wp2
          go_ret
          exact ⟨rfl, rfl⟩
/-- A word that is there is taken. -/
theorem takes_yes (B k : Nat) (x : List UInt8) (t : Tok) (ts : List Tok) (w : World) (hr : Rd w B (t :: ts)) (hn : ts.length ≤ 900) (h : isT k x t = true) :
    Calls Tryz.prog 66 #[.pointer (some ⟨B, 0, none⟩), .int .i64 (k : Int), .string (bA x)] w fun e w' => e = .returned (.bool true) ∧ Rd w' B ts ∧ Past B w w' :=
  (takes_any B k x (t :: ts) w hr (by simp; omega)).mono fun e w' hp => by
    obtain ⟨h0, ⟨_, h2, h3⟩ | ⟨h1, _⟩⟩ := hp
    · exact ⟨h2, h3, h0⟩
    · rw [show hdTok (t :: ts) = t from rfl, h] at h1; cases h1
theorem takes_no (B k : Nat) (x : List UInt8) (ts : List Tok) (w : World) (hr : Rd w B ts) (hn : ts.length ≤ 900) (h : isT k x (hdTok ts) = false) :
    Calls Tryz.prog 66 #[.pointer (some ⟨B, 0, none⟩), .int .i64 (k : Int), .string (bA x)] w fun e w' => e = .returned (.bool false) ∧ Rd w' B ts ∧ Past B w w' :=
  (takes_any B k x ts w hr (by omega)).mono fun e w' hp => by
    obtain ⟨h0, ⟨h1, _⟩ | ⟨_, h2, h3⟩⟩ := hp
    · rw [h] at h1; cases h1
    · exact ⟨h2, h3, h0⟩
theorem needs_yes (B k : Nat) (x : List UInt8) (t : Tok) (ts : List Tok) (w : World) (hr : Rd w B (t :: ts)) (hn : ts.length ≤ 900) (h : isT k x t = true) :
    Calls Tryz.prog 63 #[.pointer (some ⟨B, 0, none⟩), .int .i64 (k : Int), .string (bA x)] w fun e w' => e = .returned (.tuple #[]) ∧ Rd w' B ts ∧ Past B w w' :=
  (needs_any B k x (t :: ts) w hr (by simp; omega)).mono fun e w' hp => by
    obtain ⟨h0, ⟨_, h2, h3⟩ | ⟨h1, _⟩⟩ := hp
    · exact ⟨h2, h3, h0⟩
    · rw [show hdTok (t :: ts) = t from rfl, h] at h1; cases h1
theorem name_yes (B : Nat) (nm : List UInt8) (ts : List Tok) (w : World) (hr : Rd w B (tW nm :: ts)) (hn : ts.length ≤ 900) (h : nmL nm = true) (hl : nm.length ≤ 1000) (hw : NnB w) :
    Calls Tryz.prog 69 #[.pointer (some ⟨B, 0, none⟩)] w fun e w' => e = .returned (.string (bA nm)) ∧ Rd w' B ts ∧ Past B w w' :=
  (rname_any B (tW nm :: ts) w hr (by simp; omega) (show nm.length ≤ 1000000 by omega) hw).mono fun e w' hp => by
    obtain ⟨h0, ⟨_, _, h2, h3⟩ | ⟨h1, _⟩⟩ := hp
    · exact ⟨h2, h3, h0⟩
    · exact absurd ⟨rfl, h⟩ h1
/-- The packages' variables that readers look at. -/
def GB (w : World) : Prop := NnB w ∧ ErrB w
theorem same_cell {w W : World} {b : Nat} (h : W.heap[b]? = w.heap[b]?) (i : Nat) : W.cell? ⟨b, i, none⟩ = w.cell? ⟨b, i, none⟩ := by
  simp [World.cell?, h]
theorem GB.same {w W : World} (h : GB w) (hb : ∀ b, b < 10 → b < w.heap.size → W.heap[b]? = w.heap[b]?) : GB W := by
  obtain ⟨n, ⟨t1, p1, e1⟩, t2, p2, e2⟩ := h
  have hn := hb 2 (by decide) n.lt
  have h1 := hb 4 (by decide) (cell_lt e1)
  have h2 := hb 5 (by decide) (cell_lt e2)
  exact ⟨⟨(same_cell hn 0).trans n.c0, (same_cell hn 1).trans n.c1, (same_cell hn 2).trans n.c2, (same_cell hn 3).trans n.c3, (same_cell hn 4).trans n.c4, (same_cell hn 5).trans n.c5, (same_cell hn 6).trans n.c6, (same_cell hn 7).trans n.c7, (same_cell hn 8).trans n.c8, (same_cell hn 9).trans n.c9, (same_cell hn 10).trans n.c10⟩, ⟨t1, p1, (same_cell h1 0).trans e1⟩, t2, p2, (same_cell h2 0).trans e2⟩
theorem GB.past {B : Nat} {w W : World} (h : GB w) (hB : 10 ≤ B) (hp : Past B w W) : GB W := h.same fun b h1 h2 => hp.keep b h2 (by omega)
theorem GB.below {w W : World} (h : GB w) (hb : Below w.heap.size w W) : GB W := h.same fun b _ h2 => hb.block b h2
theorem Past.in {B : Nat} {w V W : World} (hB : B ≤ w.heap.size) (hb : Below w.heap.size w V) (hp : Past B V W) : Past B w W := (Past.of hB hb).trans hp
theorem Past.put {B g : Nat} {w W : World} (h : Past B w W) (hB : B < w.heap.size) (hg : w.heap.size ≤ g) (i : Nat) (v : Value) : Past B w (W.setCell ⟨g, i, none⟩ v) :=
  ⟨h.low.setCell (by show B ≤ g; omega) v, fun b hb hn => (Below.heap_setCell W ⟨g, i, none⟩ v b (by show ¬ b = g; omega)).trans (h.keep b hb hn)⟩
theorem Rd.setR {W : World} {B R : Nat} {ts : List Tok} {cs : Array Value} {t : TypeId} (h : Rd W B ts) (hk : W.heap[R]? = some (.cells cs t)) (hs : t ≠ 164) (hn : R ≠ B) (i : Nat) (a : Value) : Rd (W.setCell ⟨R, i, none⟩ a) B ts := by
  obtain ⟨g, o, cp, h1, h2, h3, h4⟩ := h.it
  have hg : g ≠ R := by
    intro e
    subst e
    obtain ⟨_, _, q, _⟩ := h4.head
    rw [hk] at q
    injection q with q
    injection q with _ q
    exact hs q
  refine ⟨⟨g, o, cp, (World.cell?_setCell_other _ _ _ _ (fun e => hn (by cases e; rfl))).trans h1, h2, h3, h4.same (Below.heap_setCell W ⟨R, i, none⟩ _ g hg)⟩, ?_⟩
  rw [World.frozen?_setCell]; exact h.fro
theorem heap_setR {W : World} {R : Nat} {cs : Array Value} {t : TypeId} (hk : W.heap[R]? = some (.cells cs t)) (i : Nat) (a : Value) : (W.setCell ⟨R, i, none⟩ a).heap[R]? = some (.cells (cs.setIfInBounds i a) t) := by
  simp [World.setCell, Array.getElem?_modify, hk]
/-- An item lies in a box. -/
def IAt (w : World) (g : Nat) (x : ByteArray × ByteArray) : Prop := w.heap[g]? = some (.cells #[.string x.1, .string x.2] 120)
theorem IAt.lt {w : World} {g : Nat} {x : ByteArray × ByteArray} (h : IAt w g x) : g < w.heap.size := blk_lt h
theorem IAt.past {B g : Nat} {w W : World} {x : ByteArray × ByteArray} (h : IAt w g x) (hp : Past B w W) (hn : g ≠ B) : IAt W g x := (hp.keep g h.lt hn).trans h
theorem IAt.up {g : Nat} {w W : World} {x : ByteArray × ByteArray} (h : IAt w g x) (hb : Below w.heap.size w W) : IAt W g x := (hb.block g h.lt).trans h
theorem IAt.cells {w : World} {g : Nat} {a b : ByteArray} (h : IAt w g (a, b)) : w.cell? ⟨g, 0, none⟩ = some (.string a) ∧ w.cell? ⟨g, 1, none⟩ = some (.string b) := ⟨cell_of_block h 0, cell_of_block h 1⟩
theorem IAt.free {w : World} {g : Nat} {x : ByteArray × ByteArray} (h : IAt w g x) : w.frozen? ⟨g, 0, none⟩ = false ∧ w.frozen? ⟨g, 1, none⟩ = false := ⟨unfrozen_of_block h 0, unfrozen_of_block h 1⟩
theorem Rd.alloc {W : World} {B : Nat} {ts : List Tok} (h : Rd W B ts) (o : Obj) : Rd (W.alloc o) B ts := h.up ((Below.refl _ _).alloc (Nat.le_refl _) _)
theorem Rd.put2 {W : World} {B R : Nat} {ts : List Tok} {x : ByteArray × ByteArray} (h : Rd W B ts) (hk : IAt W R x) (hn : R ≠ B) (a b : Value) : Rd ((W.setCell ⟨R, 0, none⟩ a).setCell ⟨R, 1, none⟩ b) B ts :=
  (h.setR hk (by decide) hn 0 a).setR (heap_setR hk 0 a) (by decide) hn 1 b
set_option maxHeartbeats 1000000 in
set_option maxRecDepth 100000 in
theorem item_col (B : Nat) (nm : List UInt8) (ts : List Tok) (w : World) (hr : Rd w B (tW nm :: ts)) (hn : ts.length ≤ 900) (h : nmL nm = true) (hl : nm.length ≤ 1000) (hno : isT 4 [40] (hdTok ts) = false) (hw : GB w) :
    Calls Tryz.prog 65 #[.pointer (some ⟨B, 0, none⟩)] w fun e w' => e = .returned (.agg #[.string ⟨#[]⟩, .string (bA nm)]) ∧ Rd w' B ts ∧ Past B w w' := by
  have HB := mkH hr.lt
  have hb0 : ∀ o, Below w.heap.size w (w.alloc o) := fun o => (Below.refl _ _).alloc (Nat.le_refl _) _
  have HN := mkH (fun o => name_yes B nm ts (w.alloc o) (hr.alloc o) hn h hl (hw.below (hb0 o)).1)
  have HT : Hid (∀ V, Rd V B ts → _) := mkH (fun V hV => takes_no B 4 [40] ts V hV hn hno)
  have HP0 : Hid (∀ o W, Past B (w.alloc o) W → Past B w W) := mkH (fun o W hp => Past.in (Nat.le_of_lt hr.lt) (hb0 o) hp)
  have HI0 : Hid (IAt (w.alloc (.cells #[.string ⟨#[]⟩, .string ⟨#[]⟩] 120)) w.heap.size (⟨#[]⟩, ⟨#[]⟩)) := mkH (heap_alloc_new _ _)
  clear hr hw h hl hno hb0
  generalize bA nm = s at *
  cases hq : isFnB s with
  | false =>
    have HF := mkH (fun W => isFn_any s W)
    rw [hq] at HF
    clear hq
    go_enter Tryz.func65, Tryz.ntmps65
    go_wp2_with fail
    refine (HN.out _).mono ?_
    rintro e w1 ⟨rfl, hr1, hp1⟩
    have hbn : w.heap.size ≠ B := by have := HB.out; omega
    have hi1 := HI0.out.past hp1 hbn
    have HR1 := mkH hr1
    have HP1 := mkH (HP0.out _ _ hp1)
    have HI1 := mkH hi1
    obtain ⟨c0, c1⟩ := hi1.cells
    obtain ⟨f0, f1⟩ := hi1.free
    clear hr1 hp1 HN HT hi1
    go_wp2_with (first
      | (go_at_call 105; refine (HF.out _).mono ?_; rintro e w2 ⟨rfl, rfl⟩))
    refine bodyPost_ret (v := .agg #[.string ⟨#[]⟩, .string s]) ?_ rfl ?_
    · simp [results, Tryz.results65, go_sem, c0, c1]
    · exact ⟨rfl, HR1.out.put2 HI1.out hbn _ _, (HP1.out.put HB.out (Nat.le_refl _) _ _).put HB.out (Nat.le_refl _) _ _⟩
  | true =>
    have HF := mkH (fun W => isFn_any s W)
    rw [hq] at HF
    clear hq
    go_enter Tryz.func65, Tryz.ntmps65
    go_wp2_with fail
    refine (HN.out _).mono ?_
    rintro e w1 ⟨rfl, hr1, hp1⟩
    have hbn : w.heap.size ≠ B := by have := HB.out; omega
    have HR1 := mkH hr1
    have HP1 := mkH (HP0.out _ _ hp1)
    have HI1 := mkH (HI0.out.past hp1 hbn)
    clear hr1 hp1 HN
    go_wp2_with (first
      | (go_at_call 105; refine (HF.out _).mono ?_; rintro e w2 ⟨rfl, rfl⟩)
      | (go_at_call 66; refine (HT.out _ HR1.out).mono ?_; rintro e w3 ⟨rfl, hr3, hp3⟩; have hi3 := HI1.out.past hp3 hbn; obtain ⟨c0, c1⟩ := hi3.cells; obtain ⟨f0, f1⟩ := hi3.free))
    refine bodyPost_ret (v := .agg #[.string ⟨#[]⟩, .string s]) ?_ rfl ?_
    · simp [results, Tryz.results65, go_sem, c0, c1]
    · exact ⟨rfl, hr3.put2 hi3 hbn _ _, ((HP1.out.trans hp3).put HB.out (Nat.le_refl _) _ _).put HB.out (Nat.le_refl _) _ _⟩
/-- A reader's contract, written out. -/
abbrev TkL (B : Nat) (k : Int) (s : ByteArray) (b : Bool) (ts us : List Tok) : Prop := ∀ V, Rd V B ts → Calls Tryz.prog 66 #[.pointer (some ⟨B, 0, none⟩), .int .i64 k, .string s] V fun e w' => e = .returned (.bool b) ∧ Rd w' B us ∧ Past B V w'
abbrev NdL (B : Nat) (k : Int) (s : ByteArray) (ts us : List Tok) : Prop := ∀ V, Rd V B ts → Calls Tryz.prog 63 #[.pointer (some ⟨B, 0, none⟩), .int .i64 k, .string s] V fun e w' => e = .returned (.tuple #[]) ∧ Rd w' B us ∧ Past B V w'
theorem TkL.yes (B k : Nat) (x : List UInt8) (s : ByteArray) (t : Tok) (ts : List Tok) (hs : bA x = s) (hn : ts.length ≤ 900) (h : isT k x t = true) : TkL B k s true (t :: ts) ts := fun V hV => hs ▸ takes_yes B k x t ts V hV hn h
theorem TkL.no (B k : Nat) (x : List UInt8) (s : ByteArray) (ts : List Tok) (hs : bA x = s) (hn : ts.length ≤ 900) (h : isT k x (hdTok ts) = false) : TkL B k s false ts ts := fun V hV => hs ▸ takes_no B k x ts V hV hn h
theorem NdL.yes (B k : Nat) (x : List UInt8) (s : ByteArray) (t : Tok) (ts : List Tok) (hs : bA x = s) (hn : ts.length ≤ 900) (h : isT k x t = true) : NdL B k s (t :: ts) ts := fun V hV => hs ▸ needs_yes B k x t ts V hV hn h
end Go.Proofs.YtlnkbhbpkmnkaaaGreatDoor
