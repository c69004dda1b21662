/- What commit.Load does: the table at a version, or the last one. -/
import Derived.Test.YtfppidnfomelpaaGreatDoorRX
import Derived.Test.YtfppidnfomelpaaGreatDoorBW4
namespace Go.Proofs.YtfppidnfomelpaaGreatDoor
open Go.RowKit Go.Proofs Go.Lib Go.Joins

def keyL (i : Nat) : List UInt8 := [108, 111, 103, 47, 48, 48, 48, 48, UInt8.ofNat (48 + i / 10), UInt8.ofNat (48 + i % 10)]
def keyB (i : Nat) : ByteArray := ⟨(keyL i).toArray⟩
theorem key_all : ((List.range 100).all fun i => (List.range 100).all fun j => !(keyL i == keyL j) || (i == j)) = true := by kernel_rfl
theorem key_inj {i j : Nat} (hi : i < 100) (hj : j < 100) (h : keyB i = keyB j) : i = j := by
  have h1 := List.all_eq_true.1 (List.all_eq_true.1 key_all i (List.mem_range.2 hi)) j (List.mem_range.2 hj)
  have e : keyL i = keyL j := by
    have := congrArg (fun b : ByteArray => b.data.toList) h
    simpa [keyB] using this
  rw [e] at h1
  simpa using h1
theorem key_size (i : Nat) : (keyB i).size = 10 := rfl
theorem itoa_nat (i : Nat) : itoa (i : Int) = decDigits i := by
  unfold itoa
  rw [if_neg (by omega)]
  simp
def keyOf (i : Int) : ByteArray := ⟨#[108, 111, 103, 47]⟩ ++ ⟨(Lib.repeatL [48] (6 - (itoaB i).size)).toArray⟩ ++ itoaB i
theorem keyOf_eq {i : Nat} (h : i < 100) : keyOf (i : Int) = keyB i ∧ (itoaB (i : Int)).size ≤ 2 := by
  unfold keyOf itoaB
  rw [itoa_nat]
  by_cases h1 : i < 10
  · rw [decDigits_one h1]
    have e1 : i / 10 = 0 := by omega
    have e2 : i % 10 = i := by omega
    unfold keyB keyL
    rw [e1, e2]
    exact ⟨rfl, by show Array.size _ ≤ 2; simp⟩
  · rw [decDigits_two h1 h]
    exact ⟨rfl, by show Array.size _ ≤ 2; simp⟩
set_option maxHeartbeats 1000000 in
theorem key_any (i : Nat) (w : World) (h : i < 100) (ht : TabB w) : Calls Tryz.prog 17 #[.int .i64 i] w fun e w' => e = .returned (.string (keyB i)) ∧ Below w.heap.size w w' := by
  have HI := mkH (itoa_any (i : Int) w ⟨by omega, by omega⟩ ht)
  obtain ⟨hk, hs⟩ := keyOf_eq h
  have HK := mkH hk
  unfold keyOf at HK
  obtain ⟨r, hr⟩ : ∃ r : Nat, r = 6 - (itoaB (i : Int)).size := ⟨_, rfl⟩
  rw [← hr] at HK
  have hr1 : (6 : Int) - ((itoaB (i : Int)).size : Int) = (r : Int) := by omega
  have hr2 : (0 : Int) ≤ (r : Int) := by omega
  have HR := mkH (fun W => Tryz.strings_Repeat ⟨#[48]⟩ r W (by omega) (by show 1 * r ≤ _; omega))
  clear hr hk
  generalize itoaB (i : Int) = x at *
  have hx : x.size ≤ 2 := hs
  go_enter Tryz.func17, Tryz.ntmps17
  go_wp2_with fail
  refine HI.out.mono ?_
  rintro e w1 ⟨rfl, hb1⟩
  go_wp2_with fail
  refine (HR.out _).mono ?_
  rintro e w2 ⟨rfl, hb2⟩
  have hz : (⟨(Lib.repeatL [48] r).toArray⟩ : ByteArray).size ≤ 6 := by
    show Array.size _ ≤ 6
    rw [List.size_toArray, Lib.repeatL_length]
    simp
    omega
  have e4 : (⟨#[108, 111, 103, 47]⟩ : ByteArray).size = 4 := rfl
  generalize (⟨(Lib.repeatL [48] r).toArray⟩ : ByteArray) = z at *
  have hz2 : (⟨#[108, 111, 103, 47]⟩ ++ z : ByteArray).size ≤ 10 := by rw [bsize_app, e4]; omega
  clear HI HR
  go_wp2_with fail
  go_ret
  exact ⟨by rw [HK.out]; rfl, Below.ups hb1 hb2⟩
end Go.Proofs.YtfppidnfomelpaaGreatDoor

namespace Go.Proofs.YtfppidnfomelpaaGreatDoor
open Go.RowKit Go.Proofs Go.Lib Go.Joins

/-- A commit that may lie in a bucket. -/
structure Lay (c : Com) : Prop where
  ok : printOk c = true
  lines : ∀ a ∈ c.2.2, LineOk a
  few : c.2.2.length ≤ 12
/-- Commits, and the tables behind them. -/
def Chain : Snap → List (Com × Snap) → Prop
  | _, [] => True
  | s, x :: l => AppliesL s x.1 x.2 ∧ Lay x.1 ∧ Chain x.2 l
def lastS : Snap → List (Com × Snap) → Snap
  | s, [] => s
  | _, x :: l => lastS x.2 l
/-- The table at a version. -/
def snapAt (H : List (Com × Snap)) (i : Nat) : Snap := lastS zeroS (H.take i)
theorem chain_snoc : ∀ {s : Snap} {H : List (Com × Snap)} {c : Com} {t : Snap}, Chain s H → AppliesL (lastS s H) c t → Lay c → Chain s (H ++ [(c, t)])
  | _, [], _, _, _, h, hl => ⟨h, hl, trivial⟩
  | _, _ :: _, _, _, hc, h, hl => ⟨hc.1, hc.2.1, chain_snoc hc.2.2 h hl⟩
theorem lastS_snoc : ∀ {s : Snap} {H : List (Com × Snap)} {x : Com × Snap}, lastS s (H ++ [x]) = x.2
  | _, [], _ => rfl
  | _, y :: l, _ => lastS_snoc (s := y.2) (H := l)
theorem chain_at : ∀ {s : Snap} {H : List (Com × Snap)}, Chain s H → ∀ i, i < H.length → ∃ c t, H[i]? = some (c, t) ∧ AppliesL (lastS s (H.take i)) c t ∧ Lay c ∧ lastS s (H.take (i + 1)) = t
  | _, x :: _, h, 0, _ => ⟨x.1, x.2, rfl, h.1, h.2.1, rfl⟩
  | _, x :: l, h, i + 1, hi => by
    obtain ⟨c, t, h1, h2, h3, h4⟩ := chain_at (s := x.2) (H := l) h.2.2 i (by simpa using hi)
    exact ⟨c, t, by simpa using h1, by simpa [lastS] using h2, h3, by simpa [lastS] using h4⟩
theorem chain_good : ∀ {s : Snap} {H : List (Com × Snap)}, Chain s H → Good colB fitB s → Named s → 0 ≤ s.ver → ∀ i, i ≤ H.length → Good colB fitB (lastS s (H.take i)) ∧ Named (lastS s (H.take i)) ∧ (lastS s (H.take i)).ver = s.ver + i
  | _, _, _, g, n, _, 0, _ => by simpa [lastS] using ⟨g, n⟩
  | _, x :: l, h, g, n, hv, i + 1, hi => by
    have e := applies_ver h.1
    have := chain_good (s := x.2) (H := l) h.2.2 (applies_good h.1 g) (applies_named h.1 n) (by omega) i (by simpa using hi)
    simp only [List.take_succ_cons, lastS]
    exact ⟨this.1, this.2.1, by rw [this.2.2, e]; omega⟩
/-- A table's history. -/
def Past' (H : List (Com × Snap)) : Prop := Chain zeroS H
theorem past_at {H : List (Com × Snap)} (h : Past' H) {i : Nat} (hi : i < H.length) : ∃ c, (H[i]?).map (·.1) = some c ∧ AppliesL (snapAt H i) c (snapAt H (i + 1)) ∧ Lay c := by
  obtain ⟨c, t, h1, h2, h3, h4⟩ := chain_at h i hi
  exact ⟨c, by rw [h1]; rfl, by unfold snapAt; rw [h4]; exact h2, h3⟩
theorem named_zero : Named zeroS := by intro e he; cases he
theorem past_good {H : List (Com × Snap)} (h : Past' H) {i : Nat} (hi : i ≤ H.length) : Good colB fitB (snapAt H i) ∧ Named (snapAt H i) ∧ (snapAt H i).ver = i := by
  have := chain_good h good_zero named_zero (by show (0 : Int) ≤ 0; omega) i hi
  refine ⟨this.1, this.2.1, ?_⟩
  have e := this.2.2
  have e0 : zeroS.ver = 0 := rfl
  rw [e0] at e
  unfold snapAt
  omega
theorem snapAt_snoc {H : List (Com × Snap)} {x : Com × Snap} {i : Nat} (hi : i ≤ H.length) : snapAt (H ++ [x]) i = snapAt H i := by
  unfold snapAt
  rw [List.take_append_of_le_length hi]
theorem snapAt_last {H : List (Com × Snap)} {x : Com × Snap} : snapAt (H ++ [x]) (H.length + 1) = x.2 := by
  unfold snapAt
  rw [List.take_of_length_le (by simp)]
  exact lastS_snoc
theorem snapAt_all {H : List (Com × Snap)} : snapAt H H.length = lastS zeroS H := by unfold snapAt; rw [List.take_length]
theorem past_snoc {H : List (Com × Snap)} (h : Past' H) {c : Com} {t : Snap} (ha : AppliesL (snapAt H H.length) c t) (hl : Lay c) : Past' (H ++ [(c, t)]) := by
  rw [snapAt_all] at ha
  exact chain_snoc h ha hl

/-- A bucket's things hold just these commits at their versions. -/
def Lain (D : DataW Unit) (H : List (Com × Snap)) : Prop := Maps.IsMap D ∧ ∀ i, i < 99 → (∀ c, (H[i]?).map (·.1) = some c → Maps.has D (B.lit (keyB (i + 1))) = true ∧ D.atKey (B.lit (keyB (i + 1))) (B.txt ByteArray.empty) = B.txt (printB c)) ∧ (H.length ≤ i → Maps.has D (B.lit (keyB (i + 1))) = false)
theorem lain_nil : Lain (.map []) [] := ⟨Maps.isMap_empty, fun i _ => ⟨fun c h => by simp at h, fun _ => rfl⟩⟩
theorem key_lit {b : ByteArray} : WideAt.IsKeyLit (B.lit b) := by simp [B.lit, WideAt.IsKeyLit]
theorem lain_put {D : DataW Unit} {H : List (Com × Snap)} (h : Lain D H) (hl : H.length < 90) (c : Com) (t : Snap) : Lain (D.put (B.lit (keyB (H.length + 1))) (B.txt (printB c))) (H ++ [(c, t)]) := by
  refine ⟨?_, fun i hi => ?_⟩
  · exact h.1.put _ _
  · by_cases e : i = H.length
    · subst e
      refine ⟨fun c' hc => ?_, fun hle => by simp at hle; omega⟩
      have : c' = c := by simpa using hc.symm
      subst this
      exact ⟨Maps.has_put_same h.1 key_lit _, Maps.atKey_put_same h.1 key_lit _ _⟩
    · have hne : B.lit (keyB (i + 1)) ≠ B.lit (keyB (H.length + 1)) := fun e' => by
        have := key_inj (by omega) (by omega) (B.lit_inj e')
        omega
      rw [Maps.has_put_other hne, Maps.atKey_put_other hne]
      refine ⟨fun c' hc => (h.2 i hi).1 c' ?_, fun hle => (h.2 i hi).2 (by simp at hle; omega)⟩
      rcases Nat.lt_or_ge i H.length with hlt | hge
      · rwa [List.getElem?_append_left hlt] at hc
      · rw [List.getElem?_eq_none (by simp; omega)] at hc
        cases hc
end Go.Proofs.YtfppidnfomelpaaGreatDoor

namespace Go.Proofs.YtfppidnfomelpaaGreatDoor
open Go.RowKit Go.Proofs Go.Lib Go.Joins

/-- A block that holds a number is in Y what it is in W. -/
structure Stays (W Y : World) : Prop where
  size : W.heap.size ≤ Y.heap.size
  same : ∀ g o x, W.cell? ⟨g, o, none⟩ = some (.int .i64 x) → Y.heap[g]? = W.heap[g]?
theorem Stays.refl (W : World) : Stays W W := ⟨Nat.le_refl _, fun _ _ _ _ => rfl⟩
theorem Stays.of_below {W Y : World} (h : Below W.heap.size W Y) : Stays W Y := ⟨h.size, fun g _ _ hc => h.block g (cell_lt hc)⟩
theorem Stays.cell {W Y : World} (h : Stays W Y) {g o o' : Nat} {x : Int} {v : Value} (hi : W.cell? ⟨g, o, none⟩ = some (.int .i64 x)) (hc : W.cell? ⟨g, o', none⟩ = some v) : Y.cell? ⟨g, o', none⟩ = some v := by
  have e := h.same g o x hi
  simp only [World.cell?, e] at hc ⊢
  exact hc
theorem Stays.trans {W X Y : World} (h : Stays W X) (k : Stays X Y) : Stays W Y :=
  ⟨Nat.le_trans h.size k.size, fun g o x hc => (k.same g o x (h.cell hc hc)).trans (h.same g o x hc)⟩
theorem Stays.grown {W Y : World} {b : Nat} {cs : Array Value} {T : TypeId} (hb : W.heap[b]? = some (.cells cs T (0, 0))) (hno : ∀ (i : Nat) x, cs[i]? ≠ some (.int .i64 x)) (hg : W.grownBy Y (some b)) : Stays W Y :=
  ⟨hg.size, fun g o x hc => hg.block g (cell_lt hc) (fun e => by
    injection e with e
    subst e
    simp only [World.cell?, hb] at hc
    exact hno o x (by simpa using hc))⟩
theorem LiI.stays {W Y : World} {v : Value} {l : List Int} (h : LiI W v l) (k : Stays W Y) : LiI Y v l := by
  rcases h with h | ⟨g, o, c, h1, h2, h3, h4⟩
  · exact .inl h
  · exact .inr ⟨g, o, c, h1, Nat.lt_of_lt_of_le h2 k.size, h3, fun j hj => k.cell (h4 j hj) (h4 j hj)⟩
theorem LiC.stays {W Y : World} {v : Value} {l : List Col} (h : LiC W v l) (k : Stays W Y) : LiC Y v l := by
  rcases h with h | ⟨g, o, c, h1, h2, h3, h4⟩
  · exact .inl h
  · exact .inr ⟨g, o, c, h1, h2, Nat.lt_of_lt_of_le h3 k.size, fun j hj i u hu => k.cell (h4 j hj 0 _ rfl) (h4 j hj i u hu)⟩
theorem ActAt.stays {W Y : World} {a : Actn} {ma : Option Addr} {mn mc : Nat} {ca : Option Addr} {cn cc : Nat} (h : ActAt W a ma mn mc ca cn cc) (k : Stays W Y) : ActAt Y a ma mn mc ca cn cc :=
  ⟨h.mask.stays k, h.cols.stays k, h.path, h.few, h.texts⟩
theorem Cells6.stays {W Y : World} {g o : Nat} {a : Actn} {ma : Option Addr} {mn mc : Nat} {ca : Option Addr} {cn cc : Nat} (h : Cells6 W g o a ma mn mc ca cn cc) (k : Stays W Y) : Cells6 Y g o a ma mn mc ca cn cc :=
  ⟨k.cell h.1 h.1, k.cell h.1 h.2.1, k.cell h.1 h.2.2.1, k.cell h.1 h.2.2.2.1, k.cell h.1 h.2.2.2.2.1, k.cell h.1 h.2.2.2.2.2⟩
theorem ActsAt.stays {W Y : World} {v : Value} {l : List Actn} (h : ActsAt W v l) (k : Stays W Y) : ActsAt Y v l := by
  rcases h with h | ⟨g, o, c, h1, h2, h3, h4⟩
  · exact .inl h
  · refine .inr ⟨g, o, c, h1, h2, Nat.lt_of_lt_of_le h3 k.size, fun j hj => ?_⟩
    obtain ⟨ma, mn, mc, ca, cn, cc, h5, h6⟩ := h4 j hj
    exact ⟨ma, mn, mc, ca, cn, cc, h5.stays k, h6.stays k⟩
theorem ActR.stays {W Y : World} {a : Actn} {ma : Option Addr} {mn mc : Nat} {ca : Option Addr} {cn cc : Nat} (h : ActR W a ma mn mc ca cn cc) (k : Stays W Y) : ActR Y a ma mn mc ca cn cc :=
  ⟨h.mask.stays k, h.cols.stays k, h.path, h.few, h.few2, h.texts⟩
theorem ActsR.stays {W Y : World} {v : Value} {l : List Actn} (h : ActsR W v l) (k : Stays W Y) : ActsR Y v l := by
  rcases h with h | ⟨g, o, c, h1, h2, h3, h4⟩
  · exact .inl h
  · refine .inr ⟨g, o, c, h1, h2, Nat.lt_of_lt_of_le h3 k.size, fun j hj => ?_⟩
    obtain ⟨ma, mn, mc, ca, cn, cc, h5, h6⟩ := h4 j hj
    exact ⟨ma, mn, mc, ca, cn, cc, h5.stays k, h6.stays k⟩
/-- A Put leaves what holds a number. -/
theorem Stays.put {W Y : World} {bb n : Nat} {D : DataW Unit} {fs : List Int} {mv fv : Value} (h : B.Bu W bb n D fs mv fv) (ho : B.Only (B.Own bb mv) W Y) : Stays W Y :=
  ⟨ho.size, fun g _ _ hc => ho.block g (cell_lt hc) (by
    rintro (e | e)
    · exact B.Fs.far h.1 h.2.1 h.2.2 hc e
    · exact h.2.1.ne hc e)⟩
theorem SnapW.only {W Y : World} {s : Snap} {v : Value} {bb n : Nat} {D : DataW Unit} {fs : List Int} {mv fv : Value} (hs : SnapW W s v) (h : B.Bu W bb n D fs mv fv) (ho : B.Only (B.Own bb mv) W Y) : SnapW Y s v := by
  have keep : ∀ {base : Nat} {t : TypeId} {z : Nat} {u : Value} {k : Nat} {xs : List Value}, t ≠ 42 → W.ownsRow base t z u k xs → Y.ownsRow base t z u k xs := fun hne hr => by
    refine ⟨hr.1, ?_⟩
    rcases hr.2 with h' | ⟨g, c, cur, hv, hb', hh, hrr⟩
    · exact .inl h'
    · refine .inr ⟨g, c, cur, hv, hb', (ho.block g (blk_lt hh) ?_).trans hh, hrr⟩
      rintro (e | e)
      · subst e
        have hB : W.heap[g]? = _ := h.1
        rw [hB] at hh
        injection hh with hh
        injection hh with _ hh
        exact hne hh.symm
      · rcases h.2.1 with ⟨h0, _⟩ | ⟨m, e', es, clock, hbm, _⟩
        · rw [h0] at e; cases e
        · rw [e'] at e
          cases e
          rw [hbm] at hh
          cases hh
  obtain ⟨a1, c1, a2, c2, L, e, hV⟩ := hs
  exact ⟨a1, c1, a2, c2, L, e, keep (by decide) hV.cols, hV.files, keep (by decide) hV.row, fun x hx => keep (by decide) (hV.masks x hx)⟩
end Go.Proofs.YtfppidnfomelpaaGreatDoor

namespace Go.Proofs.YtfppidnfomelpaaGreatDoor
open Go.RowKit Go.Proofs Go.Lib Go.Joins

theorem lying_any (bb : Nat) (w : World) :
    Calls Tryz.prog 31 #[.pointer (some ⟨bb, 0, none⟩)] w fun e w' => e = .returned (.func (.func 60) #[] #[.pointer (some ⟨w.heap.size, 0, none⟩)]) ∧ w' = w.alloc (.cells #[.pointer (some ⟨bb, 0, none⟩)] 39) := by
  go_enter Tryz.func31, Tryz.ntmps31
  go_wp2
  go_ret
  exact ⟨rfl, rfl⟩
/-- What a walk over a bucket's commits leans on: the bucket, its things, and the variables. -/
structure Ground (w : World) (bb n : Nat) (D : DataW Unit) (mv : Value) : Prop where
  c0 : w.cell? ⟨bb, 0, none⟩ = some mv
  th : B.Th w mv n D
  er : ErrB w
  nc : NcB w
  tb : TabB w
theorem Ground.up {w W : World} {bb n : Nat} {D : DataW Unit} {mv : Value} (h : Ground w bb n D mv) (hb : Below w.heap.size w W) : Ground W bb n D mv :=
  ⟨(hb.cell (p := ⟨bb, 0, none⟩) (cell_lt h.c0)).trans h.c0, h.th.keep fun m e => hb.block m (h.th.lt e), h.er.below hb, h.nc.below hb, h.tb.below hb⟩
theorem get_ground {w : World} {bb n : Nat} {D : DataW Unit} {mv : Value} (h : Ground w bb n D mv) (i : Nat) : Calls Tryz.prog 16 #[.pointer (some ⟨bb, 0, none⟩), .string (keyB i)] w (B.GetPost D (keyB i) w) :=
  B.get_any bb n D mv (keyB i) w h.c0 h.th (by rw [key_size]; decide)

/-- Key, from a world on. -/
theorem key_from {w : World} {i : Nat} (hi : i < 100) (ht : TabB w) : Hid (∀ W, Below w.heap.size w W → Calls Tryz.prog 17 #[.int .i64 i] W fun e w' => e = .returned (.string (keyB i)) ∧ Below w.heap.size w w') :=
  mkH (fun W h => (key_any i W hi (ht.below h)).mono fun _ _ ⟨he, hb⟩ => ⟨he, Below.ups h hb⟩)
theorem get_from {w : World} {bb n : Nat} {D : DataW Unit} {mv : Value} (h : Ground w bb n D mv) (i : Nat) (t : ByteArray) (er : Value) (he : (Maps.has D (B.lit (keyB i)) = true ∧ D.atKey (B.lit (keyB i)) (B.txt ByteArray.empty) = B.txt t ∧ er = .nilIface) ∨ (Maps.has D (B.lit (keyB i)) = false ∧ t = ⟨#[]⟩ ∧ er = .iface 73 (.int .i64 7))) :
    Hid (∀ W, Below w.heap.size w W → Calls Tryz.prog 16 #[.pointer (some ⟨bb, 0, none⟩), .string (keyB i)] W fun e w' => e = .returned (.tuple #[.string t, er]) ∧ Below w.heap.size w w') :=
  mkH (fun W hb => (get_ground (h.up hb) i).mono (by
    rintro e w' ⟨t', rfl, h1, h2, h3⟩
    refine ⟨?_, Below.ups hb h3⟩
    rcases he with ⟨q1, q2, rfl⟩ | ⟨q1, rfl, rfl⟩
    · have : t' = t := B.txt_inj ((h1 q1).symm.trans q2)
      subst this
      rw [q1]
      rfl
    · rw [q1, h2 q1]
      rfl))
theorem kb_at {w W : World} {kb bb : Nat} (hk : w.heap[kb]? = some (.cells #[.pointer (some ⟨bb, 0, none⟩)] 39 (0, 0))) (hb : Below w.heap.size w W) : W.cell? ⟨kb, 0, none⟩ = some (.pointer (some ⟨bb, 0, none⟩)) :=
  (cell1 ((hb.block _ (blk_lt hk)).trans hk)).1

set_option maxHeartbeats 2000000 in
set_option maxRecDepth 100000 in
theorem at_no (bb kb n : Nat) (D : DataW Unit) (mv : Value) (i : Nat) (w : World) (hi : i < 100) (h : Ground w bb n D mv) (hk : w.heap[kb]? = some (.cells #[.pointer (some ⟨bb, 0, none⟩)] 39 (0, 0))) (hh : Maps.has D (B.lit (keyB i)) = false) :
    Calls Tryz.prog 60 #[.int .i64 i, .pointer (some ⟨kb, 0, none⟩)] w fun e w' => e = .returned (.tuple #[.agg #[.string ⟨#[]⟩, .string ⟨#[]⟩, .bool false, .slice none 0 0], .iface 73 (.int .i64 7)]) ∧ Below w.heap.size w w' := by
  have HB1 : Hid (Below w.heap.size w (w.alloc (.cells #[.string ⟨#[]⟩, .string ⟨#[]⟩, .bool false, .slice none 0 0] 89))) := mkH ((Below.refl _ _).alloc (Nat.le_refl _) _)
  have HX1 := mkH (heap_alloc_new w (.cells #[.string ⟨#[]⟩, .string ⟨#[]⟩, .bool false, .slice none 0 0] 89))
  have hG1 := h.up HB1.out
  have hk1 := (HB1.out.block _ (blk_lt hk)).trans hk
  have HKE := key_from hi hG1.tb
  have HGT := get_from hG1 i ⟨#[]⟩ (.iface 73 (.int .i64 7)) (.inr ⟨hh, rfl, rfl⟩)
  have HKB := mkH hk1
  clear h hh hk hi hG1 hk1
  go_enter Tryz.func60, Tryz.ntmps60
  go_wp2_with fail
  generalize keyB i = key at *
  generalize w.alloc (.cells #[.string ⟨#[]⟩, .string ⟨#[]⟩, .bool false, .slice none 0 0] 89) = wa at *
  have hk1 := kb_at HKB.out (Below.refl _ _)
  go_region_held3 (fun w' => w'.cell? ⟨kb, 0, none⟩ = some (.pointer (some ⟨bb, 0, none⟩))) (go_keep)
    (first
      | (go_at_call 17; refine (HKE.out _ (by first | exact Below.refl _ _ | exact (Below.refl _ _).drew)).mono ?_; rintro e w1 ⟨rfl, hb1⟩; have k1 := kb_at HKB.out hb1)
      | (go_at_call 16; refine (HGT.out _ (by first | exact hb1 | exact hb1.drew)).mono ?_; rintro e w2 ⟨rfl, hb2⟩; have k2 := kb_at HKB.out hb2))
  have HB2 := mkH (Below.ups HB1.out hb2)
  have HX2 := mkH ((hb2.block _ (blk_lt HX1.out)).trans HX1.out)
  clear HKE HGT HKB hk1 k1 k2 hb1 hb2
  obtain ⟨_, _, _, _, gf⟩ := cells4 HX2.out
  have g0 := gf 0
  have g1 := gf 1
  have g2 := gf 2
  have g3 := gf 3
  go_wp2_with fail
  obtain ⟨z0, z1, z2, z3, _⟩ := cells4 (put4 _ _ _ _ _ _ (.string ⟨#[]⟩) (.string ⟨#[]⟩) (.bool false) (.slice none 0 0) _ HX2.out).1
  refine bodyPost_ret (v := .tuple #[.agg #[.string ⟨#[]⟩, .string ⟨#[]⟩, .bool false, .slice none 0 0], .iface 73 (.int .i64 7)]) (by simp [results, Tryz.results60, go_sem, z0, z1, z2, z3]) rfl ⟨rfl, ?_⟩
  exact below_set4 HB2.out (Nat.le_refl _) _ _ _ _
/-- What Parse gives of a commit that may lie in a bucket. -/
theorem parse_lay {w : World} {c : Com} (hc : Lay c) (he : ErrB w) (hw : NcB w) (ht : TabB w) : Hid (∀ W, Below w.heap.size w W → Calls Tryz.prog 7 #[.string (printB c)] W fun e w' => ∃ ba bn bc, e = .returned (.tuple #[.agg #[.string c.1, .bool c.2.1, .slice ba bn bc], .nilIface]) ∧ ActsAt w' (.slice ba bn bc) c.2.2 ∧ Below w.heap.size w w') := mkH (fun W h => by
  obtain ⟨tx, rd, A⟩ := c
  have hpl := print_len hc.ok hc.lines hc.few
  refine (parse_log (printB (tx, rd, A)) W hpl.2 (he.below h) (hw.below h) (ht.below h)).mono ?_
  have e : (printB (tx, rd, A)).data.toList = printL (tx, rd, A) := rfl
  have hb := readCom_back hc.ok hc.lines
  rintro e' w' ⟨hb', ⟨t', r', A', ba, bn, bc, htk, rfl, hA'⟩ | ⟨hno, _⟩⟩
  · have h1 := htk.1
    rw [e, hb] at h1
    cases h1
    exact ⟨ba, bn, bc, rfl, hA', Below.ups h hb'⟩
  · exact absurd ⟨by rw [e]; exact hb, hc.ok, rfl⟩ (hno (tx, rd, A)))

set_option maxHeartbeats 2000000 in
set_option maxRecDepth 100000 in
theorem at_yes (bb kb n : Nat) (D : DataW Unit) (mv : Value) (i : Nat) (c : Com) (w : World) (hi : i < 100) (h : Ground w bb n D mv) (hk : w.heap[kb]? = some (.cells #[.pointer (some ⟨bb, 0, none⟩)] 39 (0, 0))) (hh : Maps.has D (B.lit (keyB i)) = true) (ha : D.atKey (B.lit (keyB i)) (B.txt ByteArray.empty) = B.txt (printB c)) (hc : Lay c) :
    Calls Tryz.prog 60 #[.int .i64 i, .pointer (some ⟨kb, 0, none⟩)] w fun e w' => ∃ ba bn bc, e = .returned (.tuple #[.agg #[.string (printB c), .string c.1, .bool c.2.1, .slice ba bn bc], .nilIface]) ∧ ActsAt w' (.slice ba bn bc) c.2.2 ∧ Below w.heap.size w w' := by
  have HB1 : Hid (Below w.heap.size w (w.alloc (.cells #[.string ⟨#[]⟩, .string ⟨#[]⟩, .bool false, .slice none 0 0] 89))) := mkH ((Below.refl _ _).alloc (Nat.le_refl _) _)
  have HX1 := mkH (heap_alloc_new w (.cells #[.string ⟨#[]⟩, .string ⟨#[]⟩, .bool false, .slice none 0 0] 89))
  have hG1 := h.up HB1.out
  have hk1 := (HB1.out.block _ (blk_lt hk)).trans hk
  have HKE := key_from hi hG1.tb
  have HGT := get_from hG1 i (printB c) .nilIface (.inl ⟨hh, ha, rfl⟩)
  have HPA := parse_lay hc hG1.er hG1.nc hG1.tb
  have HKB := mkH hk1
  obtain ⟨tx, rd, A⟩ := c
  simp only at HPA
  generalize printB (tx, rd, A) = pb at *
  clear h hh hk hi hG1 hk1 hc ha
  go_enter Tryz.func60, Tryz.ntmps60
  go_wp2_with fail
  generalize keyB i = key at *
  generalize w.alloc (.cells #[.string ⟨#[]⟩, .string ⟨#[]⟩, .bool false, .slice none 0 0] 89) = wa at *
  have hk1 := kb_at HKB.out (Below.refl _ _)
  go_region_held3 (fun w' => w'.cell? ⟨kb, 0, none⟩ = some (.pointer (some ⟨bb, 0, none⟩))) (go_keep)
    (first
      | (go_at_call 17; refine (HKE.out _ (by first | exact Below.refl _ _ | exact (Below.refl _ _).drew)).mono ?_; rintro e w1 ⟨rfl, hb1⟩; have k1 := kb_at HKB.out hb1)
      | (go_at_call 16; refine (HGT.out _ (by first | exact hb1 | exact hb1.drew)).mono ?_; rintro e w2 ⟨rfl, hb2⟩; have k2 := kb_at HKB.out hb2))
  have HB2 := mkH hb2
  clear HKE HGT HKB hk1 k1 k2 hb1 hb2
  go_wp2_with fail
  refine (HPA.out _ HB2.out).mono ?_
  rintro e w3 ⟨ba, bn, bc, rfl, hA3, hb3⟩
  have HB3 := mkH (Below.ups HB1.out hb3)
  have HX3 := mkH ((hb3.block _ (blk_lt HX1.out)).trans HX1.out)
  have HX4 := mkH ((Below.heap_alloc w3 (.cells #[.string tx, .bool rd, .slice ba bn bc] 24) _ (blk_lt HX3.out)).trans HX3.out)
  have HB4 : Hid (Below w.heap.size w (w3.alloc (.cells #[.string tx, .bool rd, .slice ba bn bc] 24))) := mkH (Below.ups HB3.out ((Below.refl _ _).alloc (Nat.le_refl _) _))
  have HA4 := mkH (hA3.below ((Below.refl _ _).alloc (Nat.le_refl _) (.cells #[.string tx, .bool rd, .slice ba bn bc] 24)))
  obtain ⟨_, _, _, _, gf⟩ := cells4 HX4.out
  have g0 := gf 0
  have g1 := gf 1
  have g2 := gf 2
  have g3 := gf 3
  clear hA3 hb3 HB3 HX3 HPA gf
  go_wp2_with fail
  clear g0 g1 g2 g3
  obtain ⟨hP, hG⟩ := put4 _ _ _ _ _ _ (.string pb) (.string tx) (.bool rd) (.slice ba bn bc) _ HX4.out
  obtain ⟨z0, z1, z2, z3, _⟩ := cells4 hP
  refine bodyPost_ret (v := .tuple #[.agg #[.string pb, .string tx, .bool rd, .slice ba bn bc], .nilIface]) (by simp [results, Tryz.results60, go_sem, z0, z1, z2, z3]) rfl ⟨ba, bn, bc, rfl, HA4.out.stays (Stays.grown HX4.out ?_ hG), ?_⟩
  · intro i x hx
    match i with
    | 0 => simp at hx
    | 1 => simp at hx
    | 2 => simp at hx
    | 3 => simp at hx
    | i + 4 => simp at hx
  · exact below_set4 HB4.out (Nat.le_refl _) _ _ _ _
end Go.Proofs.YtfppidnfomelpaaGreatDoor

namespace Go.Proofs.YtfppidnfomelpaaGreatDoor
open Go.RowKit Go.Proofs Go.Lib Go.Joins

def snv (x0 : Int) (a1 : Option Addr) (n1 c1 : Nat) (x2 : Int) (a2 : Option Addr) (n2 c2 : Nat) : Value := .agg #[.int .i64 x0, .slice a1 n1 c1, .int .i64 x2, .slice a2 n2 c2]
theorem snapW_form {W : World} {s : Snap} {v : Value} (h : SnapW W s v) : ∃ a1 n1 c1 x2 a2 n2 c2, v = snv s.ver a1 n1 c1 x2 a2 n2 c2 := by
  obtain ⟨a1, c1, a2, c2, L, e, hV⟩ := h
  exact ⟨_, _, _, _, _, _, _, e⟩
set_option maxHeartbeats 2000000 in
set_option maxRecDepth 100000 in
theorem behind_yes (s t : Snap) (y0 : Int) (b1 : Option Addr) (m1 d1 : Nat) (y2 : Int) (b2 : Option Addr) (m2 d2 : Nat) (tx : ByteArray) (rd : Bool) (acts : List Actn) (aa : Option Addr) (an ac : Nat) (w : World) (h : SnapW w s (snv y0 b1 m1 d1 y2 b2 m2 d2)) (hg : Good colB fitB s) (hv0 : 0 ≤ s.ver) (hv1 : s.ver ≤ 1000)
    (ha : ActsAt w (.slice aa an ac) acts) (h12 : acts.length ≤ 1000) (htx : tx.size ≤ maxLen) (hw : NcB w) (hap : AppliesL s (tx, rd, acts) t) :
    Calls Tryz.prog 32 #[snv y0 b1 m1 d1 y2 b2 m2 d2, .agg #[.string tx, .bool rd, .slice aa an ac]] w fun e w' => ∃ x0 a1 n1 c1 x2 a2 n2 c2, e = .returned (.tuple #[snv x0 a1 n1 c1 x2 a2 n2 c2, .nilIface]) ∧ SnapW w' t (snv x0 a1 n1 c1 x2 a2 n2 c2) ∧ Below w.heap.size w w' := by
  unfold snv at h ⊢
  obtain ⟨y0', y1', y2', y3', y4'⟩ := three_alloc w (.cells #[.int .i64 y0, .slice b1 m1 d1, .int .i64 y2, .slice b2 m2 d2] 47) (.cells #[.string tx, .bool rd, .slice aa an ac] 24) (.cells #[.int .i64 0, .slice none 0 0, .int .i64 0, .slice none 0 0] 47)
  have HAP : Hid (Calls Tryz.prog 20 #[.agg #[.int .i64 y0, .slice b1 m1 d1, .int .i64 y2, .slice b2 m2 d2], .agg #[.string tx, .bool rd, .slice aa an ac]] (((w.alloc (.cells #[.int .i64 y0, .slice b1 m1 d1, .int .i64 y2, .slice b2 m2 d2] 47)).alloc (.cells #[.string tx, .bool rd, .slice aa an ac] 24)).alloc (.cells #[.int .i64 0, .slice none 0 0, .int .i64 0, .slice none 0 0] 47)) fun e w' => ∃ x0 a1 n1 c1 x2 a2 n2 c2, e = .returned (.tuple #[.agg #[.int .i64 x0, .slice a1 n1 c1, .int .i64 x2, .slice a2 n2 c2], .nilIface]) ∧ SnapW w' t (.agg #[.int .i64 x0, .slice a1 n1 c1, .int .i64 x2, .slice a2 n2 c2]) ∧ Below w.heap.size w w' ∧ w'.heap[w.heap.size + 2]? = some (.cells #[.int .i64 0, .slice none 0 0, .int .i64 0, .slice none 0 0] 47 (0, 0))) := mkH ((apply_out s _ tx rd acts aa an ac _ (h.up y4') hg hv0 hv1 (ha.below y4') h12 htx (hw.below y4')).mono (by
    rintro e w' ⟨x0, a1, n1, c1, x2, a2, n2, c2, er, rfl, hb, ⟨rfl, t', h1, h2⟩ | ⟨_, _, _, hno⟩⟩
    · have := applies_one h1 hap
      subst this
      exact ⟨x0, a1, n1, c1, x2, a2, n2, c2, rfl, h2, Below.ups y4' hb, (hb.block _ (by rw [y0']; omega)).trans y3'⟩
    · exact absurd hap (hno t)))
  clear h hg hv0 hv1 ha h12 htx hw hap y0' y1' y2' y3' y4'
  go_enter Tryz.func32, Tryz.ntmps32
  go_wp2_with fail
  refine HAP.out.mono ?_
  rintro e w2 ⟨x0, a1, n1, c1, x2, a2, n2, c2, rfl, hs2, hb2, hx2⟩
  have HB4 : Hid (Below w.heap.size w (w2.alloc (.cells #[.int .i64 x0, .slice a1 n1 c1, .int .i64 x2, .slice a2 n2 c2] 47))) := mkH (Below.ups hb2 ((Below.refl _ _).alloc (Nat.le_refl _) _))
  have HX4 := mkH ((Below.heap_alloc w2 (.cells #[.int .i64 x0, .slice a1 n1 c1, .int .i64 x2, .slice a2 n2 c2] 47) _ (blk_lt hx2)).trans hx2)
  have HS4 := mkH (hs2.up ((Below.refl _ _).alloc (Nat.le_refl _) (.cells #[.int .i64 x0, .slice a1 n1 c1, .int .i64 x2, .slice a2 n2 c2] 47)))
  obtain ⟨_, _, _, _, gf⟩ := cells4 HX4.out
  have g0 := gf 0
  have g1 := gf 1
  have g2 := gf 2
  have g3 := gf 3
  clear hs2 hb2 hx2 HAP gf
  go_wp2_with fail
  clear g0 g1 g2 g3
  obtain ⟨hP, hG⟩ := put4 _ _ _ _ _ _ (.int .i64 x0) (.slice a1 n1 c1) (.int .i64 x2) (.slice a2 n2 c2) _ HX4.out
  obtain ⟨z0, z1, z2, z3, _⟩ := cells4 hP
  refine bodyPost_ret (v := .tuple #[.agg #[.int .i64 x0, .slice a1 n1 c1, .int .i64 x2, .slice a2 n2 c2], .nilIface]) (by simp [results, Tryz.results32, go_sem, z0, z1, z2, z3]) rfl ⟨x0, a1, n1, c1, x2, a2, n2, c2, rfl, HS4.out.put HX4.out hG, ?_⟩
  exact below_set4 HB4.out (by omega) _ _ _ _
end Go.Proofs.YtfppidnfomelpaaGreatDoor

namespace Go.Proofs.YtfppidnfomelpaaGreatDoor
open Go.RowKit Go.Proofs Go.Lib Go.Joins

theorem eql_nn (w : World) : (binOp .eql 28 .nilIface (.iface 73 (.int .i64 7))).run Tryz.prog w = .ok (.bool false) w := by kernel_rfl
theorem eql_77 (w : World) : (binOp .eql 28 (.iface 73 (.int .i64 7)) (.iface 73 (.int .i64 7))).run Tryz.prog w = .ok (.bool true) w := by kernel_rfl
/-- Between two commits that are loaded. -/
structure LdI (w : World) (bb : Nat) (H : List (Com × Snap)) (W : World) (k : Nat) (a1 : Option Addr) (n1 c1 : Nat) (x2 : Int) (a2 : Option Addr) (n2 c2 : Nat) : Prop where
  box : W.heap[w.heap.size + 2]? = some (.cells #[.int .i64 k, .slice a1 n1 c1, .int .i64 x2, .slice a2 n2 c2] 47 (0, 0))
  snap : SnapW W (snapAt H k) (snv k a1 n1 c1 x2 a2 n2 c2)
  res : W.heap[w.heap.size]? = some (.cells #[.int .i64 0, .slice none 0 0, .int .i64 0, .slice none 0 0] 47 (0, 0))
  kb : W.heap[w.heap.size + 1]? = some (.cells #[.pointer (some ⟨bb, 0, none⟩)] 39 (0, 0))
  low : Below w.heap.size w W
def verOf (b : Nat) (w : World) : Nat := match w.cell? ⟨b, 0, none⟩ with
  | some (.int _ v) => v.toNat
  | _ => 0
theorem verOf_eq {b k : Nat} {w : World} (h : w.cell? ⟨b, 0, none⟩ = some (.int .i64 k)) : verOf b w = k := by
  unfold verOf
  rw [h]
  simp
set_option maxHeartbeats 4000000 in
set_option maxRecDepth 100000 in
theorem load_any (bb n : Nat) (D : DataW Unit) (mv : Value) (H : List (Com × Snap)) (ver : Int) (kk : Nat) (w : World) (h : Ground w bb n D mv) (hl : Lain D H) (hp : Past' H) (h40 : H.length ≤ 40) (hk : kk ≤ H.length) (hv : (ver < 0 ∧ kk = H.length) ∨ ver = kk) :
    Calls Tryz.prog 14 #[.pointer (some ⟨bb, 0, none⟩), .int .i64 ver] w fun e w' => ∃ a1 n1 c1 x2 a2 n2 c2, e = .returned (.tuple #[snv kk a1 n1 c1 x2 a2 n2 c2, .nilIface]) ∧ SnapW w' (snapAt H kk) (snv kk a1 n1 c1 x2 a2 n2 c2) ∧ Below w.heap.size w w' := by
  obtain ⟨t0, t1, t2, t3, t4⟩ := three_alloc w (.cells #[.int .i64 0, .slice none 0 0, .int .i64 0, .slice none 0 0] 47) (.cells #[.pointer (some ⟨bb, 0, none⟩)] 39) (.cells #[.int .i64 0, .slice none 0 0, .int .i64 0, .slice none 0 0] 47)
  have HI0 : Hid (∃ a1 n1 c1 x2 a2 n2 c2, LdI w bb H (((w.alloc (.cells #[.int .i64 0, .slice none 0 0, .int .i64 0, .slice none 0 0] 47)).alloc (.cells #[.pointer (some ⟨bb, 0, none⟩)] 39)).alloc (.cells #[.int .i64 0, .slice none 0 0, .int .i64 0, .slice none 0 0] 47)) 0 a1 n1 c1 x2 a2 n2 c2) :=
    mkH ⟨none, 0, 0, 0, none, 0, 0, t3, snapW_zero _, t1, t2, t4⟩
  have HG := mkH h
  have HL := mkH hl
  have HP := mkH hp
  have q1 := eql_nn
  have q2 := eql_77
  clear h hl hp t0 t1 t2 t3 t4
  go_enter Tryz.func14, Tryz.ntmps14
  go_wp2_with (go_at_call 31; refine (lying_any _ _).mono ?_; rintro e w1 ⟨rfl, rfl⟩)
  generalize ((w.alloc (.cells #[.int .i64 0, .slice none 0 0, .int .i64 0, .slice none 0 0] 47)).alloc (.cells #[.pointer (some ⟨bb, 0, none⟩)] 39)).alloc (.cells #[.int .i64 0, .slice none 0 0, .int .i64 0, .slice none 0 0] 47) = wa at *
  go_loopw [8, 9] (fun _ _ wr => ∃ k a1 n1 c1 x2 a2 n2 c2, k ≤ kk ∧ Hid (LdI w bb H wr k a1 n1 c1 x2 a2 n2 c2)) (fun _ _ wr => kk - verOf (w.heap.size + 2) wr)
  case atStart =>
    obtain ⟨a1, n1, c1, x2, a2, n2, c2, hI⟩ := HI0.out
    exact ⟨0, a1, n1, c1, x2, a2, n2, c2, Nat.zero_le _, mkH hI⟩
  case round =>
    obtain ⟨k, a1, n1, c1, x2, a2, n2, c2, hkk, HI⟩ := hrel
    clear HI0
    obtain ⟨x0, x1, x3, x4, xf⟩ := cells4 HI.out.box
    have hvk := verOf_eq x0
    by_cases hlt : k < kk
    · obtain ⟨c, hc, hap, hlay⟩ := past_at HP.out (Nat.lt_of_lt_of_le hlt hk)
      obtain ⟨hh, hat⟩ := (HL.out.2 k (by omega)).1 c hc
      obtain ⟨gg, nn, vv⟩ := past_good HP.out (i := k) (by omega)
      have HAT := mkH (at_yes bb (w.heap.size + 1) n D mv (k + 1) c wr (by omega) (HG.out.up HI.out.low) HI.out.kb hh hat hlay)
      obtain ⟨tx, rd, A⟩ := c
      have e1 : ((k + 1 : Nat) : Int) = (k : Int) + 1 := by omega
      rw [e1] at HAT
      simp only at HAT
      have hA12 : A.length ≤ 12 := hlay.few
      have htx : tx.size ≤ maxLen := by
        have h := hlay.ok
        simp only [printOk, Bool.and_eq_true] at h
        have := name_size h.1
        unfold maxLen
        omega
      have HBE : Hid (∀ W ba bn bc, Below wr.heap.size wr W → ActsAt W (.slice ba bn bc) A → Calls Tryz.prog 32 #[.agg #[.int .i64 k, .slice a1 n1 c1, .int .i64 x2, .slice a2 n2 c2], .agg #[.string tx, .bool rd, .slice ba bn bc]] W fun e w' => ∃ y0 b1 m1 d1 y2 b2 m2 d2, e = .returned (.tuple #[snv y0 b1 m1 d1 y2 b2 m2 d2, .nilIface]) ∧ SnapW w' (snapAt H (k + 1)) (snv y0 b1 m1 d1 y2 b2 m2 d2) ∧ Below wr.heap.size wr w') := mkH (fun W ba bn bc hb hA => (behind_yes _ _ k a1 n1 c1 x2 a2 n2 c2 tx rd A ba bn bc W (HI.out.snap.up hb) gg (by rw [vv]; omega) (by rw [vv]; omega) hA (by omega) htx ((HG.out.nc.below HI.out.low).below hb) hap).mono (by
        rintro e w' ⟨y0, b1, m1, d1, y2, b2, m2, d2, he, h1, h2⟩
        exact ⟨y0, b1, m1, d1, y2, b2, m2, d2, he, h1, Below.ups hb h2⟩))
      have HV1 : Hid ((snapAt H (k + 1)).ver = (k + 1 : Nat)) := mkH (past_good HP.out (i := k + 1) (by omega)).2.2
      clear hap hlay hh hat hc gg nn vv htx
      clear e1
      have hz1 : (k : Int) + 1 ≤ 41 := by omega
      have hz2 : (0 : Int) ≤ (k : Int) := by omega
      have hcond : ver < 0 ∨ (¬ ver < 0 ∧ (k : Int) < ver) := by rcases hv with ⟨h, _⟩ | h <;> omega
      generalize printB (tx, rd, A) = pb at *
      rcases hcond with hneg | ⟨hneg, hpos⟩
      · go_wp2_with fail
        refine HAT.out.mono ?_
        rintro e w2 ⟨ba, bn, bc, rfl, hA2, hb2⟩
        have HB3 : Hid (Below wr.heap.size wr (w2.alloc (.cells #[.string pb, .string tx, .bool rd, .slice ba bn bc] 89))) := mkH (Below.ups hb2 ((Below.refl _ _).alloc (Nat.le_refl _) _))
        have HA3 := mkH (hA2.below ((Below.refl _ _).alloc (Nat.le_refl _) (.cells #[.string pb, .string tx, .bool rd, .slice ba bn bc] 89)))
        have HX3 := mkH ((HB3.out.block _ (blk_lt HI.out.box)).trans HI.out.box)
        clear x0 x1 x3 x4 xf hA2 hb2 HAT
        obtain ⟨x0, x1, x3, x4, xf⟩ := cells4 HX3.out
        go_wp2_with fail
        refine (HBE.out _ _ _ _ HB3.out HA3.out).mono ?_
        rintro e w4 ⟨y0, b1, m1, d1, y2, b2, m2, d2, rfl, hs4, hb4⟩
        have HX4 := mkH ((hb4.block _ (blk_lt HI.out.box)).trans HI.out.box)
        have HB4 := mkH hb4
        obtain ⟨_, _, _, _, _, _, _, ev⟩ := snapW_form hs4
        unfold snv at ev hs4 ⊢
        simp only [Value.agg.injEq, Array.mk.injEq, List.cons.injEq, Value.int.injEq, Value.slice.injEq] at ev
        have hy0 : y0 = ((k + 1 : Nat) : Int) := by rw [ev.1.2, HV1.out]
        clear ev
        subst hy0
        have HS4 := mkH hs4
        clear x0 x1 x3 x4 xf hs4 hb4 HBE HA3 HB3 HX3
        obtain ⟨_, _, _, _, gf⟩ := cells4 HX4.out
        have g0 := gf 0
        have g1 := gf 1
        have g2 := gf 2
        have g3 := gf 3
        clear gf
        generalize hkn : ((k + 1 : Nat) : Int) = ki at *
        go_wp2_with fail
        subst hkn
        obtain ⟨hP, hG⟩ := put4 _ _ _ _ _ _ (.int .i64 ((k + 1 : Nat) : Int)) (.slice b1 m1 d1) (.int .i64 y2) (.slice b2 m2 d2) _ HX4.out
        refine ⟨⟨k + 1, b1, m1, d1, y2, b2, m2, d2, by omega, mkH ⟨hP, HS4.out.put HX4.out hG, ?_, ?_, below_set4 (Below.ups HI.out.low HB4.out) (by omega) _ _ _ _⟩⟩, ?_⟩
        · exact (hG.block _ (Nat.lt_of_lt_of_le (blk_lt HI.out.res) HB4.out.size) (fun e => by injection e with e; omega)).trans ((HB4.out.block _ (blk_lt HI.out.res)).trans HI.out.res)
        · exact (hG.block _ (Nat.lt_of_lt_of_le (blk_lt HI.out.kb) HB4.out.size) (fun e => by injection e with e; omega)).trans ((HB4.out.block _ (blk_lt HI.out.kb)).trans HI.out.kb)
        · have e1 := verOf_eq (cells4 hP).1
          have e2 : w.heap.size + 1 + 1 = w.heap.size + 2 := rfl
          rw [hvk, e2, e1]
          omega
      · go_wp2_with fail
        refine HAT.out.mono ?_
        rintro e w2 ⟨ba, bn, bc, rfl, hA2, hb2⟩
        have HB3 : Hid (Below wr.heap.size wr (w2.alloc (.cells #[.string pb, .string tx, .bool rd, .slice ba bn bc] 89))) := mkH (Below.ups hb2 ((Below.refl _ _).alloc (Nat.le_refl _) _))
        have HA3 := mkH (hA2.below ((Below.refl _ _).alloc (Nat.le_refl _) (.cells #[.string pb, .string tx, .bool rd, .slice ba bn bc] 89)))
        have HX3 := mkH ((HB3.out.block _ (blk_lt HI.out.box)).trans HI.out.box)
        clear x0 x1 x3 x4 xf hA2 hb2 HAT
        obtain ⟨x0, x1, x3, x4, xf⟩ := cells4 HX3.out
        go_wp2_with fail
        refine (HBE.out _ _ _ _ HB3.out HA3.out).mono ?_
        rintro e w4 ⟨y0, b1, m1, d1, y2, b2, m2, d2, rfl, hs4, hb4⟩
        have HX4 := mkH ((hb4.block _ (blk_lt HI.out.box)).trans HI.out.box)
        have HB4 := mkH hb4
        obtain ⟨_, _, _, _, _, _, _, ev⟩ := snapW_form hs4
        unfold snv at ev hs4 ⊢
        simp only [Value.agg.injEq, Array.mk.injEq, List.cons.injEq, Value.int.injEq, Value.slice.injEq] at ev
        have hy0 : y0 = ((k + 1 : Nat) : Int) := by rw [ev.1.2, HV1.out]
        clear ev
        subst hy0
        have HS4 := mkH hs4
        clear x0 x1 x3 x4 xf hs4 hb4 HBE HA3 HB3 HX3
        obtain ⟨_, _, _, _, gf⟩ := cells4 HX4.out
        have g0 := gf 0
        have g1 := gf 1
        have g2 := gf 2
        have g3 := gf 3
        clear gf
        generalize hkn : ((k + 1 : Nat) : Int) = ki at *
        go_wp2_with fail
        subst hkn
        obtain ⟨hP, hG⟩ := put4 _ _ _ _ _ _ (.int .i64 ((k + 1 : Nat) : Int)) (.slice b1 m1 d1) (.int .i64 y2) (.slice b2 m2 d2) _ HX4.out
        refine ⟨⟨k + 1, b1, m1, d1, y2, b2, m2, d2, by omega, mkH ⟨hP, HS4.out.put HX4.out hG, ?_, ?_, below_set4 (Below.ups HI.out.low HB4.out) (by omega) _ _ _ _⟩⟩, ?_⟩
        · exact (hG.block _ (Nat.lt_of_lt_of_le (blk_lt HI.out.res) HB4.out.size) (fun e => by injection e with e; omega)).trans ((HB4.out.block _ (blk_lt HI.out.res)).trans HI.out.res)
        · exact (hG.block _ (Nat.lt_of_lt_of_le (blk_lt HI.out.kb) HB4.out.size) (fun e => by injection e with e; omega)).trans ((HB4.out.block _ (blk_lt HI.out.kb)).trans HI.out.kb)
        · have e1 := verOf_eq (cells4 hP).1
          have e2 : w.heap.size + 1 + 1 = w.heap.size + 2 := rfl
          rw [hvk, e2, e1]
          omega
    · have hke : k = kk := by omega
      subst hke
      clear hkk hlt
      have fin : ∀ (W : World) (S : Act), LdI w bb H W k a1 n1 c1 x2 a2 n2 c2 → True := fun _ _ _ => trivial
      rcases hv with ⟨hneg, hkH⟩ | hve
      · have HAT := mkH (at_no bb (w.heap.size + 1) n D mv (k + 1) wr (by omega) (HG.out.up HI.out.low) HI.out.kb ((HL.out.2 k (by omega)).2 (by omega)))
        have e1 : ((k + 1 : Nat) : Int) = (k : Int) + 1 := by omega
        rw [e1] at HAT
        have hz1 : (k : Int) + 1 ≤ 41 := by omega
        have hz2 : (0 : Int) ≤ (k : Int) := by omega
        clear e1 fin hkH
        go_wp2_with fail
        refine HAT.out.mono ?_
        rintro e w2 ⟨rfl, hb2⟩
        have HB3 : Hid (Below wr.heap.size wr (w2.alloc (.cells #[.string ⟨#[]⟩, .string ⟨#[]⟩, .bool false, .slice none 0 0] 89))) := mkH (Below.ups hb2 ((Below.refl _ _).alloc (Nat.le_refl _) _))
        have HX3 := mkH ((HB3.out.block _ (blk_lt HI.out.box)).trans HI.out.box)
        have HR3 := mkH ((HB3.out.block _ (blk_lt HI.out.res)).trans HI.out.res)
        have HS3 := mkH (HI.out.snap.up HB3.out)
        clear x0 x1 x3 x4 xf hb2 HAT
        obtain ⟨x0, x1, x3, x4, xf⟩ := cells4 HX3.out
        obtain ⟨_, _, _, _, gf⟩ := cells4 HR3.out
        have g0 := gf 0
        have g1 := gf 1
        have g2 := gf 2
        have g3 := gf 3
        clear gf
        go_wp2_with fail
        clear g0 g1 g2 g3 x0 x1 x3 x4 xf
        obtain ⟨hP, hG⟩ := put4 _ _ _ _ _ _ (.int .i64 (k : Int)) (.slice a1 n1 c1) (.int .i64 x2) (.slice a2 n2 c2) _ HR3.out
        obtain ⟨z0, z1, z2, z3, _⟩ := cells4 hP
        refine bodyPost_ret (v := .tuple #[snv k a1 n1 c1 x2 a2 n2 c2, .nilIface]) (by simp [results, Tryz.results14, go_sem, z0, z1, z2, z3, snv]) rfl ⟨a1, n1, c1, x2, a2, n2, c2, rfl, HS3.out.put HR3.out hG, below_set4 (Below.ups HI.out.low HB3.out) (Nat.le_refl _) _ _ _ _⟩
      · subst hve
        clear fin
        have hz2 : ¬ (k : Int) < 0 := by omega
        obtain ⟨_, _, _, _, gf⟩ := cells4 HI.out.res
        have g0 := gf 0
        have g1 := gf 1
        have g2 := gf 2
        have g3 := gf 3
        clear gf
        go_wp2_with fail
        clear g0 g1 g2 g3 x0 x1 x3 x4 xf
        obtain ⟨hP, hG⟩ := put4 _ _ _ _ _ _ (.int .i64 (k : Int)) (.slice a1 n1 c1) (.int .i64 x2) (.slice a2 n2 c2) _ HI.out.res
        obtain ⟨z0, z1, z2, z3, _⟩ := cells4 hP
        refine bodyPost_ret (v := .tuple #[snv k a1 n1 c1 x2 a2 n2 c2, .nilIface]) (by simp [results, Tryz.results14, go_sem, z0, z1, z2, z3, snv]) rfl ⟨a1, n1, c1, x2, a2, n2, c2, rfl, HI.out.snap.put HI.out.res hG, below_set4 HI.out.low (Nat.le_refl _) _ _ _ _⟩
end Go.Proofs.YtfppidnfomelpaaGreatDoor
