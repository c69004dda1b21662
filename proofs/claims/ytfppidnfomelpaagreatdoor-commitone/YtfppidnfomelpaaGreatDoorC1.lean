/- What the statement's own columns and short do, said of every call. -/
import Derived.Test.YtfppidnfomelpaaGreatDoorB4
namespace Go.Proofs.YtfppidnfomelpaaGreatDoor
open Go.RowKit Go.Proofs Go.Lib Go.Joins

def colSh (c : Col) : Bool := decide (c.2.1.size ≤ 60) && decide (c.2.2.2.2.2.2.size ≤ 100)
def colsSh (l : List Col) : Bool := decide (l.length ≤ 20) && l.all colSh
theorem all_no {α : Type} [Inhabited α] {p : α → Bool} {l : List α} {k : Nat} (hk : k < l.length) (h : p l[k]! = false) : l.all p = false := by
  rw [List.all_eq_false]
  exact ⟨l[k]!, by rw [getElem!_pos l k hk]; exact List.getElem_mem hk, by rw [h]; simp⟩
theorem all_yes {α : Type} [Inhabited α] {p : α → Bool} {l : List α} (h : ∀ k, k < l.length → p l[k]! = true) : l.all p = true := by
  rw [List.all_eq_true]
  intro x hx
  obtain ⟨k, hk, rfl⟩ := List.getElem_of_mem hx
  have := h k hk
  rwa [getElem!_pos l k hk] at this
theorem all_at {α : Type} [Inhabited α] {p : α → Bool} {l : List α} (h : l.all p = true) {k : Nat} (hk : k < l.length) : p l[k]! = true := by
  rw [getElem!_pos l k hk]; exact List.all_eq_true.1 h _ (List.getElem_mem hk)

set_option maxHeartbeats 1000000 in
set_option maxRecDepth 100000 in
theorem columns_any (a : Option Addr) (n c : Nat) (l : List Col) (w : World) (h : LiC w (.slice a n c) l) (hn : l.length ≤ maxLen) (hz : ∀ x ∈ l, x.2.1.size ≤ maxLen ∧ x.2.2.2.2.2.2.size ≤ maxLen) :
    Calls Tryz.prog 19 #[.slice a n c] w fun e w' => e = .returned (.bool (colsSh l)) ∧ Below w.heap.size w w' := by
  have hl := h.len
  subst hl
  unfold maxLen at hn
  by_cases h20 : l.length ≤ 20
  · have h20z : (l.length : Int) ≤ 20 := by omega
    have HR : Hid (colsSh l = l.all colSh) := by simp [Hid, colsSh, h20]
    have HN : Hid (∀ k, k < l.length → colSh l[k]! = false → false = l.all colSh) := fun k hk hh => (all_no hk hh).symm
    have HY : Hid ((∀ k, k < l.length → colSh l[k]! = true) → true = l.all colSh) := fun hh => (all_yes hh).symm
    have HZ := mkH hz
    have HL := mkH h
    clear h hz
    generalize colsSh l = res at HR ⊢
    go_enter Tryz.func19, Tryz.ntmps19
    go_wp2
    go_loopw [3] (fun vi wr => ∃ k : Nat, k ≤ l.length ∧ vi = .int .i64 k ∧ Hid (Below w.heap.size w wr) ∧ Hid (∀ j, j < k → colSh l[j]! = true)) (fun vi _ => l.length - (intOf vi).toNat)
    case atStart => exact ⟨0, Nat.zero_le _, rfl, mkH (Below.refl _ _), mkH (fun j hj => absurd hj (Nat.not_lt_zero _))⟩
    case round =>
      obtain ⟨k, hk, rfl, BW, OK⟩ := hrel
      by_cases hlt : k < l.length
      · have hltz : (k : Int) < (l.length : Int) := by omega
        rcases HL.out.below BW.out with ⟨_, e0⟩ | ⟨g, o, c', eg, hcap, hs⟩
        · rw [e0] at hlt; simp at hlt
        · injection eg with eg1 _ eg2
          subst eg1 eg2
          obtain ⟨⟨x1, x2, x3, x4, x5, x6, x7⟩, hx⟩ : ∃ x, l[k]! = x := ⟨_, rfl⟩
          obtain ⟨_, q1, _, _, _, _, q6⟩ := hs.cells hlt hx
          have hzz := HZ.out _ (mem_of_lt hlt)
          rw [hx] at hzz
          obtain ⟨z1, z2⟩ := hzz
          simp only at z1 z2
          unfold maxLen at z1 z2
          have HNK := mkH (HN.out k hlt)
          have HCS : Hid (colSh l[k]! = (decide (x2.size ≤ 60) && decide (x7.size ≤ 100))) := mkH (by rw [hx]; rfl)
          have HNX : Hid (colSh l[k]! = true → ∀ j, j < k + 1 → colSh l[j]! = true) := mkH (fun hh j hj => by
            by_cases e : j = k
            · rw [e]; exact hh
            · exact OK.out j (by omega))
          clear hx hs
          generalize colSh l[k]! = ck at HNK HCS HNX
          rcases Nat.lt_or_ge 60 x2.size with h1 | h1
          · have h1z : (60 : Int) < (x2.size : Int) := by omega
            go_wp2
            all_goals
              go_ret
              exact ⟨ret_bool (by rw [HR.out]; exact HNK.out (by rw [HCS.out]; simp; omega)), BW.out⟩
          · rcases Nat.lt_or_ge 100 x7.size with h2 | h2
            · have h1z : ¬ (60 : Int) < (x2.size : Int) := by omega
              have h2z : (100 : Int) < (x7.size : Int) := by omega
              go_wp2
              all_goals
                go_ret
                exact ⟨ret_bool (by rw [HR.out]; exact HNK.out (by rw [HCS.out]; simp; omega)), BW.out⟩
            · have h1z : ¬ (60 : Int) < (x2.size : Int) := by omega
              have h2z : ¬ (100 : Int) < (x7.size : Int) := by omega
              go_wp2
              go_roundw
              case rel => exact ⟨k + 1, by omega, by go_num, BW, mkH (HNX.out (by rw [HCS.out]; simp; omega))⟩
              case measure => simp [intOf]; omega
      · have hkl : k = l.length := by omega
        subst hkl
        go_wp2
        go_ret
        exact ⟨ret_bool (by rw [HR.out]; exact HY.out OK.out), BW.out⟩
  · have h20z : (20 : Int) < (l.length : Int) := by omega
    have HR : Hid (colsSh l = false) := by simp [Hid, colsSh]; omega
    generalize colsSh l = res at HR ⊢
    clear h hz
    go_enter Tryz.func19, Tryz.ntmps19
    go_wp2
    go_ret
    exact ⟨ret_bool HR.out.symm, Below.refl _ _⟩

/-- An action as it came in. -/
structure ActR (W : World) (a : Actn) (ma : Option Addr) (mn mc : Nat) (ca : Option Addr) (cn cc : Nat) : Prop where
  mask : LiI W (.slice ma mn mc) a.2.2.2.1
  cols : LiC W (.slice ca cn cc) a.2.2.2.2.1
  path : a.2.1.size ≤ maxLen
  few : a.2.2.2.1.length ≤ maxLen
  few2 : a.2.2.2.2.1.length ≤ maxLen
  texts : ∀ x ∈ a.2.2.2.2.1, x.2.1.size ≤ maxLen ∧ x.2.2.2.2.2.2.size ≤ maxLen
theorem ActR.below {w W : World} {a : Actn} {ma : Option Addr} {mn mc : Nat} {ca : Option Addr} {cn cc : Nat} (h : ActR w a ma mn mc ca cn cc) (hb : Below w.heap.size w W) : ActR W a ma mn mc ca cn cc :=
  ⟨h.mask.below hb, h.cols.below hb, h.path, h.few, h.few2, h.texts⟩
def ActsR (W : World) (v : Value) (l : List Actn) : Prop := ((∃ a c, v = .slice a 0 c) ∧ l = []) ∨ ∃ g o c, v = .slice (some ⟨g, o, none⟩) l.length c ∧ l.length ≤ c ∧ g < W.heap.size ∧ ∀ j, j < l.length → ∃ ma mn mc ca cn cc, ActR W l[j]! ma mn mc ca cn cc ∧ Cells6 W g (o + j * 6) l[j]! ma mn mc ca cn cc
theorem ActsR.below {w W : World} {v : Value} {l : List Actn} (h : ActsR w v l) (hb : Below w.heap.size w W) : ActsR W v l := by
  rcases h with h | ⟨g, o, c, h1, h2, h3, h4⟩
  · exact .inl h
  · refine .inr ⟨g, o, c, h1, h2, Nat.lt_of_lt_of_le h3 hb.size, fun j hj => ?_⟩
    obtain ⟨ma, mn, mc, ca, cn, cc, h5, h6⟩ := h4 j hj
    exact ⟨ma, mn, mc, ca, cn, cc, h5.below hb, h6.below h3 hb⟩
theorem ActsR.len {w : World} {a : Option Addr} {n c : Nat} {l : List Actn} (h : ActsR w (.slice a n c) l) : n = l.length := by
  rcases h with ⟨⟨_, _, e⟩, e0⟩ | ⟨g, o, c, e, _, _⟩
  · cases e; subst e0; rfl
  · cases e; rfl
def actSh (a : Actn) : Bool := decide (a.2.1.size ≤ 60) && (decide (a.2.2.2.1.length ≤ 70) && colsSh a.2.2.2.2.1)
def shortB (c : Com) : Bool := decide (c.1.size ≤ 60) && (decide (c.2.2.length ≤ 12) && c.2.2.all actSh)
theorem ActsR.short {w : World} {v : Value} {l : List Actn} (h : ActsR w v l) (hs : l.all actSh = true) : ActsAt w v l := by
  rcases h with h | ⟨g, o, c, h1, h2, h3, h4⟩
  · exact .inl h
  · refine .inr ⟨g, o, c, h1, h2, h3, fun j hj => ?_⟩
    obtain ⟨ma, mn, mc, ca, cn, cc, h5, h6⟩ := h4 j hj
    have := all_at hs hj
    simp only [actSh, Bool.and_eq_true, decide_eq_true_eq] at this
    exact ⟨ma, mn, mc, ca, cn, cc, ⟨h5.mask, h5.cols, h5.path, by omega, h5.texts⟩, h6⟩

set_option maxHeartbeats 2000000 in
set_option maxRecDepth 100000 in
theorem short_any (tx : ByteArray) (rd : Bool) (acts : List Actn) (aa : Option Addr) (an ac : Nat) (w : World) (ha : ActsR w (.slice aa an ac) acts) (hn : acts.length ≤ maxLen) (htx : tx.size ≤ maxLen) :
    Calls Tryz.prog 5 #[.agg #[.string tx, .bool rd, .slice aa an ac]] w fun e w' => e = .returned (.bool (shortB (tx, rd, acts))) ∧ Below w.heap.size w w' := by
  have han := ha.len
  subst han
  unfold maxLen at hn htx
  have HB0 : Hid (Below w.heap.size w (w.alloc (.cells #[.string tx, .bool rd, .slice aa acts.length ac] 24))) := (Below.refl _ _).alloc (Nat.le_refl _) _
  have HX0 := mkH (heap_alloc_new w (.cells #[.string tx, .bool rd, .slice aa acts.length ac] 24))
  by_cases hok : tx.size ≤ 60 ∧ acts.length ≤ 12
  · obtain ⟨h1, h2⟩ := hok
    have h1z : ¬ (60 : Int) < (tx.size : Int) := by omega
    have h2z : ¬ (12 : Int) < (acts.length : Int) := by omega
    have HR : Hid (shortB (tx, rd, acts) = acts.all actSh) := by simp [Hid, shortB, h1, h2]
    have HN : Hid (∀ k, k < acts.length → actSh acts[k]! = false → false = acts.all actSh) := fun k hk hh => (all_no hk hh).symm
    have HY : Hid ((∀ k, k < acts.length → actSh acts[k]! = true) → true = acts.all actSh) := fun hh => (all_yes hh).symm
    have HA := mkH ha
    clear ha
    generalize shortB (tx, rd, acts) = res at HR ⊢
    go_enter Tryz.func5, Tryz.ntmps5
    go_wp2_with fail
    generalize w.alloc (.cells #[.string tx, .bool rd, .slice aa acts.length ac] 24) = wa at *
    have hs0 : w.heap.size < wa.heap.size := blk_lt HX0.out
    go_loopw [3] (fun vi wr => ∃ k : Nat, k ≤ acts.length ∧ vi = .int .i64 k ∧ Hid (Below wa.heap.size wa wr) ∧ Hid (∀ j, j < k → actSh acts[j]! = true)) (fun vi _ => acts.length - (intOf vi).toNat)
    case atStart => exact ⟨0, Nat.zero_le _, rfl, mkH (Below.refl _ _), mkH (fun j hj => absurd hj (Nat.not_lt_zero _))⟩
    case round =>
      obtain ⟨k, hk, rfl, BW, OK⟩ := hrel
      have HBW := mkH (Below.ups HB0.out BW.out)
      obtain ⟨_, _, x2, _⟩ := cells3 ((BW.out.block w.heap.size hs0).trans HX0.out)
      by_cases hlt : k < acts.length
      · have hltz : (k : Int) < (acts.length : Int) := by omega
        rcases HA.out.below HBW.out with ⟨_, e0⟩ | ⟨g, o, c, eg, hcap, hgl, hact⟩
        · rw [e0] at hlt; simp at hlt
        · injection eg with eg1 _ eg2
          subst eg1 eg2
          obtain ⟨ma, mn, mc, ca, cn, cc, hAt, hC6⟩ := hact k hlt
          obtain ⟨⟨y1, y2, y3, y4, y5, y6⟩, hy⟩ : ∃ y, acts[k]! = y := ⟨_, rfl⟩
          rw [hy] at hAt hC6
          obtain ⟨q0, q1, q2, q3, q4, q5⟩ := hC6
          simp only at q0 q1 q2 q3 q4 q5
          have hmn : mn = y4.length := hAt.mask.len.1
          have hz1 : y2.size ≤ 2 ^ 63 - 1 := hAt.path
          have hz2 : y4.length ≤ 2 ^ 63 - 1 := hAt.few
          subst hmn
          have HB6 : Hid (Below wr.heap.size wr (wr.alloc (.cells #[.int .i64 y1, .string y2, .int .i64 y3, .slice ma y4.length mc, .slice ca cn cc, .int .i64 y6] 62))) := mkH ((Below.refl _ _).alloc (Nat.le_refl _) _)
          have HCO : Hid (Calls Tryz.prog 19 #[.slice ca cn cc] (wr.alloc (.cells #[.int .i64 y1, .string y2, .int .i64 y3, .slice ma y4.length mc, .slice ca cn cc, .int .i64 y6] 62)) fun e w' => e = .returned (.bool (colsSh y5)) ∧ Below (wr.alloc (.cells #[.int .i64 y1, .string y2, .int .i64 y3, .slice ma y4.length mc, .slice ca cn cc, .int .i64 y6] 62)).heap.size (wr.alloc (.cells #[.int .i64 y1, .string y2, .int .i64 y3, .slice ma y4.length mc, .slice ca cn cc, .int .i64 y6] 62)) w') := mkH (columns_any ca cn cc y5 _ (hAt.cols.below HB6.out) hAt.few2 hAt.texts)
          have HNK := mkH (HN.out k hlt)
          have HAS : Hid (actSh acts[k]! = (decide (y2.size ≤ 60) && (decide (y4.length ≤ 70) && colsSh y5))) := mkH (by rw [hy]; rfl)
          have HNX : Hid (actSh acts[k]! = true → ∀ j, j < k + 1 → actSh acts[j]! = true) := mkH (fun hh j hj => by
            by_cases e : j = k
            · rw [e]; exact hh
            · exact OK.out j (by omega))
          clear hAt hact hy
          generalize actSh acts[k]! = ck at HNK HAS HNX
          generalize colsSh y5 = cb at HCO HAS
          rcases Nat.lt_or_ge 60 y2.size with g1 | g1
          · have g1z : (60 : Int) < (y2.size : Int) := by omega
            go_wp2
            all_goals
              go_ret
              exact ⟨ret_bool (by rw [HR.out]; exact HNK.out (by rw [HAS.out]; simp; omega)), Below.ups HBW.out HB6.out⟩
          · have g1z : ¬ (60 : Int) < (y2.size : Int) := by omega
            rcases Nat.lt_or_ge 70 y4.length with g2 | g2
            · have g2z : (70 : Int) < (y4.length : Int) := by omega
              go_wp2
              all_goals
                go_ret
                exact ⟨ret_bool (by rw [HR.out]; exact HNK.out (by rw [HAS.out]; simp; omega)), Below.ups HBW.out HB6.out⟩
            · have g2z : ¬ (70 : Int) < (y4.length : Int) := by omega
              cases cb with
              | false =>
                go_wp2_with (go_at_call 19; refine HCO.out.mono ?_; rintro e w7 ⟨rfl, hb7⟩)
                go_ret
                exact ⟨ret_bool (by rw [HR.out]; exact HNK.out (by rw [HAS.out]; simp)), Below.ups HBW.out (Below.ups HB6.out hb7)⟩
              | true =>
                go_wp2_with (go_at_call 19; refine HCO.out.mono ?_; rintro e w7 ⟨rfl, hb7⟩)
                go_roundw
                case rel => exact ⟨k + 1, by omega, by go_num, mkH (Below.ups BW.out (Below.ups HB6.out hb7)), mkH (HNX.out (by rw [HAS.out]; simp; omega))⟩
                case measure => simp [intOf]; omega
      · have hkl : k = acts.length := by omega
        subst hkl
        go_wp2
        go_ret
        exact ⟨ret_bool (by rw [HR.out]; exact HY.out OK.out), HBW.out⟩
  · have HR : Hid (shortB (tx, rd, acts) = false) := by simp [Hid, shortB]; omega
    generalize shortB (tx, rd, acts) = res at HR ⊢
    clear ha
    rcases Nat.lt_or_ge 60 tx.size with h1 | h1
    · have h1z : (60 : Int) < (tx.size : Int) := by omega
      go_enter Tryz.func5, Tryz.ntmps5
      go_wp2
      go_ret
      exact ⟨ret_bool HR.out.symm, HB0.out⟩
    · have h1z : ¬ (60 : Int) < (tx.size : Int) := by omega
      have h2z : (12 : Int) < (acts.length : Int) := by omega
      go_enter Tryz.func5, Tryz.ntmps5
      go_wp2
      go_ret
      exact ⟨ret_bool HR.out.symm, HB0.out⟩
end Go.Proofs.YtfppidnfomelpaaGreatDoor
