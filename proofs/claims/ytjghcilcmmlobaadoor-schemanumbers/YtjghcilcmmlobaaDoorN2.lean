/- What More, Less and Rename make of columns that may be a table's, in the law's own words. -/
import Derived.Test.YtjghcilcmmlobaaDoorN1
namespace Go.Proofs.YtjghcilcmmlobaaDoor
open Go.RowKit Go.Proofs Go.Lib Go.Joins Go.Maps
open Go.Sort (grow)

/-- A change: what, the column (seven parts), the name, the other name. -/
abbrev Chg := Int × Int × ByteArray × Int × Bool × Int × Int × ByteArray × ByteArray × ByteArray
def encX (x : Chg) : List Value := [.int .i64 x.1, .int .i64 x.2.1, .string x.2.2.1, .int .i64 x.2.2.2.1, .bool x.2.2.2.2.1, .int .i64 x.2.2.2.2.2.1, .int .i64 x.2.2.2.2.2.2.1, .string x.2.2.2.2.2.2.2.1, .string x.2.2.2.2.2.2.2.2.1, .string x.2.2.2.2.2.2.2.2.2]

theorem map_made (w : World) (o : Obj) : ((w.alloc o).alloc (.map #[] 0)).ownsMap Tryd.prog 3 (plainElem (H := Unit) Tryd.prog 3) (w.heap.size + 1) 0 (.map []) := by
  have := World.ownsMap_made (w.alloc o) Tryd.prog 3 (plainElem (H := Unit) Tryd.prog 3)
  rwa [show (w.alloc o).heap.size = w.heap.size + 1 by simp] at this

/-- How it stands between two rounds. -/
def St (w wr : World) (B g c k : Nat) (l : List Col) (next : Int) : Prop :=
  Below w.heap.size w wr ∧ w.heap.size ≤ B ∧ SlC wr g 0 l ∧ l.length ≤ c ∧ g ≠ B ∧ RightP colB fitB l next ∧ 2 ≤ next ∧ next ≤ 2 + k ∧ KMap wr B (1 + 8 * k) l next l.length

theorem SlC.grown {w W : World} {g o B : Nat} {l : List Col} (h : SlC w g o l) (hg : w.grownBy W (some B)) (hne : g ≠ B) : SlC W g o l :=
  ⟨Nat.lt_of_lt_of_le h.1 hg.size, fun j hj i v hi => (hg.cell_far ⟨g, o + j * 7 + i, none⟩ h.1 (fun e => hne (by injection e))).trans (h.2 j hj i v hi)⟩

theorem st_start {w w1 w2 : World} (hb1 : Below w.heap.size w w1) (hown : w2.ownsMap Tryd.prog 3 (plainElem (H := Unit) Tryd.prog 3) (w1.heap.size + 1) (0 + 1) (DataW.put (.map []) (.int .i64 1) (.lit (.int .i64 1))))
    (hg : ((w1.alloc (.cells (encC cF).toArray 54)).alloc (.map #[] 0)).grownBy w2 (some (w1.heap.size + 1))) : St w w2 (w1.heap.size + 1) w1.heap.size 1 0 [cF] 2 := by
  have hz : (w1.alloc (.cells (encC cF).toArray 54)).heap.size = w1.heap.size + 1 := by simp
  have hba : Below w.heap.size w ((w1.alloc (.cells (encC cF).toArray 54)).alloc (.map #[] 0)) := (hb1.alloc hb1.size _).alloc (by rw [hz]; have := hb1.size; omega) _
  have hsl : SlC ((w1.alloc (.cells (encC cF).toArray 54)).alloc (.map #[] 0)) w1.heap.size 0 [cF] := (sl_one w1 cF).below ((Below.refl _ _).alloc (Nat.le_refl _) _)
  refine ⟨hba.grown hg hba.size (fun j hj => by cases hj; have := hb1.size; omega), by have := hb1.size; omega, hsl.grown hg (by omega), by simp, by omega, right_one mayF rfl, by omega, by omega, ?_⟩
  refine ⟨_, hown, fun j hj => ?_, fun j hj => ?_, fun x hx => ?_⟩
  · have : j = 0 := by simp at hj; exact hj
    subst this
    exact ⟨fun _ => atKey_put_same (k := .int .i64 1) isMap_empty (by exact trivial) _ _, fun hf => by
      have : Maps.has (DataW.put (.map [] : DataW Unit) (.int .i64 1) (.lit (.int .i64 1))) (.int .i64 1) = true := has_put_same (k := .int .i64 1) isMap_empty (by exact trivial) _
      exact absurd hf (by rw [show ([cF] : List Col)[0]!.1 = 1 from rfl, this]; simp)⟩
  · have : j = 0 := by simp at hj; exact hj
    subst this
    exact has_put_same (k := .int .i64 1) isMap_empty (by exact trivial) _
  · rw [has_put_other (key_ne (by omega))]
    rfl

/-- What a change comes to: other columns that may be a table's, or an error. -/
def Out (w4 wx : World) (B : Nat) (l : List Col) (next : Int) (s9 s10 s11 : Value) : Prop :=
  (∃ (g' c' : Nat) (l' : List Col) (next' : Int), s9 = .slice (some ⟨g', 0, none⟩) l'.length c' ∧ s10 = .int .i64 next' ∧ s11 = .nilIface ∧ g' ≠ B ∧ SlC wx g' 0 l' ∧ l'.length ≤ c' ∧ RightP colB fitB l' next' ∧ Trans l next l' next' ∧ next ≤ next' ∧ next' ≤ next + 1 ∧ Below w4.heap.size w4 wx)
  ∨ (∃ x, s11 = .iface 87 (.int .i64 x) ∧ Below w4.heap.size w4 wx)

theorem trans_refl (l : List Col) (next : Int) : Trans l next l next := .inl ⟨rfl, fun j hj => ⟨j, hj, rfl, rfl⟩⟩
theorem trans_more (l : List Col) (next : Int) (c : Col) (h : c.1 = next) : Trans l next (l ++ [c]) (next + 1) := .inr ⟨rfl, c, h, rfl⟩
theorem trans_less (l : List Col) (next : Int) (k : Nat) : Trans l next (l.take k ++ l.drop (k + 1)) next := .inl ⟨rfl, fun j hj => by
  have hm : (l.take k ++ l.drop (k + 1))[j]! ∈ l := by
    have := mem_of_lt hj
    rcases List.mem_append.1 this with h | h
    · exact List.mem_of_mem_take h
    · exact List.mem_of_mem_drop h
  obtain ⟨i, hi, e⟩ := List.getElem_of_mem hm
  exact ⟨i, hi, by rw [getElem!_pos l i hi, e], by rw [getElem!_pos l i hi, e]⟩⟩
theorem trans_ren (l : List Col) (next : Int) (k : Nat) (hk : k < l.length) (t : ByteArray) : Trans l next (l.set k (renC l[k]! t)) next := .inl ⟨rfl, fun j hj => by
  have hj' : j < l.length := by simpa using hj
  refine ⟨j, hj', ?_, ?_⟩
  · rw [getElem!_set hk]; split
    · rename_i e; subst e; rfl
    · rfl
  · rw [getElem!_set hk]; split
    · rename_i e; subst e; rfl
    · rfl⟩

/-- What More does to columns that may be a table's. -/
theorem more_out (B g c : Nat) (l : List Col) (next x1 : Int) (x2 : ByteArray) (x3 : Int) (x4 : Bool) (x5 x6 : Int) (x7 : ByteArray) (w : World) (h : SlC w g 0 l) (hr : RightP colB fitB l next) (hn1 : 2 ≤ next) (hn2 : next ≤ 1000) (h2 : x2.size ≤ 60) (h7 : x7.size ≤ 100) (hN : NcB w) (hB : B < w.heap.size) :
    Calls Tryd.prog 28 #[.slice (some ⟨g, 0, none⟩) l.length c, .int .i64 next, .agg #[.int .i64 x1, .string x2, .int .i64 x3, .bool x4, .int .i64 x5, .int .i64 x6, .string x7]] w fun e w' => ∃ s9 s10 s11, e = .returned (.tuple #[s9, s10, s11]) ∧ Hid (Out w w' B l next s9 s10 s11) := by
  by_cases hok : okMore l (next, x2, x3, x4, x5, x6, x7)
  · obtain ⟨o1, o2, o3, o4⟩ := hok
    refine (more_yes g c l next x1 x2 x3 x4 x5 x6 x7 w h o2 o1 o3 o4 (by omega) hn2 hN).mono ?_
    rintro e w' ⟨g', c', rfl, ho, hb⟩
    refine ⟨_, _, _, rfl, .inl ⟨g', c', l ++ [(next, x2, x3, x4, x5, x6, x7)], next + 1, by simp, rfl, rfl, ?_, SlC.of_own ho (by simp), by simpa using own_cap ho, ?_, trans_more _ _ _ rfl, by omega, by omega, hb⟩⟩
    · have := (ho.lt g' rfl).1; omega
    · refine right_more hr o2 ((mayB_iff _).1 o3) rfl ?_
      rcases find_cases l x2 with ⟨_, hn⟩ | ⟨j, _, hj, _⟩
      · exact hn
      · simp only at o1; omega
  · refine (more_no g c l next x1 x2 x3 x4 x5 x6 x7 w h hr.2.1 (by unfold maxLen; omega) (by unfold maxLen; omega) hok hN).mono ?_
    rintro e w' ⟨x, rfl, hb⟩
    exact ⟨_, _, _, rfl, .inr ⟨x, rfl, hb⟩⟩

/-- What Less does to columns that may be a table's. -/
theorem less_out (B g c : Nat) (l : List Col) (next : Int) (x8 : ByteArray) (w : World) (h : SlC w g 0 l) (hr : RightP colB fitB l next) (hc : l.length ≤ c) (hB : B < w.heap.size) :
    Calls Tryd.prog 29 #[.slice (some ⟨g, 0, none⟩) l.length c, .string x8] w fun e w' => ∃ s9 s11, e = .returned (.tuple #[s9, s11]) ∧ Hid (Out w w' B l next s9 (.int .i64 next) s11) := by
  rcases find_cases l x8 with ⟨hf, _⟩ | ⟨k, hk, hf, _⟩
  · refine (less_no g c l x8 w h (.inl hf) hr.2.1).mono ?_
    rintro e w' ⟨⟨x, rfl, _⟩, hb⟩
    exact ⟨_, _, rfl, .inr ⟨x, rfl, hb⟩⟩
  · by_cases h1 : l.length = 1
    · refine (less_no g c l x8 w h (.inr h1) hr.2.1).mono ?_
      rintro e w' ⟨⟨x, rfl, _⟩, hb⟩
      exact ⟨_, _, rfl, .inr ⟨x, rfl, hb⟩⟩
    · refine (less_yes g c l x8 k w h hf hk h1 hr.2.1 hc).mono ?_
      rintro e w' ⟨g', c', rfl, ho, hb⟩
      exact ⟨_, _, rfl, .inl ⟨g', c', _, next, rfl, rfl, rfl, by have := (ho.lt g' rfl).1; omega, SlC.of_own ho rfl, own_cap ho, right_less hr hk h1, trans_less _ _ _, by omega, by omega, hb⟩⟩

/-- A column that may be called otherwise: Rename, and Rename back. -/
theorem ren_out (B g c : Nat) (l : List Col) (next : Int) (x8 x9 : ByteArray) (k : Nat) (w : World) (h : SlC w g 0 l) (hr : RightP colB fitB l next) (hf : findC l x8 = k) (hk : k < l.length) (hc : colB x9 = true) (hft : findC l x9 = -1) (hN : NcB w) (hB : B < w.heap.size) :
    Calls Tryd.prog 30 #[.slice (some ⟨g, 0, none⟩) l.length c, .string x8, .string x9] w fun e w' => ∃ g' c', e = .returned (.tuple #[.slice (some ⟨g', 0, none⟩) l.length c', .nilIface]) ∧ Hid (SlC w' g' 0 (l.set k (renC l[k]! x9)) ∧ l.length ≤ c' ∧ g' ≠ B ∧ Below w.heap.size w w') := by
  refine (rename_yes g c l x8 x9 k w h hf hk hc hft hr.2.1 hN).mono ?_
  rintro e w' ⟨g', c', rfl, ho, hb⟩
  exact ⟨g', c', rfl, SlC.of_own ho (by simp), own_cap ho, by have := (ho.lt g' rfl).1; omega, hb⟩

theorem ren_back_out (g c : Nat) (l : List Col) (next : Int) (x8 x9 : ByteArray) (k : Nat) (w : World) (hr : RightP colB fitB l next) (hnm : l[k]!.2.1 = x8) (hk : k < l.length) (hc : colB x9 = true) (hft : findC l x9 = -1) (hN : NcB w) (h : SlC w g 0 (l.set k (renC l[k]! x9))) :
    Calls Tryd.prog 30 #[.slice (some ⟨g, 0, none⟩) l.length c, .string x9, .string x8] w fun e w' => ∃ g' c', e = .returned (.tuple #[.slice (some ⟨g', 0, none⟩) l.length c', .nilIface]) ∧ Hid (SlC w' g' 0 l ∧ Below w.heap.size w w') := by
  have hno : ∀ j, j < l.length → l[j]!.2.1 ≠ x9 := by
    rcases find_cases l x9 with ⟨_, hn⟩ | ⟨j, _, hj, _⟩
    · exact hn
    · omega
  have hne : x9 ≠ x8 := fun e => hno k hk (by rw [hnm, e])
  have hlen : (l.set k (renC l[k]! x9)).length = l.length := by simp
  have h8 : colB x8 = true := by rw [← hnm]; exact (hr.2.2.1 _ (mem_of_lt hk)).1.2.2.1
  have := rename_yes g c (l.set k (renC l[k]! x9)) x9 x8 k w h (find_ren_to hr hk hc hno) (by rw [hlen]; exact hk) h8 (find_ren_nm hr hk hnm hne) (by rw [hlen]; exact hr.2.1) hN
  rw [hlen, ren_back hk hnm] at this
  refine this.mono ?_
  rintro e w' ⟨g', c', rfl, ho, hb⟩
  exact ⟨g', c', rfl, SlC.of_own ho rfl, hb⟩
end Go.Proofs.YtjghcilcmmlobaaDoor
