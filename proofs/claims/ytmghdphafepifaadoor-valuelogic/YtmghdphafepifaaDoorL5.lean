/- What the closures of millpondkeep.ValueLogic do, said of every call: get, rank, not; and right at two values. -/
import Derived.Test.YtmghdphafepifaaDoorL3
namespace Go.Proofs.YtmghdphafepifaaDoor
open Go.RowKit Go.Proofs

def isA (s : ByteArray) : Bool := s.toList == [97]
def gI (x y : Int) (s : ByteArray) : Int := if isA s then x else y
def gB (x y : ByteArray) (s : ByteArray) : ByteArray := if isA s then x else y

set_option maxHeartbeats 1000000 in
theorem get_any (ba bb : Nat) (ka na kb nb : Int) (ta tb : ByteArray) (s : ByteArray) (w : World) 
    (a0 : w.cell? ⟨ba, 0, none⟩ = some (.int .i64 ka)) (a1 : w.cell? ⟨ba, 1, none⟩ = some (.int .i64 na)) (a2 : w.cell? ⟨ba, 2, none⟩ = some (.string ta))
    (b0 : w.cell? ⟨bb, 0, none⟩ = some (.int .i64 kb)) (b1 : w.cell? ⟨bb, 1, none⟩ = some (.int .i64 nb)) (b2 : w.cell? ⟨bb, 2, none⟩ = some (.string tb)) :
    Calls Tryd.prog 13 #[.string s, .pointer (some ⟨ba, 0, none⟩), .pointer (some ⟨bb, 0, none⟩)] w fun e w' => e = .returned (.agg #[.int .i64 (gI ka kb s), .int .i64 (gI na nb s), .string (gB ta tb s)]) ∧ Below w.heap.size w w' := by
  have ha : ba < w.heap.size := block_lt_of_cell a0
  have hb : bb < w.heap.size := block_lt_of_cell b0
  have HQ : Hid (∀ b, isA s = b → gI ka kb s = (if b then ka else kb) ∧ gI na nb s = (if b then na else nb) ∧ gB ta tb s = (if b then ta else tb)) := fun b h => by simp [gI, gB, h]
  generalize gI ka kb s = kk at *
  generalize gI na nb s = nn at *
  generalize gB ta tb s = tt at *
  cases hA : isA s
  · obtain ⟨e1, e2, e3⟩ := HQ.out false hA
    simp at e1 e2 e3
    subst e1 e2 e3
    have hx : (s.toList == [97]) = false := hA
    clear hA HQ
    go_enter Tryd.func13, Tryd.ntmps13
    go_wp2
    exact bodyPost_ret (v := .agg #[.int .i64 kk, .int .i64 nn, .string tt]) (by simp [results, Tryd.results13, go_sem]) rfl ⟨rfl, (Below.refl _ _).alloc (Nat.le_refl _) _⟩
  · obtain ⟨e1, e2, e3⟩ := HQ.out true hA
    simp at e1 e2 e3
    subst e1 e2 e3
    have hx : (s.toList == [97]) = true := hA
    clear hA HQ
    go_enter Tryd.func13, Tryd.ntmps13
    go_wp2
    exact bodyPost_ret (v := .agg #[.int .i64 kk, .int .i64 nn, .string tt]) (by simp [results, Tryd.results13, go_sem]) rfl ⟨rfl, (Below.refl _ _).alloc (Nat.le_refl _) _⟩

set_option maxHeartbeats 1000000 in
theorem mkNot_any (p : Option Addr) (w : World) :
    Calls Tryd.prog 16 #[.pointer p] w fun e w' => e = .returned (.pointer (some ⟨w.heap.size, 0, none⟩)) ∧ w' = w.alloc (.cells #[.int .i64 11, .string ⟨#[]⟩, .int .i64 0, .int .i64 0, .string ⟨#[]⟩, .pointer p, .pointer none] 39) := by
  go_enter Tryd.func16, Tryd.ntmps16
  go_wp2
  go_ret
  exact ⟨rfl, rfl⟩

theorem ix0 (W : World) : (Instr.index 35 (.agg #[.int .i64 1, .int .i64 0, .int .i64 2]) (.int .i64 0)).run Tryd.prog W = .ok (.int .i64 1) W := by kernel_rfl
theorem ix1 (W : World) : (Instr.index 35 (.agg #[.int .i64 1, .int .i64 0, .int .i64 2]) (.int .i64 1)).run Tryd.prog W = .ok (.int .i64 0) W := by kernel_rfl
theorem ix2 (W : World) : (Instr.index 35 (.agg #[.int .i64 1, .int .i64 0, .int .i64 2]) (.int .i64 2)).run Tryd.prog W = .ok (.int .i64 2) W := by kernel_rfl
def rankI (h : Int) : Int := if h = -1 then 1 else if h = 0 then 0 else 2
set_option maxHeartbeats 1000000 in
theorem rank_any (bg : Nat) (pa pb : Value) (gk gn : ByteArray → Int) (gt : ByteArray → ByteArray) (T : CT) (v : Value) (w : World) (h : InC w T v) (hg : GetOk pa pb gk gn gt w) (hd : withinT T 24 = true)
    (hc : w.cell? ⟨bg, 0, none⟩ = some (.func (.func 13) #[] #[pa, pb])) :
    Calls Tryd.prog 14 #[v, .pointer (some ⟨bg, 0, none⟩)] w fun e w' => e = .returned (.int .i64 (rankI (evT gk gn gt T))) ∧ Below w.heap.size w w' := by
  have H1 := mkHid (Holds_any pa pb gk gn gt T v w h hg hd)
  have hr := evT_range gk gn gt T
  clear h hg hd
  generalize evT gk gn gt T = ee at *
  rcases (show ee = -1 ∨ ee = 0 ∨ ee = 1 by omega) with rfl | rfl | rfl
  all_goals
    clear hr
    have i0 := ix0; have i1 := ix1; have i2 := ix2
    go_enter Tryd.func14, Tryd.ntmps14
    go_wp2_with fail
    refine H1.out.mono ?_
    rintro e w1 ⟨rfl, hb1⟩
    go_wp2
    go_ret
    exact ⟨rfl, hb1⟩

def notT (T : CT) : CT := .node 0 0 ⟨11, ⟨#[]⟩, 0, 0, ⟨#[]⟩⟩ T .nil
def andT (T U : CT) : CT := .node 0 0 ⟨9, ⟨#[]⟩, 0, 0, ⟨#[]⟩⟩ T U
def orT (T U : CT) : CT := .node 0 0 ⟨10, ⟨#[]⟩, 0, 0, ⟨#[]⟩⟩ T U
theorem mkNot_tree (T : CT) (p : Option Addr) (w : World) (h : InC w T (.pointer p)) :
    Calls Tryd.prog 16 #[.pointer p] w fun e w' => ∃ q, e = .returned (.pointer q) ∧ InC w' (notT T) (.pointer q) ∧ Below w.heap.size w w' := by
  refine (mkNot_any p w).mono ?_
  rintro e w' ⟨rfl, rfl⟩
  have hb : Below w.heap.size w (w.alloc (.cells #[.int .i64 11, .string ⟨#[]⟩, .int .i64 0, .int .i64 0, .string ⟨#[]⟩, .pointer p, .pointer none] 39)) := (Below.refl _ _).alloc (Nat.le_refl _) _
  refine ⟨_, rfl, ?_, hb⟩
  unfold notT InC
  exact ⟨_, .pointer p, .pointer none, rfl, heap_alloc_new _ _, by omega, h.up hb, rfl⟩
theorem box_tree {w : World} {c : Int} {T U : CT} {p q : Option Addr} (hcd : 1 ≤ c ∧ c ≤ 11) (h1 : InC w T (.pointer p)) (h2 : InC w U (.pointer q)) :
    InC (w.alloc (.cells #[.int .i64 c, .string ⟨#[]⟩, .int .i64 0, .int .i64 0, .string ⟨#[]⟩, .pointer p, .pointer q] 39)) (.node 0 0 ⟨c, ⟨#[]⟩, 0, 0, ⟨#[]⟩⟩ T U) (.pointer (some ⟨w.heap.size, 0, none⟩)) := by
  have hb : Below w.heap.size w (w.alloc (.cells #[.int .i64 c, .string ⟨#[]⟩, .int .i64 0, .int .i64 0, .string ⟨#[]⟩, .pointer p, .pointer q] 39)) := (Below.refl _ _).alloc (Nat.le_refl _) _
  unfold InC
  exact ⟨_, .pointer p, .pointer q, rfl, heap_alloc_new _ _, hcd, h1.up hb, h2.up hb⟩

theorem rank_range (h : Int) : 0 ≤ rankI h ∧ rankI h ≤ 2 := by unfold rankI; split <;> (try split) <;> omega
theorem rank_not (gk gn : ByteArray → Int) (gt : ByteArray → ByteArray) (T : CT) : rankI (evT gk gn gt (notT T)) = 2 - rankI (evT gk gn gt T) := by
  have hr := evT_range gk gn gt T
  rw [notT, ← e11 rfl]
  generalize evT gk gn gt T = h at *
  rcases (show h = -1 ∨ h = 0 ∨ h = 1 by omega) with rfl | rfl | rfl <;> decide
theorem rank_and (gk gn : ByteArray → Int) (gt : ByteArray → ByteArray) (T U : CT) : rankI (evT gk gn gt (andT T U)) = min (rankI (evT gk gn gt T)) (rankI (evT gk gn gt U)) := by
  have hr := evT_range gk gn gt T
  have hr' := evT_range gk gn gt U
  rw [andT, ← e9 rfl]
  generalize evT gk gn gt T = h at *
  generalize evT gk gn gt U = h' at *
  rcases (show h = -1 ∨ h = 0 ∨ h = 1 by omega) with rfl | rfl | rfl <;> rcases (show h' = -1 ∨ h' = 0 ∨ h' = 1 by omega) with rfl | rfl | rfl <;> decide
theorem rank_or (gk gn : ByteArray → Int) (gt : ByteArray → ByteArray) (T U : CT) : rankI (evT gk gn gt (orT U T)) = max (rankI (evT gk gn gt T)) (rankI (evT gk gn gt U)) := by
  have hr := evT_range gk gn gt T
  have hr' := evT_range gk gn gt U
  rw [orT, ← e10 rfl]
  generalize evT gk gn gt T = h at *
  generalize evT gk gn gt U = h' at *
  rcases (show h = -1 ∨ h = 0 ∨ h = 1 by omega) with rfl | rfl | rfl <;> rcases (show h' = -1 ∨ h' = 0 ∨ h' = 1 by omega) with rfl | rfl | rfl <;> decide

/-- What rank tells, in every later world, of every tree that is not too deep. -/
def RK (pg : Value) (gk gn : ByteArray → Int) (gt : ByteArray → ByteArray) (w : World) : Prop :=
  ∀ W, Below w.heap.size w W → ∀ T v r, InC W T v → depthT T ≤ 25 → rankI (evT gk gn gt T) = r → Calls Tryd.prog 14 #[v, pg] W fun e w' => e = .returned (.int .i64 r) ∧ Below W.heap.size W w'
theorem rk_of (ba bb bg : Nat) (ka na kb nb : Int) (ta tb : ByteArray) (w : World)
    (a0 : w.cell? ⟨ba, 0, none⟩ = some (.int .i64 ka)) (a1 : w.cell? ⟨ba, 1, none⟩ = some (.int .i64 na)) (a2 : w.cell? ⟨ba, 2, none⟩ = some (.string ta))
    (b0 : w.cell? ⟨bb, 0, none⟩ = some (.int .i64 kb)) (b1 : w.cell? ⟨bb, 1, none⟩ = some (.int .i64 nb)) (b2 : w.cell? ⟨bb, 2, none⟩ = some (.string tb))
    (hc : w.cell? ⟨bg, 0, none⟩ = some (.func (.func 13) #[] #[.pointer (some ⟨ba, 0, none⟩), .pointer (some ⟨bb, 0, none⟩)])) : RK (.pointer (some ⟨bg, 0, none⟩)) (gI ka kb) (gI na nb) (gB ta tb) w := by
  have la : ba < w.heap.size := block_lt_of_cell a0
  have lb : bb < w.heap.size := block_lt_of_cell b0
  have lg : bg < w.heap.size := block_lt_of_cell hc
  have hg : GetOk (.pointer (some ⟨ba, 0, none⟩)) (.pointer (some ⟨bb, 0, none⟩)) (gI ka kb) (gI na nb) (gB ta tb) w := fun W s hb =>
    get_any ba bb ka na kb nb ta tb s W ((hb.cell (p := ⟨ba, 0, none⟩) la).trans a0) ((hb.cell (p := ⟨ba, 1, none⟩) la).trans a1) ((hb.cell (p := ⟨ba, 2, none⟩) la).trans a2)
      ((hb.cell (p := ⟨bb, 0, none⟩) lb).trans b0) ((hb.cell (p := ⟨bb, 1, none⟩) lb).trans b1) ((hb.cell (p := ⟨bb, 2, none⟩) lb).trans b2)
  intro W hb T v r hT hd hr
  subst hr
  exact rank_any bg _ _ _ _ _ T v W hT (hg.up hb) (withinT_of_depth T 24 (by omega)) ((hb.cell (p := ⟨bg, 0, none⟩) lg).trans hc)

def K2 (x y : Int) (j : Nat) : Int := if j = 0 then x else y
def T2 (x y : ByteArray) (j : Nat) : ByteArray := if j = 0 then x else y
def ok2 (ka na kb nb : Int) (ta tb : ByteArray) : Bool := okV ka na ta && okV kb nb tb
theorem right2_any (ka na kb nb : Int) (ta tb : ByteArray) (W : World) (hta : ta.size ≤ maxLen) (htb : tb.size ≤ maxLen) :
    Calls Tryd.prog 7 #[.slice (some ⟨W.heap.size, 0, none⟩) 2 2] (W.alloc (.cells #[.int .i64 ka, .int .i64 na, .string ta, .int .i64 kb, .int .i64 nb, .string tb] 23)) fun e w' => e = .returned (.bool (ok2 ka na kb nb ta tb)) ∧ Below (W.heap.size + 1) (W.alloc (.cells #[.int .i64 ka, .int .i64 na, .string ta, .int .i64 kb, .int .i64 nb, .string tb] 23)) w' := by
  refine (right_any W.heap.size 2 (K2 ka kb) (K2 na nb) (T2 ta tb) _ (by omega) ?_ ?_ ?_ ?_ (by simp)).mono ?_
  · intro j; unfold T2; split
    · exact hta
    · exact htb
  · intro j hj
    match j, hj with
    | 0, _ => rw [World.cell?_alloc_at _ _ _ _ rfl]; rfl
    | 1, _ => rw [World.cell?_alloc_at _ _ _ _ rfl]; rfl
  · intro j hj
    match j, hj with
    | 0, _ => rw [World.cell?_alloc_at _ _ _ _ rfl]; rfl
    | 1, _ => rw [World.cell?_alloc_at _ _ _ _ rfl]; rfl
  · intro j hj
    match j, hj with
    | 0, _ => rw [World.cell?_alloc_at _ _ _ _ rfl]; rfl
    | 1, _ => rw [World.cell?_alloc_at _ _ _ _ rfl]; rfl
  · rintro e w' ⟨rfl, hb⟩
    exact ⟨ret_bool (by simp [ok2, okAll, K2, T2]), by simpa using hb⟩
end Go.Proofs.YtmghdphafepifaaDoor
