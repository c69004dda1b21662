/- What log.changes, log.meet and log.Fights do, said of every call. -/
import Derived.Test.YtfppidnfomelpaaGreatDoorB4
import Derived.Maps.OwnSet
import Derived.Maps.OwnOps
import Derived.Maps.StringElems
import Derived.Maps.RangeWalk
import Derived.Maps.Ext
namespace Go.Proofs.YtfppidnfomelpaaGreatDoor
open Go.RowKit Go.Proofs Go.Lib Go.Joins Go.Maps

def cl (b : ByteArray) : ByteArray := if b.size ≤ maxLen then b else ⟨#[]⟩
theorem cl_small (b : ByteArray) : (cl b).size ≤ maxLen := by
  unfold cl
  split
  · assumption
  · decide
theorem cl_id {b : ByteArray} (h : b.size ≤ maxLen) : cl b = b := by simp [cl, h]
abbrev ActV := Actn × Sv × Sv
def encA (x : ActV) : List Value := [.int .i64 x.1.1, .string (cl x.1.2.1), .int .i64 x.1.2.2.1, sv x.2.1, sv x.2.2, .int .i64 x.1.2.2.2.2.2]
theorem encA_len (x : ActV) : (encA x).length = 6 := rfl
theorem ActsAt.list {w : World} {g o c : Nat} {l : List Actn} (h : ∀ j, j < l.length → ∃ ma mn mc ca cn cc, ActAt w l[j]! ma mn mc ca cn cc ∧ Cells6 w g (o + j * 6) l[j]! ma mn mc ca cn cc) :
    ∃ zs : List ActV, zs.map (·.1) = l ∧ ∀ j, j < zs.length → ∀ i v, (encA zs[j]!)[i]? = some v → w.cell? ⟨g, o + j * 6 + i, none⟩ = some v := by
  have _ := c
  have key : ∀ n, n ≤ l.length → ∃ zs : List ActV, zs.map (·.1) = l.take n ∧ ∀ j, j < zs.length → ∀ i v, (encA zs[j]!)[i]? = some v → w.cell? ⟨g, o + j * 6 + i, none⟩ = some v := by
    intro n
    induction n with
    | zero => intro _; exact ⟨[], rfl, fun j hj => absurd hj (Nat.not_lt_zero _)⟩
    | succ n ih =>
      intro hn
      obtain ⟨zs, h1, h2⟩ := ih (by omega)
      obtain ⟨ma, mn, mc, ca, cn, cc, h3, h4⟩ := h n (by omega)
      have hlen : zs.length = n := by have := congrArg List.length h1; simp at this; omega
      refine ⟨zs ++ [(l[n]!, (ma, mn, mc), (ca, cn, cc))], ?_, ?_⟩
      · rw [List.map_append, h1, take_next (by omega)]; rfl
      · intro j hj i v hv
        simp only [List.length_append, List.length_cons, List.length_nil] at hj
        by_cases e : j < zs.length
        · rw [show (zs ++ [(l[n]!, (ma, mn, mc), (ca, cn, cc))])[j]! = zs[j]! by simp [List.getElem!_eq_getElem?_getD, List.getElem?_append_left e]] at hv
          exact h2 j e i v hv
        · have ej : j = n := by omega
          subst ej
          rw [show (zs ++ [(l[j]!, (ma, mn, mc), (ca, cn, cc))])[j]! = (l[j]!, (ma, mn, mc), (ca, cn, cc)) by simp [List.getElem!_eq_getElem?_getD, hlen]] at hv
          obtain ⟨q0, q1, q2, q3, q4, q5⟩ := h4
          rw [← cl_id h3.path] at q1
          have : i = 0 ∨ i = 1 ∨ i = 2 ∨ i = 3 ∨ i = 4 ∨ i = 5 ∨ 6 ≤ i := by omega
          rcases this with rfl | rfl | rfl | rfl | rfl | rfl | hi
          · cases hv; exact q0
          · cases hv; exact q1
          · cases hv; exact q2
          · cases hv; exact q3
          · cases hv; exact q4
          · cases hv; exact q5
          · rw [List.getElem?_eq_none (by rw [encA_len]; exact hi)] at hv; cases hv
  obtain ⟨zs, h1, h2⟩ := key l.length (Nat.le_refl _)
  exact ⟨zs, by rw [h1, List.take_length], h2⟩

set_option maxHeartbeats 400000 in
theorem anyA_nil (a : Option Addr) (c : Nat) (fv : Value) (w : World) : Calls Tryz.prog 95 #[.slice a 0 c, fv] w fun e w' => e = .returned (.bool false) ∧ w' = w := by
  have H0 : Hid (Calls Tryz.prog 123 #[.slice a 0 c, fv] w fun e w' => e = .returned (.int .i64 (-1)) ∧ w' = w) := by
    go_enter Tryz.func123, Tryz.ntmps123
    go_wp2
    go_loopg [5, 8] 0 (fun _ _ s8 wr => s8 = .int .i64 0 ∧ wr = w)
    case atStart => exact ⟨rfl, rfl⟩
    case round =>
      obtain ⟨rfl, rfl⟩ := hrel
      go_wp2
      go_ret
      exact ⟨rfl, rfl⟩
  go_enter Tryz.func95, Tryz.ntmps95
  go_wp2_with (go_at_call 123; refine H0.out.mono ?_; rintro e w1 ⟨rfl, rfl⟩)
  go_ret
  exact ⟨rfl, rfl⟩

theorem anyA_any (a : Option Addr) (n c : Nat) (l : List Actn) (p : Actn → Bool) (g : Nat) (lb : Array Value) (w : World) (h : ActsAt w (.slice a n c) l) (hn : l.length ≤ 1000) (eg : ∀ args w, (callFunc g args).run Tryz.prog w = .ok (.enter g args) w)
    (hp : PredBelow Tryz.prog g lb (fun x : ActV => .agg (encA x).toArray) (fun x => p x.1) w) :
    Calls Tryz.prog 95 #[.slice a n c, .func (.func g) #[] lb] w fun e w' => e = .returned (.bool (l.any p)) ∧ Below w.heap.size w w' := by
  rcases h with ⟨⟨_, _, e⟩, e0⟩ | ⟨gg, o, c', e, hc, hgl, hact⟩
  · cases e; subst e0
    exact (anyA_nil _ _ _ w).mono fun _ _ ⟨he, hw⟩ => ⟨he, hw ▸ Below.refl _ _⟩
  · cases e
    obtain ⟨zs, h1, h2⟩ := ActsAt.list (c := c) hact
    have hl : zs.length = l.length := by have := congrArg List.length h1; simpa using this
    have := AnyQ.slices_ContainsFunc Tryz.layAnyA 6 Tryz.isAgg62 Tryz.sizeOf62 encA encA_len (fun x => p x.1) g lb eg gg o l.length c zs w hp (by omega) (by omega) hgl h2
    rw [← hl, List.take_length] at this
    have e2 : zs.any (fun x => p x.1) = l.any p := by rw [← h1, List.any_map]; rfl
    rw [e2, hl] at this
    exact this

set_option maxHeartbeats 400000 in
theorem changes1_any (w : World) : PredBelow Tryz.prog 96 #[] (fun x : ActV => .agg (encA x).toArray) (fun x => x.1.1 == 4) w := fun W x hb => by
  obtain ⟨⟨k, p, r, m, cc, nx⟩, ⟨ma, mn, mc⟩, ca, cn, ck⟩ := x
  show Calls Tryz.prog 96 #[.agg #[.int .i64 k, .string (cl p), .int .i64 r, .slice ma mn mc, .slice ca cn ck, .int .i64 nx]] W _
  generalize cl p = pp
  go_enter Tryz.func96, Tryz.ntmps96
  go_wp2
  all_goals (go_ret; exact ⟨rfl, hb.alloc hb.size _⟩)
def changesB (l : List Actn) : Bool := l.any (fun a => a.1 == 4)
set_option maxHeartbeats 400000 in
theorem changes_any (tx : ByteArray) (rd : Bool) (a : Option Addr) (n c : Nat) (l : List Actn) (w : World) (h : ActsAt w (.slice a n c) l) (hn : l.length ≤ 1000) :
    Calls Tryz.prog 63 #[.agg #[.string tx, .bool rd, .slice a n c]] w fun e w' => e = .returned (.bool (changesB l)) ∧ Below w.heap.size w w' := by
  have eg : ∀ args w, (callFunc 96 args).run Tryz.prog w = .ok (.enter 96 args) w := enters_of Tryz.func96 (by kernel_rfl) rfl
  have hb0 : Below w.heap.size w (w.alloc (.cells #[.string tx, .bool rd, .slice a n c] 24)) := (Below.refl _ _).alloc (Nat.le_refl _) _
  have HC := mkH (anyA_any a n c l (fun a => a.1 == 4) 96 #[] _ (h.below hb0) hn eg (changes1_any (w.alloc (.cells #[.string tx, .bool rd, .slice a n c] 24))))
  have HB := mkH hb0
  clear h hb0 eg
  generalize hr : l.any (fun a => a.1 == 4) = r at HC
  have HR : Hid (changesB l = r) := hr
  clear hr
  generalize changesB l = r2 at HR ⊢
  go_enter Tryz.func63, Tryz.ntmps63
  go_wp2_with (go_at_call 95; refine HC.out.mono ?_; rintro e w1 ⟨rfl, hb1⟩)
  go_ret
  exact ⟨ret_bool HR.out.symm, Below.ups HB.out hb1⟩

/-! meet -/
def lit (b : ByteArray) : Lit := .string b.data.toList
theorem lit_inj {a b : ByteArray} (h : lit a = lit b) : a = b := by
  unfold lit at h
  injection h with h
  cases a; cases b
  simp at h
  simp [h]
theorem litKey (b : ByteArray) : WideAt.IsKeyLit (lit b) := by unfold lit; simp [WideAt.IsKeyLit]
theorem law9 : Keyed Tryz.prog 9 := string_keyed Tryz.underlying9
theorem keyOf9 {b : ByteArray} (h : b.size ≤ maxLen) : keyOf Tryz.prog 9 (.string b) = some (lit b) := WideMaps.keyOf_string_mk Tryz.underlying9 h
def cnt (l : List Actn) (p : ByteArray) : Nat := (l.filter fun a => decide (a.2.1 = p)).length
theorem cnt_snoc (l : List Actn) (a : Actn) (p : ByteArray) : cnt (l ++ [a]) p = if a.2.1 = p then cnt l p + 1 else cnt l p := by
  simp only [cnt, List.filter_append, List.length_append]
  by_cases h : a.2.1 = p <;> simp [h]
theorem cnt_le (l : List Actn) (p : ByteArray) : cnt l p ≤ l.length := List.length_filter_le _ _
theorem cnt_zero {l : List Actn} {p : ByteArray} (h : cnt l p = 0) : ∀ a ∈ l, a.2.1 ≠ p := by
  intro a ha e
  have : a ∈ l.filter fun a => decide (a.2.1 = p) := List.mem_filter.2 ⟨ha, by simp [e]⟩
  have h2 := List.length_pos_of_mem this
  unfold cnt at h
  omega
theorem wf_small {c : Int} (h0 : 0 ≤ c) (h1 : c ≤ 2000) : (Lit.int .i64 c).wf = true := by
  simp only [Lit.wf, Bool.and_eq_true, decide_eq_true_eq]
  exact ⟨Int.le_trans (by decide : IntKind.i64.min ≤ 0) h0, Int.le_trans h1 (by decide)⟩
/-- How often each name was seen. -/
def Seen (W : World) (b n : Nat) (l : List Actn) : Prop := ∃ D : DataW Unit, W.ownsMap Tryz.prog 9 (plainElem Tryz.prog 3) b n D ∧ ∀ p, D.atKey (lit p) (.lit (.int .i64 0)) = .lit (.int .i64 (cnt l p))
def meetB (l o : List Actn) : Bool := o.any (fun a => decide (0 < (cnt l a.2.1 : Int)))
theorem Seen.below {w W : World} {b n : Nat} {l : List Actn} (h : Seen w b n l) (hb : Below w.heap.size w W) : Seen W b n l := by
  obtain ⟨D, h1, h2⟩ := h
  obtain ⟨es, clock, h3, h4⟩ := h1
  exact ⟨D, ⟨es, clock, (hb.block b (blk_lt h3)).trans h3, h4⟩, h2⟩
theorem Seen.lt {w : World} {b n : Nat} {l : List Actn} (h : Seen w b n l) : b < w.heap.size := by
  obtain ⟨D, h1, _⟩ := h
  exact h1.lt

set_option maxHeartbeats 1000000 in
theorem meet1_any (b n B : Nat) (l : List Actn) (w : World) (h : Seen w b n l) (hB : B < w.heap.size) (hc : w.cell? ⟨B, 0, none⟩ = some (.map (some b))) :
    PredBelow Tryz.prog 97 #[.pointer (some ⟨B, 0, none⟩)] (fun x : ActV => .agg (encA x).toArray) (fun x => decide (0 < (cnt l (cl x.1.2.1) : Int))) w := fun W x hb => by
  obtain ⟨⟨k, p, r, m, cc, nx⟩, ⟨ma, mn, mc⟩, ca, cn, ck⟩ := x
  show Calls Tryz.prog 97 #[.agg #[.int .i64 k, .string (cl p), .int .i64 r, .slice ma mn mc, .slice ca cn ck, .int .i64 nx], .pointer (some ⟨B, 0, none⟩)] W (fun e w' => e = .returned (.bool (decide (0 < (cnt l (cl p) : Int)))) ∧ Below w.heap.size w w')
  have hp := cl_small p
  generalize cl p = pp at *
  have hcW := (hb.cell (p := ⟨B, 0, none⟩) hB).trans hc
  have hne : B ≠ W.heap.size := by have := hb.size; omega
  have hcA : (W.alloc (.cells #[.int .i64 k, .string pp, .int .i64 r, .slice ma mn mc, .slice ca cn ck, .int .i64 nx] 62)).cell? ⟨B, 0, none⟩ = some (.map (some b)) := Lib.cell?_alloc_some _ hcW
  obtain ⟨D, hD, hat⟩ := (h.below hb).below ((Below.refl W.heap.size W).alloc (Nat.le_refl _) (.cells #[.int .i64 k, .string pp, .int .i64 r, .slice ma mn mc, .slice ca cn ck, .int .i64 nx] 62))
  have HAT := mkH (hat pp)
  have HD := mkH hD
  have HB := mkH hb
  clear hat hD h hb hcW
  go_enter Tryz.func97, Tryz.ntmps97
  go_wp2_with (at_lookup; refine wpList_lookup_own_int _ rfl _ _ 161 rfl 9 3 .i64 law9 Tryz.underlying161 Tryz.underlying3 (Tryz.zeroValue3 _) b n D rfl HD.out _ _ rfl (keyOf9 hp) ?_; intro c hcat hwc; have HCE : Hid (c = (cnt l pp : Int)) := mkH (by rw [HAT.out] at hcat; injection hcat with hcat; injection hcat with _ hcat; exact hcat.symm); clear hcat hwc)
  go_ret
  exact ⟨ret_bool (by rw [HCE.out]), HB.out.alloc HB.out.size _⟩

set_option maxHeartbeats 2000000 in
set_option maxRecDepth 100000 in
theorem meet_any (a1 : Option Addr) (n1 c1 : Nat) (l : List Actn) (a2 : Option Addr) (n2 c2 : Nat) (o : List Actn) (w : World) (h1 : ActsAt w (.slice a1 n1 c1) l) (h2 : ActsAt w (.slice a2 n2 c2) o) (hl : l.length ≤ 1000) (ho : o.length ≤ 1000) :
    Calls Tryz.prog 64 #[.slice a1 n1 c1, .slice a2 n2 c2] w fun e w' => e = .returned (.bool (meetB l o)) ∧ Below w.heap.size w w' := by
  have eg : ∀ args w, (callFunc 97 args).run Tryz.prog w = .ok (.enter 97 args) w := enters_of Tryz.func97 (by kernel_rfl) rfl
  have hn1 := h1.len
  subst hn1
  have H1 := mkH h1
  have H2 := mkH h2
  have HCA : Hid (∀ W, Below w.heap.size w W → Seen W w.heap.size 1000 l → W.cell? ⟨w.heap.size + 1, 0, none⟩ = some (.map (some w.heap.size)) → w.heap.size + 1 < W.heap.size → Calls Tryz.prog 95 #[.slice a2 n2 c2, .func (.func 97) #[] #[.pointer (some ⟨w.heap.size + 1, 0, none⟩)]] W fun e w' => e = .returned (.bool (meetB l o)) ∧ Below W.heap.size W w') := fun W hW hS hc hB => by
    have hp : PredBelow Tryz.prog 97 #[.pointer (some ⟨w.heap.size + 1, 0, none⟩)] (fun x : ActV => .agg (encA x).toArray) (fun x => (fun a : Actn => decide (0 < (cnt l (cl a.2.1) : Int))) x.1) W := meet1_any w.heap.size 1000 (w.heap.size + 1) l W hS hB hc
    have := anyA_any a2 n2 c2 o (fun a => decide (0 < (cnt l (cl a.2.1) : Int))) 97 _ W (h2.below hW) ho eg hp
    have e : o.any (fun a => decide (0 < (cnt l (cl a.2.1) : Int))) = meetB l o := by
      unfold meetB
      rw [Bool.eq_iff_iff]
      simp only [List.any_eq_true]
      rcases h2 with ⟨_, e0⟩ | ⟨gg, oo, c', _, _, _, hact⟩
      · subst e0; simp
      · constructor
        · rintro ⟨x, hx, hh⟩
          obtain ⟨j, hj, rfl⟩ := List.getElem_of_mem hx
          obtain ⟨_, _, _, _, _, _, h5, _⟩ := hact j hj
          have := h5.path
          rw [getElem!_pos o j hj] at this
          exact ⟨_, hx, by rw [cl_id this] at hh; exact hh⟩
        · rintro ⟨x, hx, hh⟩
          obtain ⟨j, hj, rfl⟩ := List.getElem_of_mem hx
          obtain ⟨_, _, _, _, _, _, h5, _⟩ := hact j hj
          have := h5.path
          rw [getElem!_pos o j hj] at this
          exact ⟨_, hx, by rw [cl_id this]; exact hh⟩
    rw [e] at this
    exact this
  clear h1 h2 eg
  have hmm := @run_makeMap Tryz.prog
  have HM0 : Hid (Seen (w.alloc (.map #[] 0)) w.heap.size 0 []) := ⟨.map [], World.ownsMap_made w _ _ _, fun p => rfl⟩
  generalize meetB l o = res at HCA ⊢
  go_enter Tryz.func64, Tryz.ntmps64
  go_wp2_with fail
  have HB0 : Hid (Below w.heap.size w ((w.alloc (.map #[] 0)).alloc (.cells #[.map (some w.heap.size)] 161))) := ((Below.refl _ _).alloc (Nat.le_refl _) _).alloc (by simp) _
  have HS0 : Hid (Seen ((w.alloc (.map #[] 0)).alloc (.cells #[.map (some w.heap.size)] 161)) w.heap.size 0 (l.take 0)) := mkH (HM0.out.below ((Below.refl _ _).alloc (Nat.le_refl _) _))
  have HC0 : Hid (((w.alloc (.map #[] 0)).alloc (.cells #[.map (some w.heap.size)] 161)).cell? ⟨w.heap.size + 1, 0, none⟩ = some (.map (some w.heap.size)) ∧ w.heap.size + 1 < ((w.alloc (.map #[] 0)).alloc (.cells #[.map (some w.heap.size)] 161)).heap.size) := mkH ⟨by rw [World.cell?_alloc_at _ _ _ _ (by simp)]; rfl, by simp⟩
  clear hmm HM0
  generalize (w.alloc (.map #[] 0)).alloc (.cells #[.map (some w.heap.size)] 161) = wa at *
  go_loopw [11] (fun vi wr => ∃ k : Nat, k ≤ l.length ∧ vi = .int .i64 k ∧ Hid (Seen wr w.heap.size k (l.take k)) ∧ Hid (wr.cell? ⟨w.heap.size + 1, 0, none⟩ = some (.map (some w.heap.size)) ∧ w.heap.size + 1 < wr.heap.size) ∧ Hid (Below w.heap.size w wr)) (fun vi _ => l.length - (intOf vi).toNat)
  case atStart => exact ⟨0, Nat.zero_le _, rfl, HS0, HC0, HB0⟩
  case round =>
    clear HS0 HC0 HB0
    obtain ⟨k, hk, rfl, SE, CE, BW⟩ := hrel
    by_cases hlt : k < l.length
    · have hltz : (k : Int) < (l.length : Int) := by omega
      rcases H1.out.below BW.out with ⟨_, e0⟩ | ⟨g, o', c, eg, hcap, hgl, hact⟩
      · rw [e0] at hlt; simp at hlt
      · injection eg with eg1 _ eg2
        subst eg1 eg2
        obtain ⟨ma, mn, mc, ca, cn, cc, hAt, hC6⟩ := hact k hlt
        have HCS : Hid (∀ p, cnt (l.take (k + 1)) p = if l[k]!.2.1 = p then cnt (l.take k) p + 1 else cnt (l.take k) p) := mkH (fun p => by rw [take_next hlt, cnt_snoc])
        obtain ⟨⟨x1, x2, x3, x4, x5, x6⟩, hx⟩ : ∃ x, l[k]! = x := ⟨_, rfl⟩
        rw [hx] at hAt hC6 HCS
        obtain ⟨q0, q1, q2, q3, q4, q5⟩ := hC6
        simp only at q0 q1 q2 q3 q4 q5
        have hp : x2.size ≤ maxLen := hAt.path
        obtain ⟨D, hD, hat⟩ := SE.out.below ((Below.refl wr.heap.size wr).alloc (Nat.le_refl _) (.cells #[.int .i64 x1, .string x2, .int .i64 x3, .slice ma mn mc, .slice ca cn cc, .int .i64 x6] 62))
        have HAT := mkH hat
        have HD := mkH hD
        have hcn := cnt_le (l.take k) x2
        have hcn2 : (cnt (l.take k) x2 : Int) ≤ 1000 := by
          have : (l.take k).length ≤ l.length := by simp; omega
          omega
        have hc0 := Lib.cell?_alloc_some (.cells #[.int .i64 x1, .string x2, .int .i64 x3, .slice ma mn mc, .slice ca cn cc, .int .i64 x6] 62) CE.out.1
        have HB6 : Hid (Below wr.heap.size wr (wr.alloc (.cells #[.int .i64 x1, .string x2, .int .i64 x3, .slice ma mn mc, .slice ca cn cc, .int .i64 x6] 62))) := mkH ((Below.refl _ _).alloc (Nat.le_refl _) _)
        have hne : w.heap.size + 1 ≠ wr.heap.size := by have := CE.out.2; omega
        clear hat hD hAt hact hx hcn
        generalize hcv : (cnt (l.take k) x2 : Int) = cv at hcn2
        have HCV := mkH hcv
        have hcv0 : 0 ≤ cv := by omega
        clear hcv
        go_wp2_with (first
          | (at_lookup; refine wpList_lookup_own_int _ rfl _ _ 161 rfl 9 3 .i64 law9 Tryz.underlying161 Tryz.underlying3 (Tryz.zeroValue3 _) w.heap.size k D rfl HD.out _ _ rfl (keyOf9 hp) ?_; intro c hcat hwc
             have hce : c = cv := by rw [HAT.out, HCV.out] at hcat; injection hcat with hcat; injection hcat with _ hcat; exact hcat.symm
             clear hcat hwc; subst hce)
          | (at_mapUpdate; refine wpList_mapUpdate_in _ rfl _ _ _ 161 rfl 9 3 law9 Tryz.underlying161 _ w.heap.size k D rfl HD.out (by unfold maxLen; omega) _ _ _ rfl rfl (keyOf9 hp) _ [] (plainElem_int Tryz.underlying3 (wf_small (by omega) (by omega))) ?_; intro w8 hown8 hturn8
             have HO8 := mkH hown8
             have HG8 := mkH hturn8.grown
             clear hown8 hturn8))
        go_roundw
        case rel =>
          have hsA := CE.out.2
          refine ⟨k + 1, by omega, by go_num, mkH ⟨_, HO8.out, fun p => ?_⟩, mkH ⟨(HG8.out.cell_far ⟨w.heap.size + 1, 0, none⟩ (by simp; omega) (by simp)).trans hc0, by have := HG8.out.size; simp at this; omega⟩, mkH ((Below.ups BW.out HB6.out).grown HG8.out (by simp; omega) (fun j hj => by cases hj; exact Nat.le_refl _))⟩
          by_cases e : x2 = p
          · subst e
            rw [atKey_put_same HD.out.isMap (litKey _), HCS.out, if_pos rfl]
            rw [Int.natCast_add, HCV.out]; rfl
          · rw [atKey_put_other (fun hh => e (lit_inj hh).symm), HCS.out, if_neg e]
            exact HAT.out p
        case measure => simp [intOf]; omega
    · have hkl : k = l.length := by omega
      subst hkl
      have HCB := mkH (HCA.out wr BW.out (by
        obtain ⟨D, h1, h2⟩ := SE.out
        rw [List.take_length] at h2
        exact ⟨D, h1.mono hl, h2⟩) CE.out.1 CE.out.2)
      go_wp2_with (go_at_call 95; refine HCB.out.mono ?_; rintro e w1 ⟨rfl, hb1⟩)
      go_ret
      exact ⟨rfl, Below.ups BW.out hb1⟩

/-! Fights -/
def fightsB (c o : Com) : Bool := changesB o.2.2 || (decide (0 < o.2.2.length) && (c.2.1 || changesB c.2.2) || meetB c.2.2 o.2.2)
theorem fightsB_no {c o : Com} (h : fightsB c o = false) : changesB o.2.2 = false ∧ ∀ a ∈ o.2.2, ∀ b ∈ c.2.2, b.2.1 ≠ a.2.1 := by
  simp only [fightsB, Bool.or_eq_false_iff] at h
  refine ⟨h.1, fun a ha b hb => ?_⟩
  have := h.2.2
  unfold meetB at this
  have := List.any_eq_false.1 this a ha
  simp at this
  exact cnt_zero (by omega) b hb
theorem changesB_no {l : List Actn} (h : changesB l = false) : ∀ a ∈ l, a.1 ≠ 4 := fun a ha => by
  have := List.any_eq_false.1 h a ha
  simpa using this

set_option maxHeartbeats 2000000 in
set_option maxRecDepth 100000 in
theorem fights_any (t1 : ByteArray) (r1 : Bool) (a1 : Option Addr) (n1 c1 : Nat) (l : List Actn) (t2 : ByteArray) (r2 : Bool) (a2 : Option Addr) (n2 c2 : Nat) (o : List Actn) (w : World) (h1 : ActsAt w (.slice a1 n1 c1) l) (h2 : ActsAt w (.slice a2 n2 c2) o) (hl : l.length ≤ 1000) (ho : o.length ≤ 1000) :
    Calls Tryz.prog 34 #[.agg #[.string t1, .bool r1, .slice a1 n1 c1], .agg #[.string t2, .bool r2, .slice a2 n2 c2]] w fun e w' => e = .returned (.bool (fightsB (t1, r1, l) (t2, r2, o))) ∧ Below w.heap.size w w' := by
  have hn2 := h2.len
  subst hn2
  obtain ⟨z0, z1, z2, z3⟩ := two_alloc w (.cells #[.string t1, .bool r1, .slice a1 n1 c1] 24) (.cells #[.string t2, .bool r2, .slice a2 o.length c2] 24)
  have HK : Hid (∀ W, Below (w.heap.size + 2) ((w.alloc (.cells #[.string t1, .bool r1, .slice a1 n1 c1] 24)).alloc (.cells #[.string t2, .bool r2, .slice a2 o.length c2] 24)) W → (W.cell? ⟨w.heap.size, 0, none⟩ = some (.string t1) ∧ W.cell? ⟨w.heap.size, 1, none⟩ = some (.bool r1) ∧ W.cell? ⟨w.heap.size, 2, none⟩ = some (.slice a1 n1 c1)) ∧ W.cell? ⟨w.heap.size + 1, 2, none⟩ = some (.slice a2 o.length c2) ∧ Below w.heap.size w W ∧ w.heap.size + 2 ≤ W.heap.size) := fun W hW => by
    have hs := hW.size
    rw [z0] at hs
    obtain ⟨y0, y1, y2, _⟩ := cells3 ((hW.block _ (by omega)).trans z1)
    obtain ⟨_, _, y3, _⟩ := cells3 ((hW.block _ (by omega)).trans z2)
    exact ⟨⟨y0, y1, y2⟩, y3, z3.trans (hW.mono (by omega)), hs⟩
  have HC1 : Hid (∀ W, Below w.heap.size w W → Calls Tryz.prog 63 #[.agg #[.string t1, .bool r1, .slice a1 n1 c1]] W fun e w' => e = .returned (.bool (changesB l)) ∧ Below W.heap.size W w') := fun W hW => changes_any t1 r1 a1 n1 c1 l W (h1.below hW) hl
  have HC2 : Hid (∀ W, Below w.heap.size w W → Calls Tryz.prog 63 #[.agg #[.string t2, .bool r2, .slice a2 o.length c2]] W fun e w' => e = .returned (.bool (changesB o)) ∧ Below W.heap.size W w') := fun W hW => changes_any t2 r2 a2 _ c2 o W (h2.below hW) ho
  have HME : Hid (∀ W, Below w.heap.size w W → Calls Tryz.prog 64 #[.slice a1 n1 c1, .slice a2 o.length c2] W fun e w' => e = .returned (.bool (meetB l o)) ∧ Below W.heap.size W w') := fun W hW => meet_any a1 n1 c1 l a2 _ c2 o W (h1.below hW) (h2.below hW) hl ho
  have HR : Hid (fightsB (t1, r1, l) (t2, r2, o) = (changesB o || (decide (0 < o.length) && (r1 || changesB l) || meetB l o))) := rfl
  have hon : (o.length : Int) ≤ 1000 := by omega
  clear h1 h2 z1 z2 hl ho
  generalize fightsB (t1, r1, l) (t2, r2, o) = res at HR ⊢
  generalize changesB o = b1 at HC2 HR
  generalize changesB l = b2 at HC1 HR
  generalize meetB l o = b3 at HME HR
  have HZ0 := mkH z0
  have HZ3 := mkH z3
  clear z0 z3
  by_cases h0 : 0 < o.length
  · have h0z : (0 : Int) < (o.length : Int) := by omega
    have HR' : Hid (res = (b1 || ((r1 || b2) || b3))) := mkH (by rw [HR.out]; simp [h0])
    clear HR
    cases b1 <;> cases r1 <;> cases b2
    all_goals
      go_enter Tryz.func34, Tryz.ntmps34
      go_wp2_with fail
      refine (HC2.out _ HZ3.out).mono ?_
      rintro e w1 ⟨rfl, hb1⟩
      obtain ⟨⟨x0, x1, x2⟩, x3, x4, x5⟩ := HK.out w1 (hb1.mono (by rw [HZ0.out]; omega))
      have HB1 := mkH (hb1.mono (show w.heap.size + 2 ≤ _ by rw [HZ0.out]; omega))
      have X4 := mkH x4
      clear hb1 x4
      go_wp2_with (first
        | (go_at_call 63; refine (HC1.out _ X4.out).mono ?_; rintro e w2 ⟨rfl, hb2⟩
           have HB2 := mkH (HB1.out.trans (hb2.mono x5))
           clear x0 x1 x2 x3
           obtain ⟨⟨x0, x1, x2⟩, x3, x4, x6⟩ := HK.out w2 HB2.out
           have X6 := mkH x4
           clear hb2 x4)
        | (go_at_call 64; refine (HME.out _ X6.out).mono ?_; rintro e w3 ⟨rfl, hb3⟩))
      go_ret
      first
        | exact ⟨ret_bool (by rw [HR'.out]; simp), Below.ups X6.out hb3⟩
        | exact ⟨ret_bool (by rw [HR'.out]; simp), X6.out⟩
        | exact ⟨ret_bool (by rw [HR'.out]; simp), X4.out⟩
  · have h0z : ¬ (0 : Int) < (o.length : Int) := by omega
    have HR' : Hid (res = (b1 || b3)) := mkH (by rw [HR.out]; simp [h0])
    clear HR
    cases b1
    all_goals
      go_enter Tryz.func34, Tryz.ntmps34
      go_wp2_with fail
      refine (HC2.out _ HZ3.out).mono ?_
      rintro e w1 ⟨rfl, hb1⟩
      obtain ⟨⟨x0, x1, x2⟩, x3, x4, x5⟩ := HK.out w1 (hb1.mono (by rw [HZ0.out]; omega))
      have X4 := mkH x4
      clear hb1 x4
      go_wp2_with (go_at_call 64; refine (HME.out _ X4.out).mono ?_; rintro e w3 ⟨rfl, hb3⟩)
      go_ret
      first
        | exact ⟨ret_bool (by rw [HR'.out]; simp), Below.ups X4.out hb3⟩
        | exact ⟨ret_bool (by rw [HR'.out]; simp), X4.out⟩
end Go.Proofs.YtfppidnfomelpaaGreatDoor
