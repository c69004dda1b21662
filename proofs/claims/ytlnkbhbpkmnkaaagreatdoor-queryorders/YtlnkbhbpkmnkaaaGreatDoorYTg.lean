/- What a reader's query does, said of every call that goes well: the walk. -/
import Derived.Test.YtlnkbhbpkmnkaaaGreatDoorYTc
import Derived.Deep.DeepCutAuto
import Derived.Deep.CutBlock
namespace Go.Proofs.YtlnkbhbpkmnkaaaGreatDoor
open Go.RowKit Go.Proofs Go.Lib Go.Joins Go.Proofs.YtlnkbhbpkmnkaaaGreatDoor.Ask

/-- A number of one digit, as it is written. -/
def dgL (n : Nat) : List UInt8 := [UInt8.ofNat (48 + n)]
def tN (n : Nat) : Tok := ⟨2, dgL n, 0⟩
theorem dg_num {n : Nat} (h : n ≤ 9) : numT (dgL n) = some (n : Int) := by
  have : n = 0 ∨ n = 1 ∨ n = 2 ∨ n = 3 ∨ n = 4 ∨ n = 5 ∨ n = 6 ∨ n = 7 ∨ n = 8 ∨ n = 9 := by omega
  rcases this with rfl | rfl | rfl | rfl | rfl | rfl | rfl | rfl | rfl | rfl <;> rfl
theorem number_yes (B n : Nat) (ts : List Tok) (w : World) (hr : Rd w B (tN n :: ts)) (hn : ts.length ≤ 900) (h9 : n ≤ 9) (hw : ErrB w) :
    Calls Tryz.prog 110 #[.pointer (some ⟨B, 0, none⟩)] w fun e w' => e = .returned (.int .i64 (n : Int)) ∧ Rd w' B ts ∧ Past B w w' :=
  (rnumber_any B (tN n :: ts) w hr (by simp; omega) (by simp [hdTok, tN, dgL]) hw).mono fun e w' hp => by
    obtain ⟨h0, ⟨m, _, h1, h2, h3⟩ | ⟨h1, _⟩⟩ := hp
    · have h1' : numT (dgL n) = some m := h1
      rw [dg_num h9] at h1'
      injection h1' with h1'
      subst h1'
      exact ⟨h2, h3, h0⟩
    · exact absurd ⟨rfl, by show (numT (dgL n)).isSome = true; rw [dg_num h9]; rfl⟩ h1
set_option maxHeartbeats 2000000 in
set_option maxRecDepth 100000 in
theorem upTo_any (B n : Nat) (most : Int) (ts : List Tok) (w : World) (hr : Rd w B (tN n :: ts)) (hn : ts.length ≤ 900) (h1 : 1 ≤ n) (h9 : n ≤ 9) (hm : (n : Int) ≤ most) (hm2 : most ≤ 1000000) (hw : GB w) :
    Calls Tryz.prog 73 #[.pointer (some ⟨B, 0, none⟩), .int .i64 most] w fun e w' => e = .returned (.int .i64 (n : Int)) ∧ Rd w' B ts ∧ Past B w w' := by
  have HK := mkH (token_rd B (tN n :: ts) w hr)
  have HN : Hid (∀ V, Below w.heap.size w V → Calls Tryz.prog 110 #[.pointer (some ⟨B, 0, none⟩)] V fun e w' => e = .returned (.int .i64 (n : Int)) ∧ Rd w' B ts ∧ Past B V w') := mkH (fun V hb => number_yes B n ts V (hr.up hb) hn h9 (hw.below hb).2)
  have HB := mkH hr.lt
  have g1 : ¬ (n : Int) < 1 := by omega
  have g2 : ¬ most < (n : Int) := by omega
  have g3 : IntKind.i64.wrap most = most := by rw [IntKind.wrap_i64]; omega
  have g4 : IntKind.i64.wrap (n : Int) = (n : Int) := by rw [IntKind.wrap_i64]; omega
  have hfl := fld2
  clear hr hw
  go_enter Tryz.func73, Tryz.ntmps73
  go_wp2_with fail
  refine HK.out.mono ?_
  rintro e w1 ⟨⟨p, rfl⟩, hb1⟩
  unfold tokV
  have HB1 := mkH hb1
  clear hb1
  go_wp2_with fail
  with_reducible refine (HN.out _ HB1.out).mono ?_
  rintro e w2 ⟨rfl, hr2, hp2⟩
  have HR2 := mkH hr2
  have HP2 := mkH (Past.in (Nat.le_of_lt HB.out) HB1.out hp2)
  clear hr2 hp2
  go_wp2
  go_ret
  exact ⟨rfl, HR2.out, HP2.out⟩
def wDesc : List UInt8 := [100, 101, 115, 99]
def orT (x : Nat × Bool) : List Tok := tN (x.1 + 1) :: if x.2 then [tW wDesc] else []
/-- An order's item lies in a box. -/
def OAt (w : World) (g : Nat) (n : Int) (b : Bool) : Prop := w.heap[g]? = some (.cells #[.int .i64 n, .bool b] 128)
theorem OAt.past {B g : Nat} {w W : World} {n : Int} {b : Bool} (h : OAt w g n b) (hp : Past B w W) (hn : g ≠ B) : OAt W g n b := (hp.keep g (blk_lt h) hn).trans h
theorem Rd.put2o {W : World} {B R : Nat} {ts : List Tok} {n : Int} {x : Bool} (h : Rd W B ts) (hk : OAt W R n x) (hn : R ≠ B) (a b : Value) : Rd ((W.setCell ⟨R, 0, none⟩ a).setCell ⟨R, 1, none⟩ b) B ts :=
  (h.setR hk (by decide) hn 0 a).setR (heap_setR hk 0 a) (by decide) hn 1 b
set_option maxHeartbeats 2000000 in
set_option maxRecDepth 100000 in
theorem order_any (B : Nat) (x : Nat × Bool) (items : Int) (ts : List Tok) (w : World) (hr : Rd w B (orT x ++ ts)) (hn : ts.length ≤ 890) (h9 : x.1 < 9) (hm : (x.1 : Int) < items) (hm2 : items ≤ 1000000) (hd : isT 1 wDesc (hdTok ts) = false) (hw : GB w) :
    Calls Tryz.prog 72 #[.pointer (some ⟨B, 0, none⟩), .int .i64 items] w fun e w' => e = .returned (.agg #[.int .i64 (x.1 : Int), .bool x.2]) ∧ Rd w' B ts ∧ Past B w w' := by
  have HB := mkH hr.lt
  have hb0 : ∀ o, Below w.heap.size w (w.alloc o) := fun o => (Below.refl _ _).alloc (Nat.le_refl _) _
  obtain ⟨n, d⟩ := x
  simp only at h9 hm
  have HU := mkH (fun o => upTo_any B (n + 1) items ((if d then [tW wDesc] else []) ++ ts) (w.alloc o) (hr.alloc o) (by cases d <;> simp <;> omega) (by omega) (by omega) (by omega) hm2 (hw.below (hb0 o)))
  have HT : Hid (TkL B 1 ⟨#[100, 101, 115, 99]⟩ d ((if d then [tW wDesc] else []) ++ ts) ts) := mkH (by
    cases d with
    | true => exact TkL.yes B 1 wDesc _ (tW wDesc) ts rfl (by omega) (isT_w _)
    | false => exact TkL.no B 1 wDesc _ ts rfl (by omega) hd)
  have HP0 : Hid (∀ o W, Past B (w.alloc o) W → Past B w W) := mkH (fun o W hp => Past.in (Nat.le_of_lt hr.lt) (hb0 o) hp)
  have HI0 : Hid (OAt (w.alloc (.cells #[.int .i64 0, .bool false] 128)) w.heap.size 0 false) := mkH (heap_alloc_new _ _)
  have g1 : IntKind.i64.wrap (((n + 1 : Nat) : Int) - 1) = (n : Int) := by rw [IntKind.wrap_i64]; omega
  clear hr hw hb0
  obtain ⟨m, hm1⟩ : ∃ m : Int, ((n + 1 : Nat) : Int) = m := ⟨_, rfl⟩
  rw [hm1] at HU g1
  clear hm1
  go_enter Tryz.func72, Tryz.ntmps72
  go_wp2_with fail
  with_reducible refine (HU.out _).mono ?_
  rintro e w1 ⟨rfl, hr1, hp1⟩
  have hbn : w.heap.size ≠ B := by have := HB.out; omega
  have HR1 := mkH hr1
  have HP1 := mkH (HP0.out _ _ hp1)
  have HI1 := mkH (HI0.out.past hp1 hbn)
  clear hr1 hp1 HU
  go_wp2_with fail
  with_reducible refine (HT.out _ HR1.out).mono ?_
  rintro e w3 ⟨rfl, hr3, hp3⟩
  have hi3 := HI1.out.past hp3 hbn
  have HR3 := mkH hr3
  have HP3 := mkH (HP1.out.trans hp3)
  have HI3 := mkH hi3
  have c0 : w3.cell? ⟨w.heap.size, 0, none⟩ = some (.int .i64 0) := cell_of_block hi3 0
  have c1 : w3.cell? ⟨w.heap.size, 1, none⟩ = some (.bool false) := cell_of_block hi3 1
  have f0 : w3.frozen? ⟨w.heap.size, 0, none⟩ = false := unfrozen_of_block hi3 0
  have f1 : w3.frozen? ⟨w.heap.size, 1, none⟩ = false := unfrozen_of_block hi3 1
  clear hr3 hp3 hi3 HT HR1 HP1 HI1
  go_wp2
  refine bodyPost_ret (v := .agg #[.int .i64 (n : Int), .bool d]) ?_ rfl ?_
  · simp [results, Tryz.results72, go_sem, c0, c1]
  · exact ⟨rfl, HR3.out.put2o HI3.out hbn _ _, (HP3.out.put HB.out (Nat.le_refl _) _ _).put HB.out (Nat.le_refl _) _ _⟩
end Go.Proofs.YtlnkbhbpkmnkaaaGreatDoor
namespace Go.Proofs.YtlnkbhbpkmnkaaaGreatDoor
open Go.RowKit Go.Proofs Go.Lib Go.Joins Go.Proofs.YtlnkbhbpkmnkaaaGreatDoor.Ask

set_option maxHeartbeats 2000000 in
set_option maxRecDepth 100000 in
theorem several_name (B : Nat) (nm : List UInt8) (ts : List Tok) (w : World) (hr : Rd w B (tW nm :: ts)) (hn : ts.length ≤ 200) (h : nmL nm = true) (hl : nm.length ≤ 1000) (hnk : isT 4 [44] (hdTok ts) = false) (hw : GB w) :
    Calls Tryz.prog 68 #[.pointer (some ⟨B, 0, none⟩), .func (.func 69) #[.pointer (some ⟨B, 0, none⟩)] #[]] w fun e w' => ∃ g, e = .returned (.slice (some ⟨g, 0, none⟩) 1 1) ∧ w.heap.size ≤ g ∧ w'.heap[g]? = some (.cells #[.string (bA nm)] 9) ∧ Rd w' B ts ∧ Past B w w' := by
  have HB := mkH hr.lt
  have HN := mkH (name_yes B nm ts w hr (by omega) h hl hw.1)
  have HT : Hid (TkL B 4 ⟨#[44]⟩ false ts ts) := mkH (TkL.no B 4 [44] _ ts rfl (by omega) hnk)
  clear hr h hl hw
  go_enter Tryz.func68, Tryz.ntmps68
  go_wp2_with fail
  with_reducible refine HN.out.mono ?_
  rintro e w1 ⟨rfl, hr1, hp1⟩
  have HR1 := mkH (hr1.alloc (.cells #[.string (bA nm)] 9))
  have HP1 := mkH (hp1.trans (Past.of (W := w1.alloc (.cells #[.string (bA nm)] 9)) (by have := hp1.low.size; have := HB.out; omega) ((Below.refl _ _).alloc (Nat.le_refl _) _)))
  have HK1 := mkH (heap_alloc_new w1 (.cells #[.string (bA nm)] 9))
  have hs1 : w.heap.size ≤ w1.heap.size := hp1.low.size
  clear hr1 hp1 HN
  go_wp2_with fail
  go_loopw [5] (fun vl wr => vl = .slice (some ⟨w1.heap.size, 0, none⟩) 1 1 ∧ wr = w1.alloc (.cells #[.string (bA nm)] 9)) (fun _ _ => 0)
  case atStart => exact ⟨rfl, rfl⟩
  case round =>
    obtain ⟨rfl, rfl⟩ := hrel
    go_wp2_with fail
    with_reducible refine (HT.out _ HR1.out).mono ?_
    rintro e w2 ⟨rfl, hr2, hp2⟩
    have HR2 := mkH hr2
    have HP2 := mkH hp2
    clear hr2 hp2 HT
    have hB := HB.out
    go_wp2
    go_ret
    exact ⟨_, rfl, hs1, (HP2.out.keep _ (by simp) (by omega)).trans HK1.out, HR2.out, HP1.out.trans HP2.out⟩
/-- A reader's place lies in a box. -/
def RBox (w : World) (g B : Nat) : Prop := w.heap[g]? = some (.cells #[.pointer (some ⟨B, 0, none⟩)] 77)
theorem RBox.past {B g : Nat} {w W : World} (h : RBox w g B) (hp : Past B w W) (hn : g ≠ B) : RBox W g B := (hp.keep g (blk_lt h) hn).trans h
/-- What is asked, as it lies in a box. -/
def QBox (w : World) (g : Nat) (a b c : Value) (n : Int) : Prop := w.heap[g]? = some (.cells #[a, .pointer none, b, c, .int .i64 n] 49)
theorem QBox.past {B g : Nat} {w W : World} {a b c : Value} {n : Int} (h : QBox w g a b c n) (hp : Past B w W) (hn : g ≠ B) : QBox W g a b c n := (hp.keep g (blk_lt h) hn).trans h
set_option maxHeartbeats 2000000 in
set_option maxRecDepth 100000 in
theorem query1_any (B rb qb : Nat) (b c : Value) (m n : Nat) (ad : Option Addr) (cp : Nat) (x : Nat × Bool) (ts : List Tok) (w : World) (hr : Rd w B (orT x ++ ts)) (hn : ts.length ≤ 890) (h9 : x.1 < 9) (hm : x.1 < m) (hm2 : m ≤ 1000) (hd : isT 1 wDesc (hdTok ts) = false) (hw : GB w) (hrb : RBox w rb B) (hqb : QBox w qb (.slice ad m cp) b c n) :
    Calls Tryz.prog 71 #[.pointer (some ⟨rb, 0, none⟩), .pointer (some ⟨qb, 0, none⟩)] w fun e w' => e = .returned (.agg #[.int .i64 (x.1 : Int), .bool x.2]) ∧ Rd w' B ts ∧ Past B w w' := by
  have HB := mkH hr.lt
  have hb0 : ∀ o, Below w.heap.size w (w.alloc o) := fun o => (Below.refl _ _).alloc (Nat.le_refl _) _
  have HO := mkH (fun o => order_any B x (m : Int) ts (w.alloc o) (hr.alloc o) hn h9 (by omega) (by omega) hd (hw.below (hb0 o)))
  have HP0 : Hid (∀ o W, Past B (w.alloc o) W → Past B w W) := mkH (fun o W hp => Past.in (Nat.le_of_lt hr.lt) (hb0 o) hp)
  have c0 : ∀ o, (w.alloc o).cell? ⟨rb, 0, none⟩ = some (.pointer (some ⟨B, 0, none⟩)) := fun o => ((hb0 o).cell (p := ⟨rb, 0, none⟩) (blk_lt hrb)).trans (cell_of_block hrb 0)
  have c1 : ∀ o, (w.alloc o).cell? ⟨qb, 0, none⟩ = some (.slice ad m cp) := fun o => ((hb0 o).cell (p := ⟨qb, 0, none⟩) (blk_lt hqb)).trans (cell_of_block hqb 0)
  have HI0 : Hid (OAt (w.alloc (.cells #[.int .i64 0, .bool false] 128)) w.heap.size 0 false) := mkH (heap_alloc_new _ _)
  obtain ⟨k, d⟩ := x
  clear hr hw hb0 hrb hqb h9 hm hd
  go_enter Tryz.func71, Tryz.ntmps71
  go_wp2_with fail
  with_reducible refine (HO.out _).mono ?_
  rintro e w1 ⟨rfl, hr1, hp1⟩
  have hbn : w.heap.size ≠ B := by have := HB.out; omega
  have hi3 := HI0.out.past hp1 hbn
  have HR3 := mkH hr1
  have HP3 := mkH (HP0.out _ _ hp1)
  have HI3 := mkH hi3
  have d0 : w1.cell? ⟨w.heap.size, 0, none⟩ = some (.int .i64 0) := cell_of_block hi3 0
  have d1 : w1.cell? ⟨w.heap.size, 1, none⟩ = some (.bool false) := cell_of_block hi3 1
  have f0 : w1.frozen? ⟨w.heap.size, 0, none⟩ = false := unfrozen_of_block hi3 0
  have f1 : w1.frozen? ⟨w.heap.size, 1, none⟩ = false := unfrozen_of_block hi3 1
  clear hr1 hp1 hi3 HO c0 c1
  go_wp2
  refine bodyPost_ret (v := .agg #[.int .i64 (k : Int), .bool d]) ?_ rfl ?_
  · simp [results, Tryz.results71, go_sem, d0, d1]
  · exact ⟨rfl, HR3.out.put2o HI3.out hbn _ _, (HP3.out.put HB.out (Nat.le_refl _) _ _).put HB.out (Nat.le_refl _) _ _⟩
set_option maxHeartbeats 2000000 in
set_option maxRecDepth 100000 in
theorem several_order (B rb qb : Nat) (b c : Value) (m n : Nat) (ad : Option Addr) (cp : Nat) (x : Nat × Bool) (ts : List Tok) (w : World) (hr : Rd w B (orT x ++ ts)) (hn : ts.length ≤ 200) (h9 : x.1 < 9) (hm : x.1 < m) (hm2 : m ≤ 1000) (hd : isT 1 wDesc (hdTok ts) = false) (hnk : isT 4 [44] (hdTok ts) = false) (hw : GB w) (hrb : RBox w rb B) (hqb : QBox w qb (.slice ad m cp) b c n) :
    Calls Tryz.prog 70 #[.pointer (some ⟨B, 0, none⟩), .func (.func 71) #[] #[.pointer (some ⟨rb, 0, none⟩), .pointer (some ⟨qb, 0, none⟩)]] w fun e w' => ∃ g, e = .returned (.slice (some ⟨g, 0, none⟩) 1 1) ∧ w.heap.size ≤ g ∧ w'.heap[g]? = some (.cells #[.int .i64 (x.1 : Int), .bool x.2] 128) ∧ Rd w' B ts ∧ Past B w w' := by
  have HB := mkH hr.lt
  have HN := mkH (query1_any B rb qb b c m n ad cp x ts w hr (by omega) h9 hm hm2 hd hw hrb hqb)
  have HT : Hid (TkL B 4 ⟨#[44]⟩ false ts ts) := mkH (TkL.no B 4 [44] _ ts rfl (by omega) hnk)
  obtain ⟨k, d⟩ := x
  simp only at HN
  clear hr hw hrb hqb h9 hm hd
  go_enter Tryz.func70, Tryz.ntmps70
  go_wp2_with fail
  with_reducible refine HN.out.mono ?_
  rintro e w1 ⟨rfl, hr1, hp1⟩
  have HR1 := mkH (hr1.alloc (.cells #[.int .i64 (k : Int), .bool d] 128))
  have HP1 := mkH (hp1.trans (Past.of (W := w1.alloc (.cells #[.int .i64 (k : Int), .bool d] 128)) (by have := hp1.low.size; have := HB.out; omega) ((Below.refl _ _).alloc (Nat.le_refl _) _)))
  have HK1 := mkH (heap_alloc_new w1 (.cells #[.int .i64 (k : Int), .bool d] 128))
  have hs1 : w.heap.size ≤ w1.heap.size := hp1.low.size
  clear hr1 hp1 HN
  go_wp2_with fail
  go_loopw [5] (fun vl wr => vl = .slice (some ⟨w1.heap.size, 0, none⟩) 1 1 ∧ wr = w1.alloc (.cells #[.int .i64 (k : Int), .bool d] 128)) (fun _ _ => 0)
  case atStart => exact ⟨rfl, rfl⟩
  case round =>
    obtain ⟨rfl, rfl⟩ := hrel
    go_wp2_with fail
    with_reducible refine (HT.out _ HR1.out).mono ?_
    rintro e w2 ⟨rfl, hr2, hp2⟩
    have HR2 := mkH hr2
    have HP2 := mkH hp2
    clear hr2 hp2 HT
    have hB := HB.out
    go_wp2
    go_ret
    exact ⟨_, rfl, hs1, (HP2.out.keep _ (by simp) (by omega)).trans HK1.out, HR2.out, HP1.out.trans HP2.out⟩
end Go.Proofs.YtlnkbhbpkmnkaaaGreatDoor
namespace Go.Proofs.YtlnkbhbpkmnkaaaGreatDoor
open Go.RowKit Go.Proofs Go.Lib Go.Joins Go.Proofs.YtlnkbhbpkmnkaaaGreatDoor.Ask

/-- What is asked. -/
structure QQ where
  x : It
  l : List It
  byn : Option (List UInt8)
  ord : Option (Nat × Bool)
  lim : Option Nat
def wSel : List UInt8 := [115, 101, 108, 101, 99, 116]
def wWhere : List UInt8 := [119, 104, 101, 114, 101]
def wBy : List UInt8 := [98, 121]
def wOrd : List UInt8 := [111, 114, 100, 101, 114]
def wLim : List UInt8 := [108, 105, 109, 105, 116]
def byT : Option (List UInt8) → List Tok
  | none => []
  | some n => [tW wBy, tW n]
def ordT : Option (Nat × Bool) → List Tok
  | none => []
  | some x => tW wOrd :: orT x
def limT : Option Nat → List Tok
  | none => []
  | some n => [tW wLim, tN n]
def qT (q : QQ) : List Tok := tW wSel :: (itT q.x ++ (comT q.l ++ (byT q.byn ++ (ordT q.ord ++ limT q.lim))))
structure QOk (q : QQ) : Prop where
  its : ∀ y ∈ q.x :: q.l, ItOk y
  few : q.l.length ≤ 40
  byn : ∀ n, q.byn = some n → nmL n = true ∧ n.length ≤ 1000
  ord : ∀ x, q.ord = some x → x.1 < 9 ∧ x.1 < q.l.length + 1
  lim : ∀ n, q.lim = some n → 1 ≤ n ∧ n ≤ 9
def BysAt (W : World) (qb : Nat) (bv : Value) : Option (List UInt8) → Prop
  | none => bv = .slice none 0 0
  | some n => ∃ g, bv = .slice (some ⟨g, 0, none⟩) 1 1 ∧ qb < g ∧ W.heap[g]? = some (.cells #[.string (bA n)] 9)
def OrdsAt (W : World) (qb : Nat) (ov : Value) : Option (Nat × Bool) → Prop
  | none => ov = .slice none 0 0
  | some x => ∃ g, ov = .slice (some ⟨g, 0, none⟩) 1 1 ∧ qb < g ∧ W.heap[g]? = some (.cells #[.int .i64 (x.1 : Int), .bool x.2] 128)
theorem own_set {w : World} {base b i : Nat} {e : TypeId} {z n : Nat} {v u : Value} {xs : List Value} (h : w.ownsRow base e z v n xs) (hb : b < base) : (w.setCell ⟨b, i, none⟩ u).ownsRow base e z v n xs := by
  refine ⟨h.1, ?_⟩
  rcases h.2 with h | ⟨g, c, cur, hv, hb', hg, hr⟩
  · exact .inl h
  · exact .inr ⟨g, c, cur, hv, hb', (Below.heap_setCell w ⟨b, i, none⟩ u g (by show ¬ g = b; omega)).trans hg, hr⟩
/-- Where the reading of what is asked stands. -/
structure QSt (w : World) (B : Nat) (q : QQ) (iv bv ov : Value) (k : Nat) (n : Int) (W : World) : Prop where
  lt : B < w.heap.size
  past : Past B w W
  r : RBox W w.heap.size B
  z : QBox W (w.heap.size + 1) (.slice none 0 0) (.slice none 0 0) (.slice none 0 0) 0
  b : QBox W (w.heap.size + 1 + 1) iv bv ov n
  its : k = 0 ∨ ∃ base, w.heap.size + 1 + 1 < base ∧ W.ownsRow base 120 2 iv (q.l.length + 1) (((q.x :: q.l).map itB).flatMap encI)
  bys : k < 2 ∨ BysAt W (w.heap.size + 1 + 1) bv q.byn
  ords : k < 3 ∨ OrdsAt W (w.heap.size + 1 + 1) ov q.ord
theorem BysAt.keep {W V : World} {qb : Nat} {bv : Value} {o : Option (List UInt8)} (h : BysAt W qb bv o) (hk : ∀ g, qb < g → g < W.heap.size → V.heap[g]? = W.heap[g]?) : BysAt V qb bv o := by
  cases o with
  | none => exact h
  | some n =>
    obtain ⟨g, e, hg, hh⟩ := h
    exact ⟨g, e, hg, (hk g hg (blk_lt hh)).trans hh⟩
theorem OrdsAt.keep {W V : World} {qb : Nat} {bv : Value} {o : Option (Nat × Bool)} (h : OrdsAt W qb bv o) (hk : ∀ g, qb < g → g < W.heap.size → V.heap[g]? = W.heap[g]?) : OrdsAt V qb bv o := by
  cases o with
  | none => exact h
  | some n =>
    obtain ⟨g, e, hg, hh⟩ := h
    exact ⟨g, e, hg, (hk g hg (blk_lt hh)).trans hh⟩
theorem QSt.on {w W V : World} {B : Nat} {q : QQ} {iv bv ov : Value} {k : Nat} {n : Int} (h : QSt w B q iv bv ov k n W) (hp : Past B W V) : QSt w B q iv bv ov k n V where
  lt := h.lt
  past := h.past.trans hp
  r := h.r.past hp (by have := h.lt; omega)
  z := h.z.past hp (by have := h.lt; omega)
  b := h.b.past hp (by have := h.lt; omega)
  its := h.its.imp id fun ⟨b, hb, ho⟩ => ⟨b, hb, own_past ho (by have := h.lt; omega) hp⟩
  bys := h.bys.imp id fun hh => hh.keep fun g hg hl => hp.keep g hl (by have := h.lt; omega)
  ords := h.ords.imp id fun hh => hh.keep fun g hg hl => hp.keep g hl (by have := h.lt; omega)
theorem QBox.off {w : World} {g b i : Nat} {x y z u : Value} {n : Int} (h : QBox w g x y z n) (hn : g ≠ b) : QBox (w.setCell ⟨b, i, none⟩ u) g x y z n := (Below.heap_setCell w ⟨b, i, none⟩ u g hn).trans h
section
variable {w W : World} {B : Nat} {q : QQ} {iv bv ov u : Value} {n m : Int}
theorem QSt.set0 (h : QSt w B q iv bv ov 0 n W) (ho : ∃ base, w.heap.size + 1 + 1 < base ∧ W.ownsRow base 120 2 u (q.l.length + 1) (((q.x :: q.l).map itB).flatMap encI)) : QSt w B q u bv ov 1 n (W.setCell ⟨w.heap.size + 1 + 1, 0, none⟩ u) where
  lt := h.lt
  past := h.past.put h.lt (by omega) _ _
  r := (Below.heap_setCell W ⟨w.heap.size + 1 + 1, 0, none⟩ u w.heap.size (by show ¬ w.heap.size = w.heap.size + 1 + 1; omega)).trans h.r
  z := h.z.off (by omega)
  b := by unfold QBox; rw [heap_setR h.b]; rfl
  its := .inr (by obtain ⟨b, hb, ho⟩ := ho; exact ⟨b, hb, own_set ho hb⟩)
  bys := .inl (by decide)
  ords := .inl (by decide)
theorem QSt.no2 (h : QSt w B q iv (.slice none 0 0) ov 1 n W) (he : q.byn = none) : QSt w B q iv (.slice none 0 0) ov 2 n W where
  lt := h.lt
  past := h.past
  r := h.r
  z := h.z
  b := h.b
  its := .inr (h.its.resolve_left (by decide))
  bys := .inr (by rw [he]; rfl)
  ords := .inl (by decide)
theorem QSt.set2 (h : QSt w B q iv bv ov 1 n W) (ho : BysAt W (w.heap.size + 1 + 1) u q.byn) : QSt w B q iv u ov 2 n (W.setCell ⟨w.heap.size + 1 + 1, 2, none⟩ u) where
  lt := h.lt
  past := h.past.put h.lt (by omega) _ _
  r := (Below.heap_setCell W ⟨w.heap.size + 1 + 1, 2, none⟩ u w.heap.size (by show ¬ w.heap.size = w.heap.size + 1 + 1; omega)).trans h.r
  z := h.z.off (by omega)
  b := by unfold QBox; rw [heap_setR h.b]; rfl
  its := .inr (by obtain ⟨b, hb, ho⟩ := h.its.resolve_left (by decide); exact ⟨b, hb, own_set ho hb⟩)
  bys := .inr (ho.keep fun g hg _ => Below.heap_setCell W ⟨w.heap.size + 1 + 1, 2, none⟩ u g (by show ¬ g = w.heap.size + 1 + 1; omega))
  ords := .inl (by decide)
theorem QSt.no3 (h : QSt w B q iv bv (.slice none 0 0) 2 n W) (he : q.ord = none) : QSt w B q iv bv (.slice none 0 0) 3 n W where
  lt := h.lt
  past := h.past
  r := h.r
  z := h.z
  b := h.b
  its := .inr (h.its.resolve_left (by decide))
  bys := .inr (h.bys.resolve_left (by decide))
  ords := .inr (by rw [he]; rfl)
theorem QSt.set3 (h : QSt w B q iv bv ov 2 n W) (ho : OrdsAt W (w.heap.size + 1 + 1) u q.ord) : QSt w B q iv bv u 3 n (W.setCell ⟨w.heap.size + 1 + 1, 3, none⟩ u) where
  lt := h.lt
  past := h.past.put h.lt (by omega) _ _
  r := (Below.heap_setCell W ⟨w.heap.size + 1 + 1, 3, none⟩ u w.heap.size (by show ¬ w.heap.size = w.heap.size + 1 + 1; omega)).trans h.r
  z := h.z.off (by omega)
  b := by unfold QBox; rw [heap_setR h.b]; rfl
  its := .inr (by obtain ⟨b, hb, ho⟩ := h.its.resolve_left (by decide); exact ⟨b, hb, own_set ho hb⟩)
  bys := .inr ((h.bys.resolve_left (by decide)).keep fun g hg _ => Below.heap_setCell W ⟨w.heap.size + 1 + 1, 3, none⟩ u g (by show ¬ g = w.heap.size + 1 + 1; omega))
  ords := .inr (ho.keep fun g hg _ => Below.heap_setCell W ⟨w.heap.size + 1 + 1, 3, none⟩ u g (by show ¬ g = w.heap.size + 1 + 1; omega))
theorem QSt.set4 (h : QSt w B q iv bv ov 3 n W) : QSt w B q iv bv ov 3 m (W.setCell ⟨w.heap.size + 1 + 1, 4, none⟩ (.int .i64 m)) where
  lt := h.lt
  past := h.past.put h.lt (by omega) _ _
  r := (Below.heap_setCell W ⟨w.heap.size + 1 + 1, 4, none⟩ _ w.heap.size (by show ¬ w.heap.size = w.heap.size + 1 + 1; omega)).trans h.r
  z := h.z.off (by omega)
  b := by unfold QBox; rw [heap_setR h.b]; rfl
  its := .inr (by obtain ⟨b, hb, ho⟩ := h.its.resolve_left (by decide); exact ⟨b, hb, own_set ho hb⟩)
  bys := .inr ((h.bys.resolve_left (by decide)).keep fun g hg _ => Below.heap_setCell W ⟨w.heap.size + 1 + 1, 4, none⟩ _ g (by show ¬ g = w.heap.size + 1 + 1; omega))
  ords := .inr ((h.ords.resolve_left (by decide)).keep fun g hg _ => Below.heap_setCell W ⟨w.heap.size + 1 + 1, 4, none⟩ _ g (by show ¬ g = w.heap.size + 1 + 1; omega))
end
theorem QBox.cells {w : World} {g : Nat} {a b c : Value} {n : Int} (h : QBox w g a b c n) : w.cell? ⟨g, 0, none⟩ = some a ∧ w.cell? ⟨g, 1, none⟩ = some (.pointer none) ∧ w.cell? ⟨g, 2, none⟩ = some b ∧ w.cell? ⟨g, 3, none⟩ = some c ∧ w.cell? ⟨g, 4, none⟩ = some (.int .i64 n) :=
  ⟨cell_of_block h 0, cell_of_block h 1, cell_of_block h 2, cell_of_block h 3, cell_of_block h 4⟩
theorem QBox.free {w : World} {g : Nat} {a b c : Value} {n : Int} (h : QBox w g a b c n) : w.frozen? ⟨g, 0, none⟩ = false ∧ w.frozen? ⟨g, 1, none⟩ = false ∧ w.frozen? ⟨g, 2, none⟩ = false ∧ w.frozen? ⟨g, 3, none⟩ = false ∧ w.frozen? ⟨g, 4, none⟩ = false :=
  ⟨unfrozen_of_block h 0, unfrozen_of_block h 1, unfrozen_of_block h 2, unfrozen_of_block h 3, unfrozen_of_block h 4⟩
theorem Rd.putQ {W : World} {B R i : Nat} {ts : List Tok} {a b c : Value} {n : Int} (h : Rd W B ts) (hk : QBox W R a b c n) (hn : R ≠ B) (u : Value) : Rd (W.setCell ⟨R, i, none⟩ u) B ts := h.setR hk (by decide) hn i u
theorem isT_tW {k : Nat} {w x : List UInt8} (h : k ≠ 1 ∨ w ≠ x) : isT k w (tW x) = false := by
  simp only [isT, tW, Bool.and_eq_false_iff]
  rcases h with h | h
  · exact .inl (decide_eq_false fun e => h e.symm)
  · exact .inr (decide_eq_false fun e => h e.symm)
theorem isT_end {k : Nat} {w : List UInt8} (h : k ≠ 0) : isT k w (hdTok []) = false := by
  simp only [isT, hdTok, endT, Bool.and_eq_false_iff]
  exact .inl (decide_eq_false fun e => h e.symm)
theorem hd1 (o : Option Nat) (k : Nat) (w : List UInt8) (h : k ≠ 0 ∧ (k ≠ 1 ∨ w ≠ wLim)) : isT k w (hdTok (limT o)) = false := by
  cases o with
  | none => exact isT_end h.1
  | some n => exact isT_tW h.2
theorem hd2 (x : Option (Nat × Bool)) (o : Option Nat) (k : Nat) (w : List UInt8) (h : k ≠ 0 ∧ (k ≠ 1 ∨ w ≠ wLim ∧ w ≠ wOrd)) : isT k w (hdTok (ordT x ++ limT o)) = false := by
  cases x with
  | none => exact hd1 o k w ⟨h.1, h.2.imp id fun e => e.1⟩
  | some n => exact isT_tW (h.2.imp id fun e => e.2)
theorem hd3 (y : Option (List UInt8)) (x : Option (Nat × Bool)) (o : Option Nat) (k : Nat) (w : List UInt8) (h : k ≠ 0 ∧ (k ≠ 1 ∨ w ≠ wLim ∧ w ≠ wOrd ∧ w ≠ wBy)) : isT k w (hdTok (byT y ++ (ordT x ++ limT o))) = false := by
  cases y with
  | none => exact hd2 x o k w ⟨h.1, h.2.imp id fun e => ⟨e.1, e.2.1⟩⟩
  | some n => exact isT_tW (h.2.imp id fun e => e.2.2)
theorem limT_len (o : Option Nat) : (limT o).length ≤ 2 := by cases o <;> simp [limT]
theorem ordT_len (x : Option (Nat × Bool)) : (ordT x).length ≤ 3 := by
  cases x with
  | none => simp [ordT]
  | some x => obtain ⟨n, d⟩ := x; cases d <;> simp [ordT, orT]
theorem byT_len (y : Option (List UInt8)) : (byT y).length ≤ 2 := by cases y <;> simp [byT]
end Go.Proofs.YtlnkbhbpkmnkaaaGreatDoor
namespace Go.Proofs.YtlnkbhbpkmnkaaaGreatDoor
open Go.RowKit Go.Proofs Go.Lib Go.Joins Go.Proofs.YtlnkbhbpkmnkaaaGreatDoor.Ask

theorem badName_hi (r : Nat) (h : 126 < r) : badName r = true := by
  unfold badName smallB digitB
  have h1 : ¬ ((r : Int) ≤ 122) := by omega
  have h2 : ¬ ((r : Int) ≤ 57) := by omega
  have h3 : ¬ ((r : Int) = 95) := by omega
  simp [h1, h2, h3]
theorem badLetter_hi (r : Nat) (h : 126 < r) : badLetter r = true := by
  unfold badLetter
  simp [h]
theorem nm_word (l : List UInt8) (h : nmL l = true) : isWord l := by
  unfold nmL nameB at h
  simp only [Bool.and_eq_true, decide_eq_true_eq, Bool.not_eq_true', decide_eq_false_iff_not] at h
  obtain ⟨_, h0, _, hf, hi⟩ := h
  have hm := idx_mem badName_hi hi
  rw [bA_toList] at hm
  cases l with
  | nil => rw [bA_size] at h0; exact absurd h0 (by simp)
  | cons b r =>
    refine ⟨?_, fun x hx => ?_⟩
    · unfold firstB at hf
      rw [dif_pos h0] at hf
      have e : ((bA (b :: r))[0]'h0) = b := rfl
      rw [e] at hf
      have hb := b.toNat_lt
      have hw : wrap32 (b.toNat : Int) = (b.toNat : Int) := by unfold wrap32; omega
      rw [hw] at hf
      simp only [smallB, Bool.and_eq_true, decide_eq_true_eq] at hf
      simp only [isSm, Bool.and_eq_true, decide_eq_true_eq]
      omega
    · have := (hm x (List.mem_cons_of_mem _ hx)).1
      unfold badName smallB digitB at this
      unfold isWc isSm isDg
      by_cases h1 : 97 ≤ x.toNat ∧ x.toNat ≤ 122
      · simp [h1]
      · by_cases h2 : 48 ≤ x.toNat ∧ x.toNat ≤ 57
        · simp [h2]
        · by_cases h3 : x.toNat = 95
          · simp [h3]
          · have g1 : (decide ((97 : Int) ≤ (x.toNat : Int)) && decide ((x.toNat : Int) ≤ 122)) = false := by
              simp only [Bool.and_eq_false_iff, decide_eq_false_iff_not]; omega
            have g2 : (decide ((48 : Int) ≤ (x.toNat : Int)) && decide ((x.toNat : Int) ≤ 57)) = false := by
              simp only [Bool.and_eq_false_iff, decide_eq_false_iff_not]; omega
            have g3 : ((x.toNat : Int) == 95) = false := by simp; omega
            rw [g1, g2, g3] at this
            simp at this

/-- What a word or number may be followed by. -/
def StopA : List UInt8 → Prop
  | [] => True
  | b :: _ => isWc b = false
theorem take_stopA {p : UInt8 → Bool} {l rest : List UInt8} (hl : ∀ b ∈ l, p b = true) (hs : ∀ b r, rest = b :: r → p b = false) : (l ++ rest).takeWhile p = l ∧ (l ++ rest).dropWhile p = rest := by
  induction l with
  | nil =>
    cases rest with
    | nil => exact ⟨rfl, rfl⟩
    | cons b r => simp [hs b r rfl]
  | cons b l ih =>
    obtain ⟨a, c⟩ := ih fun x hx => hl x (List.mem_cons_of_mem _ hx)
    have hb := hl b (List.mem_cons_self ..)
    simp [hb, a, c]
theorem tt_wordA {w rest : List UInt8} (h : isWord w) (hs : StopA rest) : TT [tW w] (w ++ rest) rest := by
  cases w with
  | nil => exact h.elim
  | cons b w =>
    obtain ⟨a, c⟩ := take_stopA (p := isWc) h.2 (rest := rest) (fun b r e => by subst e; exact hs)
    refine TT.one (dropB_ne fun e => ?_) ?_
    · subst e; exact absurd h.1 (by decide)
    · show first1 (b :: (w ++ rest)) = _
      simp only [first1]; rw [if_pos h.1, a, c]; rfl
theorem tt_comma (rest : List UInt8) : TT [tK] (44 :: rest) rest :=
  TT.one (dropB_ne (by decide)) (by simp only [first1]; rw [if_neg (by decide), if_neg (by decide), if_neg (by simp), if_neg (by simp)]; rfl)
theorem tt_star (rest : List UInt8) : TT [inT none] (42 :: rest) rest :=
  TT.one (dropB_ne (by decide)) (by simp only [first1]; rw [if_neg (by decide), if_neg (by decide), if_neg (by simp), if_neg (by simp)]; rfl)
theorem tt_dg {n : Nat} (h : n ≤ 9) {rest : List UInt8} (hs : StopA rest) : TT [tN n] (dgL n ++ rest) rest := by
  have hd : isDg (UInt8.ofNat (48 + n)) = true := by
    have : n = 0 ∨ n = 1 ∨ n = 2 ∨ n = 3 ∨ n = 4 ∨ n = 5 ∨ n = 6 ∨ n = 7 ∨ n = 8 ∨ n = 9 := by omega
    rcases this with rfl | rfl | rfl | rfl | rfl | rfl | rfl | rfl | rfl | rfl <;> rfl
  have hsm : isSm (UInt8.ofNat (48 + n)) = false := by
    have : n = 0 ∨ n = 1 ∨ n = 2 ∨ n = 3 ∨ n = 4 ∨ n = 5 ∨ n = 6 ∨ n = 7 ∨ n = 8 ∨ n = 9 := by omega
    rcases this with rfl | rfl | rfl | rfl | rfl | rfl | rfl | rfl | rfl | rfl <;> rfl
  obtain ⟨a, c⟩ := take_stopA (p := isDg) (l := []) (fun b hb => by simp at hb) (rest := rest) (fun b r e => by
    subst e
    have : isWc b = false := hs
    unfold isWc at this
    simp only [Bool.or_eq_false_iff] at this
    exact this.1.2)
  refine TT.one (dropB_ne fun e => ?_) ?_
  · rw [e] at hd; exact absurd hd (by decide)
  · show first1 (UInt8.ofNat (48 + n) :: rest) = _
    simp only [first1]
    rw [if_neg (by rw [hsm]; decide), if_pos hd]
    rw [List.nil_append] at a c
    rw [a, c]; rfl
def inX : Option (List UInt8) → List UInt8
  | none => [42]
  | some c => c
def itX : It → List UInt8
  | (.no, c) => inX c
  | (f, c) => fnL f ++ 40 :: (inX c ++ [41])
def comX : List It → List UInt8
  | [] => []
  | x :: l => 44 :: 32 :: (itX x ++ comX l)
def byX : Option (List UInt8) → List UInt8
  | none => []
  | some n => 32 :: (wBy ++ 32 :: n)
def ordX : Option (Nat × Bool) → List UInt8
  | none => []
  | some x => 32 :: (wOrd ++ 32 :: (dgL (x.1 + 1) ++ if x.2 then 32 :: wDesc else []))
def limX : Option Nat → List UInt8
  | none => []
  | some n => 32 :: (wLim ++ 32 :: dgL n)
/-- The text of what is asked. -/
def qX (q : QQ) : List UInt8 := wSel ++ 32 :: (itX q.x ++ (comX q.l ++ (byX q.byn ++ (ordX q.ord ++ limX q.lim))))
theorem tt_nil (s : List UInt8) : TT [] s s := fun k o _ ho => by simpa using ho
theorem wd {w : List UInt8} (h : isWord w := by exact ⟨by decide, by decide⟩) : isWord w := h
theorem tt_in (c : Option (List UInt8)) (hc : ∀ n, c = some n → nmL n = true) (rest : List UInt8) (hs : StopA rest) : TT [inT c] (inX c ++ rest) rest := by
  cases c with
  | none => exact tt_star rest
  | some n => exact tt_wordA (nm_word n (hc n rfl)) hs
theorem stop32 (s : List UInt8) : StopA (32 :: s) := by show isWc 32 = false; decide
theorem tt_it (x : It) (hx : ItOk x) (rest : List UInt8) (hs : StopA rest) : TT (itT x) (itX x ++ rest) rest := by
  obtain ⟨f, c⟩ := x
  have hc : ∀ n, c = some n → nmL n = true := fun n e => (hx.1 n e).1
  have key : ∀ w : List UInt8, isWord w → TT [tW w, tO, inT c, tC] ((w ++ 40 :: (inX c ++ [41])) ++ rest) rest := fun w hw => by
    rw [List.append_assoc, List.cons_append, List.append_assoc]
    refine TT.cons (tt_wordA hw (by show isWc 40 = false; decide)) (TT.cons (tt_open _) (TT.cons (tt_in c hc _ (by show isWc 41 = false; decide)) (tt_close _)))
  cases f with
  | no => exact tt_in c hc rest hs
  | count => exact key _ ⟨by decide, by decide⟩
  | max => exact key _ ⟨by decide, by decide⟩
  | min => exact key _ ⟨by decide, by decide⟩
  | sum => exact key _ ⟨by decide, by decide⟩
theorem stop_com (l : List It) (s : List UInt8) (h : StopA s) : StopA (comX l ++ s) := by
  cases l with
  | nil => exact h
  | cons x l => show isWc 44 = false; decide
theorem stop_by (o : Option (List UInt8)) (s : List UInt8) (h : StopA s) : StopA (byX o ++ s) := by
  cases o with
  | none => exact h
  | some x => exact stop32 _
theorem stop_ord (o : Option (Nat × Bool)) (s : List UInt8) (h : StopA s) : StopA (ordX o ++ s) := by
  cases o with
  | none => exact h
  | some x => exact stop32 _
theorem stop_lim (o : Option Nat) : StopA (limX o) := by
  cases o with
  | none => trivial
  | some x => exact stop32 _
theorem tt_com (l : List It) (hl : ∀ y ∈ l, ItOk y) (rest : List UInt8) (hs : StopA rest) : TT (comT l) (comX l ++ rest) rest := by
  induction l with
  | nil => exact tt_nil rest
  | cons x l ih =>
    show TT (tK :: (itT x ++ comT l)) (44 :: 32 :: (itX x ++ comX l) ++ rest) rest
    rw [List.cons_append, List.cons_append, List.append_assoc]
    exact TT.cons (tt_comma _) (TT.blank (TT.comp (tt_it x (hl x (List.mem_cons_self ..)) _ (stop_com l rest hs)) (ih fun y hy => hl y (List.mem_cons_of_mem _ hy))))
theorem tt_by (o : Option (List UInt8)) (ho : ∀ n, o = some n → nmL n = true) (rest : List UInt8) (hs : StopA rest) : TT (byT o) (byX o ++ rest) rest := by
  cases o with
  | none => exact tt_nil rest
  | some n =>
    show TT [tW wBy, tW n] (32 :: (wBy ++ 32 :: n) ++ rest) rest
    rw [List.cons_append, List.append_assoc, List.cons_append]
    exact TT.blank (TT.cons (tt_wordA ⟨by decide, by decide⟩ (stop32 _)) (TT.blank (tt_wordA (nm_word n (ho n rfl)) hs)))
theorem tt_ord (o : Option (Nat × Bool)) (ho : ∀ x, o = some x → x.1 < 9) (rest : List UInt8) (hs : StopA rest) : TT (ordT o) (ordX o ++ rest) rest := by
  cases o with
  | none => exact tt_nil rest
  | some x =>
    obtain ⟨k, d⟩ := x
    have h9 : k < 9 := ho _ rfl
    show TT (tW wOrd :: tN (k + 1) :: if d then [tW wDesc] else []) (32 :: (wOrd ++ 32 :: (dgL (k + 1) ++ if d then 32 :: wDesc else [])) ++ rest) rest
    rw [List.cons_append, List.append_assoc, List.cons_append, List.append_assoc]
    refine TT.blank (TT.cons (tt_wordA ⟨by decide, by decide⟩ (stop32 _)) (TT.blank ?_))
    cases d with
    | false => exact TT.cons (tt_dg (by omega) hs) (tt_nil rest)
    | true => exact TT.cons (tt_dg (by omega) (stop32 _)) (TT.blank (tt_wordA ⟨by decide, by decide⟩ hs))
theorem tt_lim (o : Option Nat) (ho : ∀ n, o = some n → n ≤ 9) : TT (limT o) (limX o) [] := by
  cases o with
  | none => exact tt_nil []
  | some n =>
    refine TT.blank (TT.cons (tt_wordA ⟨by decide, by decide⟩ (stop32 _)) (TT.blank ?_))
    have := tt_dg (n := n) (ho n rfl) (rest := []) trivial
    rwa [List.append_nil] at this
/-- The tokens of a query's text. -/
theorem qX_toks (q : QQ) (hq : QOk q) (h80 : (qT q).length ≤ 80) : TS 0 (qX q) (some (qT q)) := by
  have h : TT (qT q) (qX q) [] := by
    unfold qT qX
    refine TT.cons (tt_wordA ⟨by decide, by decide⟩ (stop32 _)) (TT.blank ?_)
    have s3 := stop_lim q.lim
    have s2 := stop_ord q.ord _ s3
    have s1 := stop_by q.byn _ s2
    have s0 := stop_com q.l _ s1
    exact TT.comp (tt_it q.x (hq.its _ (List.mem_cons_self ..)) _ s0) (TT.comp (tt_com q.l (fun y hy => hq.its y (List.mem_cons_of_mem _ hy)) _ s1) (TT.comp (tt_by q.byn (fun n e => (hq.byn n e).1) _ s2) (TT.comp (tt_ord q.ord (fun x e => (hq.ord x e).1) _ s3) (tt_lim q.lim fun n e => (hq.lim n e).2))))
  have := h 0 (some []) (by omega) (.fin rfl)
  simpa using this
end Go.Proofs.YtlnkbhbpkmnkaaaGreatDoor
namespace Go.Proofs.YtlnkbhbpkmnkaaaGreatDoor
open Go.RowKit Go.Proofs Go.Lib Go.Joins Go.Proofs.YtlnkbhbpkmnkaaaGreatDoor.Ask

def byR : Option (List UInt8) → List Tok
  | none => []
  | some n => [tW n]
def ordR : Option (Nat × Bool) → List Tok
  | none => []
  | some x => orT x
def limR : Option Nat → List Tok
  | none => []
  | some n => [tN n]
def limN : Option Nat → Int
  | none => 0
  | some n => n
theorem QSt.start (w : World) (B : Nat) (q : QQ) (h : B < w.heap.size) : QSt w B q (.slice none 0 0) (.slice none 0 0) (.slice none 0 0) 0 0 (((w.alloc (.cells #[.pointer (some ⟨B, 0, none⟩)] 77)).alloc (.cells #[.slice none 0 0, .pointer none, .slice none 0 0, .slice none 0 0, .int .i64 0] 49)).alloc (.cells #[.slice none 0 0, .pointer none, .slice none 0 0, .slice none 0 0, .int .i64 0] 49)) where
  lt := h
  past := Past.of (Nat.le_of_lt h) (((((Below.refl _ _).alloc (Nat.le_refl _) _).alloc (by simp) _)).alloc (by simp; omega) _)
  r := by
    unfold RBox
    rw [Below.heap_alloc _ _ _ (by simp; omega), Below.heap_alloc _ _ _ (by simp)]
    exact heap_alloc_new _ _
  z := by
    unfold QBox
    rw [Below.heap_alloc _ _ _ (by simp)]
    have := heap_alloc_new (w.alloc (.cells #[.pointer (some ⟨B, 0, none⟩)] 77)) (.cells #[.slice none 0 0, .pointer none, .slice none 0 0, .slice none 0 0, .int .i64 0] 49)
    rwa [World.size_alloc] at this
  b := by
    unfold QBox
    have := heap_alloc_new ((w.alloc (.cells #[.pointer (some ⟨B, 0, none⟩)] 77)).alloc (.cells #[.slice none 0 0, .pointer none, .slice none 0 0, .slice none 0 0, .int .i64 0] 49)) (.cells #[.slice none 0 0, .pointer none, .slice none 0 0, .slice none 0 0, .int .i64 0] 49)
    rwa [World.size_alloc, World.size_alloc] at this
  its := .inl rfl
  bys := .inl (by decide)
  ords := .inl (by decide)
theorem BysAt.slice {W : World} {qb : Nat} {bv : Value} {o : Option (List UInt8)} (h : BysAt W qb bv o) : ∃ a n c, bv = .slice a n c := by
  cases o with
  | none => exact ⟨_, _, _, h⟩
  | some n => obtain ⟨g, e, _⟩ := h; exact ⟨_, _, _, e⟩
theorem OrdsAt.slice {W : World} {qb : Nat} {bv : Value} {o : Option (Nat × Bool)} (h : OrdsAt W qb bv o) : ∃ a n c, bv = .slice a n c := by
  cases o with
  | none => exact ⟨_, _, _, h⟩
  | some n => obtain ⟨g, e, _⟩ := h; exact ⟨_, _, _, e⟩
/-- What is asked, as it was read: it lies in memory of its own. -/
structure Q3 (w : World) (B : Nat) (q : QQ) (iv bv ov : Value) (W : World) : Prop where
  lt : B < w.heap.size
  past : Past B w W
  its : ∃ base, w.heap.size + 1 + 1 < base ∧ W.ownsRow base 120 2 iv (q.l.length + 1) (((q.x :: q.l).map itB).flatMap encI)
  bys : BysAt W (w.heap.size + 1 + 1) bv q.byn
  ords : OrdsAt W (w.heap.size + 1 + 1) ov q.ord
theorem Q3.of {w W : World} {B : Nat} {q : QQ} {iv bv ov : Value} {n : Int} (h : QSt w B q iv bv ov 3 n W) : Q3 w B q iv bv ov W where
  lt := h.lt
  past := h.past
  its := h.its.resolve_left (by decide)
  bys := h.bys.resolve_left (by decide)
  ords := h.ords.resolve_left (by decide)
theorem Q3.put {w W : World} {B : Nat} {q : QQ} {iv bv ov : Value} (h : Q3 w B q iv bv ov W) (i : Nat) (u : Value) : Q3 w B q iv bv ov (W.setCell ⟨w.heap.size + 1, i, none⟩ u) where
  lt := h.lt
  past := h.past.put h.lt (by omega) _ _
  its := by obtain ⟨b, hb, ho⟩ := h.its; exact ⟨b, hb, own_set ho (by omega)⟩
  bys := h.bys.keep fun g hg _ => Below.heap_setCell W ⟨w.heap.size + 1, i, none⟩ u g (by show ¬ g = w.heap.size + 1; omega)
  ords := h.ords.keep fun g hg _ => Below.heap_setCell W ⟨w.heap.size + 1, i, none⟩ u g (by show ¬ g = w.heap.size + 1; omega)
/-- What came is laid into the result's box. -/
theorem QSt.setZ {w W : World} {B : Nat} {q : QQ} {iv bv ov : Value} {n : Int} (h : QSt w B q iv bv ov 3 n W) (a b c d e : Value) : Q3 w B q iv bv ov (((((W.setCell ⟨w.heap.size + 1, 0, none⟩ a).setCell ⟨w.heap.size + 1, 1, none⟩ b).setCell ⟨w.heap.size + 1, 2, none⟩ c).setCell ⟨w.heap.size + 1, 3, none⟩ d).setCell ⟨w.heap.size + 1, 4, none⟩ e) :=
  (((((Q3.of h).put 0 a).put 1 b).put 2 c).put 3 d).put 4 e
theorem Rd.putZ {W : World} {B R : Nat} {ts : List Tok} {x y z : Value} {n : Int} (h : Rd W B ts) (hk : QBox W R x y z n) (hn : R ≠ B) (a b c d e : Value) : Rd (((((W.setCell ⟨R, 0, none⟩ a).setCell ⟨R, 1, none⟩ b).setCell ⟨R, 2, none⟩ c).setCell ⟨R, 3, none⟩ d).setCell ⟨R, 4, none⟩ e) B ts := by
  have h0 := heap_setR hk 0 a
  have h1 := heap_setR h0 1 b
  have h2 := heap_setR h1 2 c
  have h3 := heap_setR h2 3 d
  exact ((((h.setR hk (by decide) hn 0 a).setR h0 (by decide) hn 1 b).setR h1 (by decide) hn 2 c).setR h2 (by decide) hn 3 d).setR h3 (by decide) hn 4 e
set_option maxHeartbeats 8000000 in
set_option maxRecDepth 100000 in
theorem query_any (B : Nat) (q : QQ) (w : World) (hr : Rd w B (qT q)) (hq : QOk q) (hw : GB w) (hB : 10 ≤ B) :
    Calls Tryz.prog 38 #[.pointer (some ⟨B, 0, none⟩)] w fun e w' => ∃ iv bv ov, e = .returned (.agg #[iv, .pointer none, bv, ov, .int .i64 (limN q.lim)]) ∧ Q3 w B q iv bv ov w' ∧ Rd w' B [] := by
  have HBL := mkH hr.lt
  have HS0 := mkH (QSt.start w B q hr.lt)
  have HR0 := mkH (((hr.alloc (.cells #[.pointer (some ⟨B, 0, none⟩)] 77)).alloc (.cells #[.slice none 0 0, .pointer none, .slice none 0 0, .slice none 0 0, .int .i64 0] 49)).alloc (.cells #[.slice none 0 0, .pointer none, .slice none 0 0, .slice none 0 0, .int .i64 0] 49))
  have HG : Hid (∀ V, Past B w V → GB V) := mkH (fun V hp => hw.past hB hp)
  obtain ⟨x, l, y, o, m⟩ := q
  have HQ := mkH hq
  have hlm := limT_len m
  have hor := ordT_len o
  have hby := byT_len y
  have hco := comT_len l
  have hfew : l.length ≤ 40 := hq.few
  have HK : Hid (NdL B 1 ⟨#[115, 101, 108, 101, 99, 116]⟩ (qT ⟨x, l, y, o, m⟩) (itT x ++ (comT l ++ (byT y ++ (ordT o ++ limT m))))) := mkH (NdL.yes B 1 wSel _ (tW wSel) _ rfl (by have := itT_len x; simp only [List.length_append]; omega) (isT_w _))
  have HW : Hid (TkL B 1 ⟨#[119, 104, 101, 114, 101]⟩ false (byT y ++ (ordT o ++ limT m)) (byT y ++ (ordT o ++ limT m))) := mkH (TkL.no B 1 wWhere _ _ rfl (by simp only [List.length_append]; omega) (hd3 y o m 1 wWhere ⟨by decide, .inr ⟨by decide, by decide, by decide⟩⟩))
  have HSV : Hid (∀ V, Past B w V → Rd V B (itT x ++ (comT l ++ (byT y ++ (ordT o ++ limT m)))) → Calls Tryz.prog 64 #[.pointer (some ⟨B, 0, none⟩), .func (.func 65) #[.pointer (some ⟨B, 0, none⟩)] #[]] V fun e w' => ∃ a c, e = .returned (.slice a (l.length + 1) c) ∧ w'.ownsRow V.heap.size 120 2 (.slice a (l.length + 1) c) (l.length + 1) (((x :: l).map itB).flatMap encI) ∧ Rd w' B (byT y ++ (ordT o ++ limT m)) ∧ Past B V w') := mkH (fun V hp hV => several_items B x l _ V hV (by simp only [List.length_append]; omega) hfew hq.its (hd3 y o m 4 [40] ⟨by decide, .inl (by decide)⟩) (hd3 y o m 4 [44] ⟨by decide, .inl (by decide)⟩) (HG.out V hp) hB)
  clear hr hw hq
  have hmf := hmfA
  go_enter Tryz.func38, Tryz.ntmps38
  go_wp2_with fail
  with_reducible refine (HK.out _ HR0.out).mono ?_
  rintro e w1 ⟨rfl, hr1, hp1⟩
  have HS1 := mkH (HS0.out.on hp1)
  have HR1 := mkH hr1
  clear hr1 hp1 HS0 HR0 HK
  obtain ⟨c0, c1, c2, c3, c4⟩ := HS1.out.b.cells
  obtain ⟨f0, f1, f2, f3, f4⟩ := HS1.out.b.free
  have r0 : w1.cell? ⟨w.heap.size, 0, none⟩ = some (.pointer (some ⟨B, 0, none⟩)) := cell_of_block HS1.out.r 0
  go_wp2_with fail
  with_reducible refine (HSV.out _ HS1.out.past HR1.out).mono ?_
  rintro e w2 ⟨ia, ic, rfl, ho2, hr2, hp2⟩
  have hsz : w.heap.size + 1 + 1 < w1.heap.size := blk_lt HS1.out.b
  have hbn : w.heap.size + 1 + 1 ≠ B := by have := HBL.out; omega
  have HS2' := mkH (HS1.out.on hp2)
  have HS2 := mkH (HS2'.out.set0 ⟨_, hsz, ho2⟩)
  have HR2 := mkH (hr2.putQ HS2'.out.b hbn (i := 0) (.slice ia (l.length + 1) ic))
  clear hr2 hp2 ho2 HS1 HR1 c0 c1 c2 c3 c4 f0 f1 f2 f3 f4 r0 HSV
  obtain ⟨c0, c1, c2, c3, c4⟩ := HS2'.out.b.cells
  obtain ⟨f0, f1, f2, f3, f4⟩ := HS2'.out.b.free
  have r0 : w2.cell? ⟨w.heap.size, 0, none⟩ = some (.pointer (some ⟨B, 0, none⟩)) := cell_of_block HS2'.out.r 0
  have r1 : (w2.setCell ⟨w.heap.size + 1 + 1, 0, none⟩ (.slice ia (l.length + 1) ic)).cell? ⟨w.heap.size, 0, none⟩ = some (.pointer (some ⟨B, 0, none⟩)) := cell_of_block HS2.out.r 0
  go_wp2_with fail
  with_reducible refine (HW.out _ HR2.out).mono ?_
  rintro e w3 ⟨rfl, hr3, hp3⟩
  have HS3 := mkH (HS2.out.on hp3)
  have HR3 := mkH hr3
  clear hr3 hp3 HS2 HR2 HS2' c0 c1 c2 c3 c4 f0 f1 f2 f3 f4 r0 r1 HW hsz
  generalize w2.setCell ⟨w.heap.size + 1 + 1, 0, none⟩ (.slice ia (l.length + 1) ic) = w2' at *
  obtain ⟨c0, c1, c2, c3, c4⟩ := HS3.out.b.cells
  obtain ⟨f0, f1, f2, f3, f4⟩ := HS3.out.b.free
  have r0 : w3.cell? ⟨w.heap.size, 0, none⟩ = some (.pointer (some ⟨B, 0, none⟩)) := cell_of_block HS3.out.r 0
  go_upto_region 6 with fail
  go_cut [17] (fun v17 wx => v17 = .bool y.isSome ∧ Hid (QSt w B ⟨x, l, y, o, m⟩ (.slice ia (l.length + 1) ic) (.slice none 0 0) (.slice none 0 0) 1 0 wx) ∧ Hid (Rd wx B (byR y ++ (ordT o ++ limT m))))
  case first =>
    have HT : Hid (TkL B 1 ⟨#[98, 121]⟩ y.isSome (byT y ++ (ordT o ++ limT m)) (byR y ++ (ordT o ++ limT m))) := mkH (by
      cases y with
      | none => exact TkL.no B 1 wBy _ _ rfl (by show (ordT o ++ limT m).length ≤ 900; rw [List.length_append]; omega) (hd2 o m 1 wBy ⟨by decide, .inr ⟨by decide, by decide⟩⟩)
      | some n => exact TkL.yes B 1 wBy _ (tW wBy) _ rfl (by show (tW n :: (ordT o ++ limT m)).length ≤ 900; rw [List.length_cons, List.length_append]; omega) (isT_w _))
    go_wp2_with fail
    with_reducible refine (HT.out _ HR3.out).mono ?_
    rintro e w4 ⟨rfl, hr4, hp4⟩
    have HS4 := mkH (HS3.out.on hp4)
    have HR4 := mkH hr4
    clear hr4 hp4
    go_wp2_with fail
    go_meet
    case rel => exact ⟨rfl, HS4, HR4⟩
  case rest =>
    obtain ⟨rfl, HS4, HR4⟩ := hcut
    clear HS3 HR3 c0 c1 c2 c3 c4 f0 f1 f2 f3 f4 r0
    refine (‹∀ (a : Act) (w : World), Code.wp Tryz.prog (Code.cond _ _ _) _ a w → _› _ _ ?_)
    go_cut [18, 19, 20, 21, 22] (fun _ _ _ _ _ wx => ∃ bv, Hid (QSt w B ⟨x, l, y, o, m⟩ (.slice ia (l.length + 1) ic) bv (.slice none 0 0) 2 0 wx) ∧ Hid (Rd wx B (ordT o ++ limT m)))
    case first =>
      cases y with
      | none =>
        have HS5 := mkH (HS4.out.no2 rfl)
        have HR5 : Hid (Rd wc B (ordT o ++ limT m)) := HR4
        clear HS4 HR4
        simp only [Option.isSome_none]
        go_wp2_with fail
        go_meet
        case rel => exact ⟨_, HS5, HR5⟩
      | some n =>
        have HR5 : Hid (Rd wc B (tW n :: (ordT o ++ limT m))) := HR4
        have HN := mkH (HQ.out.byn n rfl)
        have HSN : Hid (∀ V, Past B w V → Rd V B (tW n :: (ordT o ++ limT m)) → Calls Tryz.prog 68 #[.pointer (some ⟨B, 0, none⟩), .func (.func 69) #[.pointer (some ⟨B, 0, none⟩)] #[]] V fun e w' => ∃ g, e = .returned (.slice (some ⟨g, 0, none⟩) 1 1) ∧ V.heap.size ≤ g ∧ w'.heap[g]? = some (.cells #[.string (bA n)] 9) ∧ Rd w' B (ordT o ++ limT m) ∧ Past B V w') := mkH (fun V hp hV => several_name B n _ V hV (by simp only [List.length_append]; omega) HN.out.1 HN.out.2 (hd2 o m 4 [44] ⟨by decide, .inl (by decide)⟩) (HG.out V hp))
        clear HR4 HN
        have r0 : wc.cell? ⟨w.heap.size, 0, none⟩ = some (.pointer (some ⟨B, 0, none⟩)) := cell_of_block HS4.out.r 0
        simp only [Option.isSome_some]
        go_wp2_with fail
        with_reducible refine (HSN.out _ HS4.out.past HR5.out).mono ?_
        rintro e w5 ⟨g, rfl, hg5, hh5, hr5, hp5⟩
        have hsz : w.heap.size + 1 + 1 < wc.heap.size := blk_lt HS4.out.b
        have HS5 := mkH (HS4.out.on hp5)
        have HS6 := mkH (HS5.out.set2 (u := .slice (some ⟨g, 0, none⟩) 1 1) ⟨g, rfl, by omega, hh5⟩)
        have HR6 := mkH (hr5.putQ HS5.out.b hbn (i := 2) (.slice (some ⟨g, 0, none⟩) 1 1))
        clear hr5 hp5 hg5 hh5 HS4 HR5 HSN r0
        obtain ⟨_, _, c2, _, _⟩ := HS5.out.b.cells
        obtain ⟨_, _, f2, _, _⟩ := HS5.out.b.free
        go_wp2_with fail
        go_meet
        case rel => exact ⟨_, HS6, HR6⟩
    case rest =>
      obtain ⟨bv, HS6, HR6⟩ := hcut
      clear HS4 HR4
      go_upto_region 8 with fail
      go_cut [24] (fun v24 wx => v24 = .bool o.isSome ∧ Hid (QSt w B ⟨x, l, y, o, m⟩ (.slice ia (l.length + 1) ic) bv (.slice none 0 0) 2 0 wx) ∧ Hid (Rd wx B (ordR o ++ limT m)))
      case first =>
        have HT : Hid (TkL B 1 ⟨#[111, 114, 100, 101, 114]⟩ o.isSome (ordT o ++ limT m) (ordR o ++ limT m)) := mkH (by
          cases o with
          | none => exact TkL.no B 1 wOrd _ _ rfl (by show (limT m).length ≤ 900; omega) (hd1 m 1 wOrd ⟨by decide, .inr (by decide)⟩)
          | some n => exact TkL.yes B 1 wOrd _ (tW wOrd) _ rfl (by show (orT n ++ limT m).length ≤ 900; have : (tW wOrd :: orT n).length ≤ 3 := hor; rw [List.length_cons] at this; rw [List.length_append]; omega) (isT_w _))
        have r0 : wc.cell? ⟨w.heap.size, 0, none⟩ = some (.pointer (some ⟨B, 0, none⟩)) := cell_of_block HS6.out.r 0
        go_wp2_with fail
        with_reducible refine (HT.out _ HR6.out).mono ?_
        rintro e w4 ⟨rfl, hr4, hp4⟩
        have HS4 := mkH (HS6.out.on hp4)
        have HR4 := mkH hr4
        clear hr4 hp4
        go_wp2_with fail
        go_meet
        case rel => exact ⟨rfl, HS4, HR4⟩
      case rest =>
        obtain ⟨rfl, HS4, HR4⟩ := hcut
        clear HS6 HR6
        refine (‹∀ (a : Act) (w : World), Code.wp Tryz.prog (Code.cond _ _ _) _ a w → _› _ _ ?_)
        go_cut [25, 26, 27, 28] (fun _ _ _ _ wx => ∃ ov, Hid (QSt w B ⟨x, l, y, o, m⟩ (.slice ia (l.length + 1) ic) bv ov 3 0 wx) ∧ Hid (Rd wx B (limT m)))
        case first =>
          cases o with
          | none =>
            have HS5 := mkH (HS4.out.no3 rfl)
            have HR5 : Hid (Rd wc B (limT m)) := HR4
            clear HS4 HR4
            simp only [Option.isSome_none]
            go_wp2_with fail
            go_meet
            case rel => exact ⟨_, HS5, HR5⟩
          | some n =>
            have HR5 : Hid (Rd wc B (orT n ++ limT m)) := HR4
            have HN := mkH (HQ.out.ord n rfl)
            have HSN : Hid (∀ V, QSt w B ⟨x, l, y, some n, m⟩ (.slice ia (l.length + 1) ic) bv (.slice none 0 0) 2 0 V → Rd V B (orT n ++ limT m) → Calls Tryz.prog 70 #[.pointer (some ⟨B, 0, none⟩), .func (.func 71) #[] #[.pointer (some ⟨w.heap.size, 0, none⟩), .pointer (some ⟨w.heap.size + 1 + 1, 0, none⟩)]] V fun e w' => ∃ g, e = .returned (.slice (some ⟨g, 0, none⟩) 1 1) ∧ V.heap.size ≤ g ∧ w'.heap[g]? = some (.cells #[.int .i64 (n.1 : Int), .bool n.2] 128) ∧ Rd w' B (limT m) ∧ Past B V w') := mkH (fun V hs hV => several_order B w.heap.size (w.heap.size + 1 + 1) bv (.slice none 0 0) (l.length + 1) 0 ia ic n _ V hV (by omega) HN.out.1 HN.out.2 (by omega) (hd1 m 1 wDesc ⟨by decide, .inr (by decide)⟩) (hd1 m 4 [44] ⟨by decide, .inl (by decide)⟩) (HG.out V hs.past) hs.r hs.b)
            clear HR4 HN
            have r0 : wc.cell? ⟨w.heap.size, 0, none⟩ = some (.pointer (some ⟨B, 0, none⟩)) := cell_of_block HS4.out.r 0
            simp only [Option.isSome_some]
            go_wp2_with fail
            with_reducible refine (HSN.out _ HS4.out HR5.out).mono ?_
            rintro e w5 ⟨g, rfl, hg5, hh5, hr5, hp5⟩
            have hsz : w.heap.size + 1 + 1 < wc.heap.size := blk_lt HS4.out.b
            have HS5 := mkH (HS4.out.on hp5)
            have HS6 := mkH (HS5.out.set3 (u := .slice (some ⟨g, 0, none⟩) 1 1) ⟨g, rfl, by omega, hh5⟩)
            have HR6 := mkH (hr5.putQ HS5.out.b hbn (i := 3) (.slice (some ⟨g, 0, none⟩) 1 1))
            clear hr5 hp5 hg5 hh5 HS4 HR5 HSN r0
            obtain ⟨_, _, _, c3, _⟩ := HS5.out.b.cells
            obtain ⟨_, _, _, f3, _⟩ := HS5.out.b.free
            go_wp2_with fail
            go_meet
            case rel => exact ⟨_, HS6, HR6⟩
        case rest =>
          obtain ⟨ov, HS6, HR6⟩ := hcut
          clear HS4 HR4
          go_upto_region 10 with fail
          go_cut [30] (fun v30 wx => v30 = .bool m.isSome ∧ Hid (QSt w B ⟨x, l, y, o, m⟩ (.slice ia (l.length + 1) ic) bv ov 3 0 wx) ∧ Hid (Rd wx B (limR m)))
          case first =>
            have HT : Hid (TkL B 1 ⟨#[108, 105, 109, 105, 116]⟩ m.isSome (limT m) (limR m)) := mkH (by
              cases m with
              | none => exact TkL.no B 1 wLim _ _ rfl (by simp [limT]) (isT_end (by decide))
              | some n => exact TkL.yes B 1 wLim _ (tW wLim) _ rfl (by simp) (isT_w _))
            have r0 : wc.cell? ⟨w.heap.size, 0, none⟩ = some (.pointer (some ⟨B, 0, none⟩)) := cell_of_block HS6.out.r 0
            go_wp2_with fail
            with_reducible refine (HT.out _ HR6.out).mono ?_
            rintro e w4 ⟨rfl, hr4, hp4⟩
            have HS4 := mkH (HS6.out.on hp4)
            have HR4 := mkH hr4
            clear hr4 hp4
            go_wp2_with fail
            go_meet
            case rel => exact ⟨rfl, HS4, HR4⟩
          case rest =>
            obtain ⟨rfl, HS4, HR4⟩ := hcut
            clear HS6 HR6
            refine (‹∀ (a : Act) (w : World), Code.wp Tryz.prog (Code.cond _ _ _) _ a w → _› _ _ ?_)
            go_cut [31, 32, 33] (fun _ _ _ wx => Hid (QSt w B ⟨x, l, y, o, m⟩ (.slice ia (l.length + 1) ic) bv ov 3 (limN m) wx) ∧ Hid (Rd wx B []))
            case first =>
              cases m with
              | none =>
                have HS5 : Hid (QSt w B ⟨x, l, y, _, none⟩ (.slice ia (l.length + 1) ic) bv ov 3 (limN none) wc) := HS4
                have HR5 : Hid (Rd wc B []) := HR4
                clear HS4 HR4
                simp only [Option.isSome_none]
                go_wp2_with fail
                go_meet
                case rel => exact ⟨HS5, HR5⟩
              | some n =>
                have HR5 : Hid (Rd wc B [tN n]) := HR4
                have HN := mkH (HQ.out.lim n rfl)
                have HSN : Hid (∀ V, Past B w V → Rd V B [tN n] → Calls Tryz.prog 73 #[.pointer (some ⟨B, 0, none⟩), .int .i64 1000000] V fun e w' => e = .returned (.int .i64 (n : Int)) ∧ Rd w' B [] ∧ Past B V w') := mkH (fun V hp hV => upTo_any B n 1000000 [] V hV (by simp) HN.out.1 HN.out.2 (by have := HN.out.2; omega) (by decide) (HG.out V hp))
                clear HR4 HN
                have r0 : wc.cell? ⟨w.heap.size, 0, none⟩ = some (.pointer (some ⟨B, 0, none⟩)) := cell_of_block HS4.out.r 0
                simp only [Option.isSome_some]
                go_wp2_with fail
                with_reducible refine (HSN.out _ HS4.out.past HR5.out).mono ?_
                rintro e w5 ⟨rfl, hr5, hp5⟩
                have HS5 := mkH (HS4.out.on hp5)
                have HS6 : Hid (QSt w B ⟨x, l, y, _, some n⟩ (.slice ia (l.length + 1) ic) bv ov 3 (limN (some n)) (w5.setCell ⟨w.heap.size + 1 + 1, 4, none⟩ (.int .i64 (n : Int)))) := mkH (HS5.out.set4 (m := (n : Int)))
                have HR6 := mkH (hr5.putQ HS5.out.b hbn (i := 4) (.int .i64 (n : Int)))
                clear hr5 hp5 HS4 HR5 HSN r0
                obtain ⟨_, _, _, _, c4⟩ := HS5.out.b.cells
                obtain ⟨_, _, _, _, f4⟩ := HS5.out.b.free
                go_wp2_with fail
                go_meet
                case rel => exact ⟨HS6, HR6⟩
            case rest =>
              obtain ⟨HS6, HR6⟩ := hcut
              clear HS4 HR4
              obtain ⟨ba, bn, bc, rfl⟩ := (HS6.out.bys.resolve_left (by decide)).slice
              obtain ⟨oa, on, oc, rfl⟩ := (HS6.out.ords.resolve_left (by decide)).slice
              obtain ⟨c0, c1, c2, c3, c4⟩ := HS6.out.b.cells
              obtain ⟨d0, d1, d2, d3, d4⟩ := HS6.out.z.cells
              obtain ⟨f0, f1, f2, f3, f4⟩ := HS6.out.z.free
              have HZ := mkH HS6.out.z
              have hzn : w.heap.size + 1 ≠ B := by have := HBL.out; omega
              go_wp2
              refine bodyPost_ret (v := .agg #[.slice ia (l.length + 1) ic, .pointer none, .slice ba bn bc, .slice oa on oc, .int .i64 (limN m)]) ?_ rfl ?_
              · simp [results, Tryz.results38, go_sem, d0, d1, d2, d3, d4]
              · exact ⟨_, _, _, rfl, HS6.out.setZ _ _ _ _ _, HR6.out.putZ HZ.out hzn _ _ _ _ _⟩
end Go.Proofs.YtlnkbhbpkmnkaaaGreatDoor
