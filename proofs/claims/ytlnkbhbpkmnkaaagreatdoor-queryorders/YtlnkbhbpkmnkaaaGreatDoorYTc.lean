/- What ask.several does at items, said of every call that goes well. -/
import Derived.Test.YtlnkbhbpkmnkaaaGreatDoorYTa
namespace Go.Proofs.YtlnkbhbpkmnkaaaGreatDoor
open Go.RowKit Go.Proofs Go.Lib Go.Joins Go.Proofs.YtlnkbhbpkmnkaaaGreatDoor.Ask

/-- What stands between the two marks: a column, or all of them. -/
def inT : Option (List UInt8) → Tok
  | none => tM [42] 0
  | some c => tW c
def inB : Option (List UInt8) → ByteArray
  | none => ⟨#[42]⟩
  | some c => bA c
theorem Rd.put1 {W : World} {B R : Nat} {ts : List Tok} {x : ByteArray × ByteArray} (h : Rd W B ts) (hk : IAt W R x) (hn : R ≠ B) (i : Nat) (a : Value) : Rd (W.setCell ⟨R, i, none⟩ a) B ts := h.setR hk (by decide) hn i a
theorem IAt.put1 {W : World} {R : Nat} {a b : ByteArray} (h : IAt W R (a, b)) (c : ByteArray) : IAt (W.setCell ⟨R, 1, none⟩ (.string c)) R (a, c) := by
  unfold IAt at h ⊢
  rw [heap_setR h]
  rfl
theorem IAt.off2 {W : World} {R g i : Nat} {v : Value} {x : ByteArray × ByteArray} (h : IAt W R x) (hn : R ≠ g) : IAt (W.setCell ⟨g, i, none⟩ v) R x := (Below.heap_setCell W ⟨g, i, none⟩ v R hn).trans h
theorem nmL_fn {f : F.Fn} (h : f ≠ .no) : nmL (fnL f) = true := by cases f <;> first | exact absurd rfl h | kernel_rfl
set_option maxHeartbeats 2000000 in
set_option maxRecDepth 100000 in
theorem item_fn (B : Nat) (f : F.Fn) (c : Option (List UInt8)) (ts : List Tok) (w : World) (hr : Rd w B (tW (fnL f) :: tO :: inT c :: tC :: ts)) (hn : ts.length ≤ 890) (hf : f ≠ .no) (hc : ∀ x, c = some x → nmL x = true ∧ x.length ≤ 1000) (h0 : c = none → f = .count) (hw : GB w) (hB : 10 ≤ B) :
    Calls Tryz.prog 65 #[.pointer (some ⟨B, 0, none⟩)] w fun e w' => e = .returned (.agg #[.string (F.fnB f), .string (inB c)]) ∧ Rd w' B ts ∧ Past B w w' := by
  have HB := mkH hr.lt
  have hb0 : ∀ o, Below w.heap.size w (w.alloc o) := fun o => (Below.refl _ _).alloc (Nat.le_refl _) _
  have HN := mkH (fun o => name_yes B (fnL f) (tO :: inT c :: tC :: ts) (w.alloc o) (hr.alloc o) (by simp; omega) (nmL_fn hf) (by cases f <;> simp [fnL]) (hw.below (hb0 o)).1)
  have HF := mkH (fun W => isFn_any (bA (fnL f)) W)
  have HQ := mkH (isFn_fn hf)
  have HT : Hid (TkL B 4 ⟨#[40]⟩ true (tO :: inT c :: tC :: ts) (inT c :: tC :: ts)) := mkH (TkL.yes B 4 [40] _ tO (inT c :: tC :: ts) rfl (by simp; omega) rfl)
  have HK : Hid (NdL B 4 ⟨#[41]⟩ (tC :: ts) ts) := mkH (NdL.yes B 4 [41] _ tC ts rfl (by omega) rfl)
  have HW : Hid (∀ V, Past B w V → GB V) := mkH (fun V hV => hw.past hB hV)
  have HP0 : Hid (∀ o W, Past B (w.alloc o) W → Past B w W) := mkH (fun o W hp => Past.in (Nat.le_of_lt hr.lt) (hb0 o) hp)
  have HI0 : Hid (IAt (w.alloc (.cells #[.string ⟨#[]⟩, .string ⟨#[]⟩] 120)) w.heap.size (⟨#[]⟩, ⟨#[]⟩)) := mkH (heap_alloc_new _ _)
  rw [HQ.out, fnL_B] at HF
  rw [fnL_B] at HN
  cases c with
  | none =>
    obtain rfl := h0 rfl
    have HS : Hid (TkL B 4 ⟨#[42]⟩ true (inT none :: tC :: ts) (tC :: ts)) := mkH (TkL.yes B 4 [42] _ (inT none) (tC :: ts) rfl (by simp; omega) rfl)
    clear hr hw hc h0 hb0 HQ
    go_enter Tryz.func65, Tryz.ntmps65
    go_wp2_with fail
    refine (HN.out _).mono ?_
    rintro e w1 ⟨rfl, hr1, hp1⟩
    have hbn : w.heap.size ≠ B := by have := HB.out; omega
    have HR1 := mkH hr1
    have HP1 := mkH (HP0.out _ _ hp1)
    have HI1 := mkH (HI0.out.past hp1 hbn)
    clear hr1 hp1 HN
    go_wp2_with fail
    refine (HF.out _).mono ?_
    rintro e w2 ⟨rfl, rfl⟩
    go_wp2_with fail
    with_reducible refine (HT.out _ HR1.out).mono ?_
    rintro e w3 ⟨rfl, hr3, hp3⟩
    have HR3 := mkH hr3
    have HP3 := mkH (HP1.out.trans hp3)
    have HI3 := mkH (HI1.out.past hp3 hbn)
    have hs3 : w.heap.size < w3.heap.size := HI3.out.lt
    clear hr3 hp3 HT HF HR1 HP1 HI1
    unfold F.fnB
    go_wp2_with fail
    with_reducible refine (HS.out _ (HR3.out.alloc _)).mono ?_
    rintro e w4 ⟨rfl, hr4, hp4⟩
    have hB3 : B < w3.heap.size := HR3.out.lt
    have hjn : w3.heap.size ≠ B := by omega
    have hj4 : IAt w4 w3.heap.size (F.fnB .count, ⟨#[42]⟩) := IAt.past (heap_alloc_new _ _) hp4 hjn
    have hi4 : IAt w4 w.heap.size (⟨#[]⟩, ⟨#[]⟩) := (HI3.out.up ((Below.refl _ _).alloc (Nat.le_refl _) _)).past hp4 hbn
    have hq4 := HP3.out.trans (Past.in (Nat.le_of_lt hB3) ((Below.refl _ _).alloc (Nat.le_refl _) _) hp4)
    have HR4 := mkH hr4
    have HJ4 := mkH hj4
    have HI4 := mkH hi4
    have HQ4 := mkH hq4
    clear hr4 hp4 hj4 hi4 hq4 HR3 HP3 HI3 HS
    generalize w3.heap.size = gj at *
    go_wp2_with fail
    with_reducible refine (HK.out _ HR4.out).mono ?_
    rintro e w5 ⟨rfl, hr5, hp5⟩
    have hj5 := HJ4.out.past hp5 hjn
    have hi5 := HI4.out.past hp5 hbn
    obtain ⟨c0, c1⟩ := hi5.cells
    obtain ⟨f0, f1⟩ := hi5.free
    obtain ⟨d0, d1⟩ := hj5.cells
    have HR5 := mkH hr5
    have HI5 := mkH hi5
    have HQ5 := mkH (HQ4.out.trans hp5)
    clear hr5 hp5 hj5 hi5
    go_wp2
    refine bodyPost_ret (v := .agg #[.string (F.fnB .count), .string ⟨#[42]⟩]) ?_ rfl ?_
    · simp [results, Tryz.results65, go_sem, c0, c1]
    · exact ⟨rfl, HR5.out.put2 HI5.out hbn _ _, (HQ5.out.put HB.out (Nat.le_refl _) _ _).put HB.out (Nat.le_refl _) _ _⟩
  | some x =>
    obtain ⟨hx1, hx2⟩ := hc x rfl
    have HX : Hid (∀ V, Past B w V → Rd V B (inT (some x) :: tC :: ts) → Calls Tryz.prog 69 #[.pointer (some ⟨B, 0, none⟩)] V fun e w' => e = .returned (.string (bA x)) ∧ Rd w' B (tC :: ts) ∧ Past B V w') := mkH (fun V hp hV => name_yes B x (tC :: ts) V hV (by simp; omega) hx1 hx2 (HW.out V hp).1)
    have HS : Hid (TkL B 4 ⟨#[42]⟩ false (inT (some x) :: tC :: ts) (inT (some x) :: tC :: ts)) := mkH (TkL.no B 4 [42] _ (inT (some x) :: tC :: ts) rfl (by simp; omega) (isT_wm _ _))
    clear hr hw hc h0 hb0 HQ hx1 hx2
    go_enter Tryz.func65, Tryz.ntmps65
    go_wp2_with fail
    refine (HN.out _).mono ?_
    rintro e w1 ⟨rfl, hr1, hp1⟩
    have hbn : w.heap.size ≠ B := by have := HB.out; omega
    have HR1 := mkH hr1
    have HP1 := mkH (HP0.out _ _ hp1)
    have HI1 := mkH (HI0.out.past hp1 hbn)
    clear hr1 hp1 HN
    go_wp2_with fail
    refine (HF.out _).mono ?_
    rintro e w2 ⟨rfl, rfl⟩
    go_wp2_with fail
    with_reducible refine (HT.out _ HR1.out).mono ?_
    rintro e w3 ⟨rfl, hr3, hp3⟩
    have HR3 := mkH hr3
    have HP3 := mkH (HP1.out.trans hp3)
    have HI3 := mkH (HI1.out.past hp3 hbn)
    have hs3 : w.heap.size < w3.heap.size := HI3.out.lt
    have hB3 : B < w3.heap.size := HR3.out.lt
    have hjn : w3.heap.size ≠ B := by omega
    have HI3' := mkH (fun o => HI3.out.up (W := w3.alloc o) ((Below.refl _ _).alloc (Nat.le_refl _) _))
    have HP3' := mkH (fun o => HP3.out.trans (Past.of (W := w3.alloc o) (Nat.le_of_lt hB3) ((Below.refl _ _).alloc (Nat.le_refl _) _)))
    have HJ3 := mkH (fun f' : F.Fn => (show IAt (w3.alloc (.cells #[.string (F.fnB f'), .string ⟨#[42]⟩] 120)) w3.heap.size (F.fnB f', ⟨#[42]⟩) from heap_alloc_new _ _))
    clear hr3 hp3 HT HF HR1 HP1 HI1
    cases f with
    | no => exact absurd rfl hf
    | count =>
      unfold F.fnB
      go_wp2_with fail
      with_reducible refine (HS.out _ (HR3.out.alloc _)).mono ?_
      rintro e w4 ⟨rfl, hr4, hp4⟩
      have HR4 := mkH hr4
      have HJ4 := mkH ((HJ3.out .count).past hp4 hjn)
      have HI4 := mkH ((HI3'.out _).past hp4 hbn)
      have HQ4 := mkH ((HP3'.out _).trans hp4)
      clear hr4 hp4 HR3 HP3 HI3 HS HJ3 HI3' HP3'
      generalize w3.heap.size = gj at *
      go_wp2_with fail
      with_reducible refine (HX.out _ HQ4.out HR4.out).mono ?_
      rintro e w6 ⟨rfl, hr6, hp6⟩
      have hj6 := HJ4.out.past hp6 hjn
      have HI6 := mkH ((HI4.out.past hp6 hbn).off2 (i := 1) (v := .string (bA x)) (by omega : w.heap.size ≠ gj))
      have HR6 := mkH (hr6.put1 hj6 hjn 1 (.string (bA x)))
      have HQ6 := mkH ((HQ4.out.trans hp6).put HB.out (by omega) 1 (.string (bA x)) (g := gj))
      have HJ6 := mkH (hj6.put1 (bA x))
      obtain ⟨d0, d1⟩ := hj6.cells
      obtain ⟨f0, f1⟩ := hj6.free
      clear hr6 hp6 hj6 HI4 HQ4 HX
      go_wp2_with fail
      with_reducible refine (HK.out _ HR6.out).mono ?_
      rintro e w7 ⟨rfl, hr7, hp7⟩
      have hi7 := HI6.out.past hp7 hbn
      have hj7 := HJ6.out.past hp7 hjn
      have HR7 := mkH hr7
      have HI7 := mkH hi7
      have HQ7 := mkH (HQ6.out.trans hp7)
      clear hr7 hp7 HR6 HQ6 HI6 HJ6 HK d0 d1 f0 f1
      obtain ⟨c0, c1⟩ := hi7.cells
      obtain ⟨e0, e1⟩ := hi7.free
      obtain ⟨d0, d1⟩ := hj7.cells
      clear hi7 hj7
      go_wp2
      refine bodyPost_ret (v := .agg #[.string (F.fnB .count), .string (bA x)]) ?_ rfl ?_
      · simp [results, Tryz.results65, go_sem, c0, c1]
      · exact ⟨rfl, HR7.out.put2 HI7.out hbn _ _, (HQ7.out.put HB.out (Nat.le_refl _) _ _).put HB.out (Nat.le_refl _) _ _⟩
    | max =>
      unfold F.fnB
      go_wp2_with fail
      with_reducible refine (HX.out _ (HP3'.out _) (HR3.out.alloc _)).mono ?_
      rintro e w6 ⟨rfl, hr6, hp6⟩
      have HI4 := mkH (HI3'.out (.cells #[.string (F.fnB .max), .string ⟨#[42]⟩] 120))
      have HQ4 := mkH (HP3'.out (.cells #[.string (F.fnB .max), .string ⟨#[42]⟩] 120))
      have hj6 := (HJ3.out .max).past hp6 hjn
      clear HR3 HP3 HI3 HS HJ3 HI3' HP3'
      generalize w3.heap.size = gj at *
      have HI6 := mkH ((HI4.out.past hp6 hbn).off2 (i := 1) (v := .string (bA x)) (by omega : w.heap.size ≠ gj))
      have HR6 := mkH (hr6.put1 hj6 hjn 1 (.string (bA x)))
      have HQ6 := mkH ((HQ4.out.trans hp6).put HB.out (by omega) 1 (.string (bA x)) (g := gj))
      have HJ6 := mkH (hj6.put1 (bA x))
      obtain ⟨d0, d1⟩ := hj6.cells
      obtain ⟨f0, f1⟩ := hj6.free
      clear hr6 hp6 hj6 HI4 HQ4 HX
      go_wp2_with fail
      with_reducible refine (HK.out _ HR6.out).mono ?_
      rintro e w7 ⟨rfl, hr7, hp7⟩
      have hi7 := HI6.out.past hp7 hbn
      have hj7 := HJ6.out.past hp7 hjn
      have HR7 := mkH hr7
      have HI7 := mkH hi7
      have HQ7 := mkH (HQ6.out.trans hp7)
      clear hr7 hp7 HR6 HQ6 HI6 HJ6 HK d0 d1 f0 f1
      obtain ⟨c0, c1⟩ := hi7.cells
      obtain ⟨e0, e1⟩ := hi7.free
      obtain ⟨d0, d1⟩ := hj7.cells
      clear hi7 hj7
      go_wp2
      refine bodyPost_ret (v := .agg #[.string (F.fnB .max), .string (bA x)]) ?_ rfl ?_
      · simp [results, Tryz.results65, go_sem, c0, c1]
      · exact ⟨rfl, HR7.out.put2 HI7.out hbn _ _, (HQ7.out.put HB.out (Nat.le_refl _) _ _).put HB.out (Nat.le_refl _) _ _⟩
    | min =>
      unfold F.fnB
      go_wp2_with fail
      with_reducible refine (HX.out _ (HP3'.out _) (HR3.out.alloc _)).mono ?_
      rintro e w6 ⟨rfl, hr6, hp6⟩
      have HI4 := mkH (HI3'.out (.cells #[.string (F.fnB .min), .string ⟨#[42]⟩] 120))
      have HQ4 := mkH (HP3'.out (.cells #[.string (F.fnB .min), .string ⟨#[42]⟩] 120))
      have hj6 := (HJ3.out .min).past hp6 hjn
      clear HR3 HP3 HI3 HS HJ3 HI3' HP3'
      generalize w3.heap.size = gj at *
      have HI6 := mkH ((HI4.out.past hp6 hbn).off2 (i := 1) (v := .string (bA x)) (by omega : w.heap.size ≠ gj))
      have HR6 := mkH (hr6.put1 hj6 hjn 1 (.string (bA x)))
      have HQ6 := mkH ((HQ4.out.trans hp6).put HB.out (by omega) 1 (.string (bA x)) (g := gj))
      have HJ6 := mkH (hj6.put1 (bA x))
      obtain ⟨d0, d1⟩ := hj6.cells
      obtain ⟨f0, f1⟩ := hj6.free
      clear hr6 hp6 hj6 HI4 HQ4 HX
      go_wp2_with fail
      with_reducible refine (HK.out _ HR6.out).mono ?_
      rintro e w7 ⟨rfl, hr7, hp7⟩
      have hi7 := HI6.out.past hp7 hbn
      have hj7 := HJ6.out.past hp7 hjn
      have HR7 := mkH hr7
      have HI7 := mkH hi7
      have HQ7 := mkH (HQ6.out.trans hp7)
      clear hr7 hp7 HR6 HQ6 HI6 HJ6 HK d0 d1 f0 f1
      obtain ⟨c0, c1⟩ := hi7.cells
      obtain ⟨e0, e1⟩ := hi7.free
      obtain ⟨d0, d1⟩ := hj7.cells
      clear hi7 hj7
      go_wp2
      refine bodyPost_ret (v := .agg #[.string (F.fnB .min), .string (bA x)]) ?_ rfl ?_
      · simp [results, Tryz.results65, go_sem, c0, c1]
      · exact ⟨rfl, HR7.out.put2 HI7.out hbn _ _, (HQ7.out.put HB.out (Nat.le_refl _) _ _).put HB.out (Nat.le_refl _) _ _⟩
    | sum =>
      unfold F.fnB
      go_wp2_with fail
      with_reducible refine (HX.out _ (HP3'.out _) (HR3.out.alloc _)).mono ?_
      rintro e w6 ⟨rfl, hr6, hp6⟩
      have HI4 := mkH (HI3'.out (.cells #[.string (F.fnB .sum), .string ⟨#[42]⟩] 120))
      have HQ4 := mkH (HP3'.out (.cells #[.string (F.fnB .sum), .string ⟨#[42]⟩] 120))
      have hj6 := (HJ3.out .sum).past hp6 hjn
      clear HR3 HP3 HI3 HS HJ3 HI3' HP3'
      generalize w3.heap.size = gj at *
      have HI6 := mkH ((HI4.out.past hp6 hbn).off2 (i := 1) (v := .string (bA x)) (by omega : w.heap.size ≠ gj))
      have HR6 := mkH (hr6.put1 hj6 hjn 1 (.string (bA x)))
      have HQ6 := mkH ((HQ4.out.trans hp6).put HB.out (by omega) 1 (.string (bA x)) (g := gj))
      have HJ6 := mkH (hj6.put1 (bA x))
      obtain ⟨d0, d1⟩ := hj6.cells
      obtain ⟨f0, f1⟩ := hj6.free
      clear hr6 hp6 hj6 HI4 HQ4 HX
      go_wp2_with fail
      with_reducible refine (HK.out _ HR6.out).mono ?_
      rintro e w7 ⟨rfl, hr7, hp7⟩
      have hi7 := HI6.out.past hp7 hbn
      have hj7 := HJ6.out.past hp7 hjn
      have HR7 := mkH hr7
      have HI7 := mkH hi7
      have HQ7 := mkH (HQ6.out.trans hp7)
      clear hr7 hp7 HR6 HQ6 HI6 HJ6 HK d0 d1 f0 f1
      obtain ⟨c0, c1⟩ := hi7.cells
      obtain ⟨e0, e1⟩ := hi7.free
      obtain ⟨d0, d1⟩ := hj7.cells
      clear hi7 hj7
      go_wp2
      refine bodyPost_ret (v := .agg #[.string (F.fnB .sum), .string (bA x)]) ?_ rfl ?_
      · simp [results, Tryz.results65, go_sem, c0, c1]
      · exact ⟨rfl, HR7.out.put2 HI7.out hbn _ _, (HQ7.out.put HB.out (Nat.le_refl _) _ _).put HB.out (Nat.le_refl _) _ _⟩
end Go.Proofs.YtlnkbhbpkmnkaaaGreatDoor
namespace Go.Proofs.YtlnkbhbpkmnkaaaGreatDoor
open Go.RowKit Go.Proofs Go.Lib Go.Joins Go.Proofs.YtlnkbhbpkmnkaaaGreatDoor.Ask

abbrev It := F.Fn × Option (List UInt8)
def itT : It → List Tok
  | (.no, c) => [inT c]
  | (f, c) => [tW (fnL f), tO, inT c, tC]
def itB (x : It) : ByteArray × ByteArray := (F.fnB x.1, inB x.2)
def ItOk (x : It) : Prop := (∀ n, x.2 = some n → nmL n = true ∧ n.length ≤ 1000) ∧ (x.2 = none → x.1 = .count)
theorem item_any (B : Nat) (x : It) (ts : List Tok) (w : World) (hr : Rd w B (itT x ++ ts)) (hn : ts.length ≤ 890) (hx : ItOk x) (hno : isT 4 [40] (hdTok ts) = false) (hw : GB w) (hB : 10 ≤ B) :
    Calls Tryz.prog 65 #[.pointer (some ⟨B, 0, none⟩)] w fun e w' => e = .returned (.agg #[.string (itB x).1, .string (itB x).2]) ∧ Rd w' B ts ∧ Past B w w' := by
  obtain ⟨f, c⟩ := x
  cases f with
  | no =>
    cases c with
    | none => exact absurd (hx.2 rfl) (by decide)
    | some n => exact item_col B n ts w hr (by omega) (hx.1 n rfl).1 (hx.1 n rfl).2 hno hw
  | count => exact item_fn B .count c ts w hr hn (by decide) hx.1 (fun _ => rfl) hw hB
  | max => exact item_fn B .max c ts w hr hn (by decide) hx.1 (fun h => by have := hx.2 h; cases this) hw hB
  | min => exact item_fn B .min c ts w hr hn (by decide) hx.1 (fun h => by have := hx.2 h; cases this) hw hB
  | sum => exact item_fn B .sum c ts w hr hn (by decide) hx.1 (fun h => by have := hx.2 h; cases this) hw hB
def tK : Tok := tM [44] 0
def comT : List It → List Tok
  | [] => []
  | x :: l => tK :: (itT x ++ comT l)
def encI (x : ByteArray × ByteArray) : List Value := [.string x.1, .string x.2]
theorem own_past {B base : Nat} {w W : World} {e : TypeId} {z n : Nat} {v : Value} {xs : List Value} (h : w.ownsRow base e z v n xs) (hB : B < base) (hp : Past B w W) : W.ownsRow base e z v n xs := by
  refine ⟨h.1, ?_⟩
  rcases h.2 with h | ⟨g, c, cur, hv, hb', hg, hr⟩
  · exact .inl h
  · exact .inr ⟨g, c, cur, hv, hb', (hp.keep g (blk_lt hg) (by omega)).trans hg, hr⟩
theorem infoI : (Tryz.prog.info? 120).map (fun i => (i.zero, i.size, i.bytes)) = some (some (.agg #[.string ⟨#[]⟩, .string ⟨#[]⟩]), 2, 32) := by kernel_rfl
theorem comT_no (l : List It) (ts : List Tok) (h : isT 4 [40] (hdTok ts) = false) : isT 4 [40] (hdTok (comT l ++ ts)) = false := by
  cases l with
  | nil => exact h
  | cons x l => rfl
theorem itT_len (x : It) : (itT x).length ≤ 4 := by
  obtain ⟨f, c⟩ := x
  cases f <;> simp [itT]
theorem comT_len : ∀ l : List It, (comT l).length ≤ 5 * l.length
  | [] => Nat.le_refl _
  | x :: l => by
    have h1 := itT_len x
    have h2 := comT_len l
    simp only [comT, List.length_cons, List.length_append]
    omega
theorem Past.grown {B : Nat} {w W W' : World} {v : Value} (h : Past B w W) (hg : W.grownBy W' v.ownBlock) (hb : ∀ k, v.ownBlock = some k → w.heap.size ≤ k) (hB : B ≤ w.heap.size) : Past B w W' :=
  ⟨h.low.trans ⟨hg.os, hg.tape, hg.output, hg.size, fun k hk => hg.block k (by have := h.low.size; omega) (fun e => by have := hb k e.symm; omega)⟩,
   fun b hlt hn => (hg.block b (by have := h.low.size; omega) (fun e => by have := hb b e.symm; omega)).trans (h.keep b hlt hn)⟩
theorem Rd.grown {B base : Nat} {W W' : World} {e : TypeId} {z n : Nat} {v : Value} {xs : List Value} {ts : List Tok} (h : Rd W B ts) (ho : W.ownsRow base e z v n xs) (he : e ≠ 164) (hB : B < base) (hg : W.grownBy W' v.ownBlock) : Rd W' B ts := by
  obtain ⟨g, o, c, h1, h2, h3, h4⟩ := h.it
  have hbk : ∀ k, k < W.heap.size → (∀ cs fr, W.heap[k]? = some (.cells cs e fr) → base ≤ k → False) → W'.heap[k]? = W.heap[k]? := fun k hk hne => hg.block k hk fun e1 => by
    rcases ho.2 with ⟨hv, _⟩ | ⟨g', cap, cur, hv, hb', hh, _⟩
    · rw [hv] at e1; cases e1
    · rw [hv] at e1
      injection e1 with e1
      subst e1
      exact hne cur _ hh hb'
  have kB := hbk B h.lt fun _ _ _ hle => by omega
  refine ⟨⟨g, o, c, ?_, h2, h3, h4.same (hbk g ?_ ?_)⟩, ?_⟩
  · rw [← h1]; unfold World.cell?; rw [kB]
  · obtain ⟨_, _, q, _⟩ := h4.head
    exact blk_lt q
  · intro cs fr hh _
    obtain ⟨_, _, q, _⟩ := h4.head
    rw [hh] at q
    injection q with q
    injection q with _ q
    exact he q
  · rw [← h.fro]; unfold World.frozen?; rw [kB]
def lenOf : Value → Nat
  | .slice _ n _ => n
  | _ => 0
set_option maxHeartbeats 4000000 in
set_option maxRecDepth 100000 in
theorem several_items (B : Nat) (x : It) (l : List It) (ts : List Tok) (w : World) (hr : Rd w B (itT x ++ (comT l ++ ts))) (hn : ts.length ≤ 200) (hl : l.length ≤ 40) (hx : ∀ y ∈ x :: l, ItOk y) (hno : isT 4 [40] (hdTok ts) = false) (hnk : isT 4 [44] (hdTok ts) = false) (hw : GB w) (hB : 10 ≤ B) :
    Calls Tryz.prog 64 #[.pointer (some ⟨B, 0, none⟩), .func (.func 65) #[.pointer (some ⟨B, 0, none⟩)] #[]] w fun e w' => ∃ a c, e = .returned (.slice a (l.length + 1) c) ∧ w'.ownsRow w.heap.size 120 2 (.slice a (l.length + 1) c) (l.length + 1) (((x :: l).map itB).flatMap encI) ∧ Rd w' B ts ∧ Past B w w' := by
  have HBL := mkH hr.lt
  have HI : Hid (∀ V y us, Past B w V → y ∈ x :: l → us.length ≤ 890 → isT 4 [40] (hdTok us) = false → Rd V B (itT y ++ us) → Calls Tryz.prog 65 #[.pointer (some ⟨B, 0, none⟩)] V fun e w' => e = .returned (.agg #[.string (itB y).1, .string (itB y).2]) ∧ Rd w' B us ∧ Past B V w') := mkH (fun V y us hp hy hu hno hV => item_any B y us V hV hu (hx y hy) hno (hw.past hB hp) hB)
  have HR := mkH hr
  have HCN := mkH (fun l => comT_no l ts hno)
  have hcl := comT_len l
  obtain ⟨iC, ic1, ic2, ic3, ic4⟩ := info_parts infoI
  have HIC := mkH (And.intro ic1 (And.intro ic2 (And.intro ic3 ic4)))
  clear hr hx hw ic1 ic2 ic3 ic4
  go_enter Tryz.func64, Tryz.ntmps64
  go_wp2_with fail
  with_reducible refine (HI.out w x (comT l ++ ts) (Past.refl _ _) (List.mem_cons_self ..) (by rw [List.length_append]; omega) (HCN.out l) HR.out).mono ?_
  rintro e w1 ⟨rfl, hr1, hp1⟩
  have hs1 : w.heap.size ≤ w1.heap.size := by
    have := hp1.low.size
    exact this
  have HO1 : Hid ((w1.alloc (.cells #[.string (itB x).1, .string (itB x).2] 120)).ownsRow w.heap.size 120 2 (.slice (some ⟨w1.heap.size, 0, none⟩) 1 1) 1 (((x :: l).take 1).flatMap fun y => encI (itB y))) := mkH (World.ownsRow_lit w1 #[.string (itB x).1, .string (itB x).2] 1 hs1 (by decide) rfl)
  have HR1 := mkH (hr1.alloc (.cells #[.string (itB x).1, .string (itB x).2] 120))
  have HP1 : Hid (Past B w (w1.alloc (.cells #[.string (itB x).1, .string (itB x).2] 120))) := mkH (hp1.trans (Past.of (by have := HBL.out; omega) ((Below.refl _ _).alloc (Nat.le_refl _) _)))
  clear hr1 hp1 HR
  go_wp2_with fail
  go_loopw [5] (fun vl wr => ∃ (k : Nat) (a : Option Addr) (c : Nat), vl = .slice a k c ∧ 1 ≤ k ∧ k ≤ (x :: l).length ∧ Hid (wr.ownsRow w.heap.size 120 2 (.slice a k c) k (((x :: l).take k).flatMap fun y => encI (itB y))) ∧ Hid (Rd wr B (comT ((x :: l).drop k) ++ ts)) ∧ Hid (Past B w wr)) (fun vl _ => (x :: l).length - lenOf vl)
  case atStart => exact ⟨1, _, _, rfl, Nat.le_refl _, by simp, HO1, HR1, HP1⟩
  case round =>
    clear HO1 HR1 HP1
    obtain ⟨k, a, c, rfl, hk1, hk, HO, HR, HP⟩ := hrel
    by_cases hlt : k < (x :: l).length
    · obtain ⟨y, hy⟩ : ∃ y, (x :: l)[k]? = some y := ⟨_, List.getElem?_eq_getElem hlt⟩
      have hdr : (x :: l).drop k = y :: (x :: l).drop (k + 1) := by
        rw [List.getElem?_eq_getElem hlt] at hy
        injection hy with hy
        rw [List.drop_eq_getElem_cons hlt, hy]
      have htk : (x :: l).take (k + 1) = (x :: l).take k ++ [y] := S.take_one_more hy
      have HM := mkH (List.mem_of_getElem? hy)
      obtain ⟨us, hus⟩ : ∃ us, (x :: l).drop (k + 1) = us := ⟨_, rfl⟩
      have hul : us.length ≤ 40 := by rw [← hus, List.length_drop]; simp; omega
      have hcu := comT_len us
      have HT : Hid (TkL B 4 ⟨#[44]⟩ true (tK :: (itT y ++ (comT us ++ ts))) (itT y ++ (comT us ++ ts))) := mkH (TkL.yes B 4 [44] _ tK _ rfl (by have := itT_len y; simp only [List.length_append]; omega) rfl)
      have HR' : Hid (Rd wr B (tK :: (itT y ++ (comT us ++ ts)))) := mkH (by have h := HR.out; rw [hdr, hus] at h; simpa [comT] using h)
      have HUS := mkH hus
      have HTK := mkH htk
      have hlen : ((comT us ++ ts)).length ≤ 890 := by rw [List.length_append]; omega
      clear hdr hy htk hus HR
      go_wp2_with fail
      with_reducible refine (HT.out _ HR'.out).mono ?_
      rintro e w2 ⟨rfl, hr2, hp2⟩
      have HP2 := mkH (HP.out.trans hp2)
      have HO2 := mkH (own_past HO.out HBL.out hp2)
      have HR2 := mkH hr2
      clear hr2 hp2 HR' HT HO HP
      go_wp2_with fail
      with_reducible refine (HI.out w2 y (comT us ++ ts) HP2.out HM.out hlen (HCN.out us) HR2.out).mono ?_
      rintro e w3 ⟨rfl, hr3, hp3⟩
      have HP3 := mkH (HP2.out.trans hp3)
      have HO3 := mkH (own_past HO2.out HBL.out hp3)
      have HR3 := mkH hr3
      have hs3 : w.heap.size ≤ w3.heap.size := HP3.out.low.size
      clear hr3 hp3 HR2 HP2 HO2
      have HA4 : Hid (Below w3.heap.size w3 (w3.alloc (.cells #[.string (itB y).1, .string (itB y).2] 120))) := mkH ((Below.refl _ _).alloc (Nat.le_refl _) _)
      have hBw := HBL.out
      go_wp2_with (first
        | (at_builtin; refine wpList_append_own _ rfl _ _ 44 rfl w.heap.size 120 iC (.agg #[.string ⟨#[]⟩, .string ⟨#[]⟩]) 2 32 Tryz.underlying44 HIC.out.1 HIC.out.2.1 HIC.out.2.2.1 HIC.out.2.2.2 rfl (by decide) (.slice a k c) k (((x :: l).take k).flatMap fun y => encI (itB y)) rfl (own_up HO3.out HA4.out) ⟨w3.heap.size, 0, none⟩ 1 1 [.string (itB y).1, .string (itB y).2] rfl rfl (fun j u hj => World.news_of_block (heap_alloc_new _ _) j u hj) (by intro u hu; simp at hu; rcases hu with rfl | rfl <;> rfl) (by simp at hk; unfold maxLen; omega) (by simp at hk; omega) (Nat.le_trans hs3 HA4.out.size) ?_
           intro v5 w5 hown5 hg5 _
           have HO5 := mkH hown5
           have HG5 := mkH hg5
           clear hown5 hg5))
      obtain ⟨a', c', rfl⟩ := own_sl HO5.out
      refine ⟨⟨k + 1, a', c', rfl, by omega, hlt, mkH ?_, mkH ?_, mkH ?_⟩, by simp only [lenOf]; omega⟩
      · rw [HTK.out, List.flatMap_append]
        exact HO5.out
      · rw [HUS.out]
        exact (HR3.out.alloc _).grown (own_up HO3.out HA4.out) (by decide) hBw HG5.out
      · exact (HP3.out.trans (Past.of (by omega) HA4.out)).grown HG5.out (fun j hj => own_blk HO3.out hj) (by omega)
    · have hke : k = (x :: l).length := by omega
      have HT : Hid (TkL B 4 ⟨#[44]⟩ false ts ts) := mkH (TkL.no B 4 [44] _ ts rfl (by omega) hnk)
      have HR' : Hid (Rd wr B ts) := mkH (by have h := HR.out; rw [hke, List.drop_length] at h; exact h)
      have HO' : Hid (wr.ownsRow w.heap.size 120 2 (.slice a (l.length + 1) c) (l.length + 1) (((x :: l).map itB).flatMap encI)) := mkH (by have h := HO.out; rw [hke, List.take_length] at h; rw [List.flatMap_map]; exact h)
      have hke' : k = l.length + 1 := by rw [hke]; rfl
      subst hke'
      clear hke hlt hk HR HO
      go_wp2_with fail
      with_reducible refine (HT.out _ HR'.out).mono ?_
      rintro e w2 ⟨rfl, hr2, hp2⟩
      have HP2 := mkH (HP.out.trans hp2)
      have HO2 := mkH (own_past HO'.out HBL.out hp2)
      have HR2 := mkH hr2
      clear hr2 hp2 HR' HT HO' HP
      go_wp2
      go_ret
      exact ⟨a, c, rfl, HO2.out, HR2.out, HP2.out⟩
end Go.Proofs.YtlnkbhbpkmnkaaaGreatDoor
