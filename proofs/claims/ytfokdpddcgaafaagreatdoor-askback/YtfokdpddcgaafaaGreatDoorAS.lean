/- What a reader's one does, said of every call. -/
import Derived.Test.YtfokdpddcgaafaaGreatDoorAR
namespace Go.Proofs.YtfokdpddcgaafaaGreatDoor
open Go.RowKit Go.Proofs Go.Lib Go.Proofs.YtfokdpddcgaafaaGreatDoor.Ask

def RPost (m : Md) (d B : Nat) (ts : List Tok) (w : World) (e : Ending) (w' : World) : Prop :=
  ∃ o, PR nmL rtL m d ts o ∧ Past B w w' ∧ ((o = none ∧ Thrown e) ∨ ∃ T r v, o = some (T, r) ∧ r <:+ ts ∧ e = .returned v ∧ S.InC w' (ctOf T) v ∧ Rd w' B r)
/-- A reader's function reads what it should, if there are no more tokens than so many. -/
def RdOk (f : Nat) (m : Md) (B n : Nat) : Prop := ∀ (d : Nat) (ts : List Tok) (w : World), d ≤ 7 → ts.length ≤ n → Rd w B ts → Ok ts → GB w → Calls Tryz.prog f #[.pointer (some ⟨B, 0, none⟩), .int .i64 (d : Int)] w (RPost m d B ts w)
theorem InC_ptr {w : World} : ∀ {T : Deep.BT S.Nd} {v : Value}, S.InC w T v → ∃ q, v = .pointer q
  | .nil, _, h => ⟨_, h⟩
  | .node _ _ ⟨_, _, _, _, _⟩ _ _, _, ⟨_, _, _, e, _⟩ => ⟨_, e⟩
theorem hd_cons {k : Nat} {x : List UInt8} {ts : List Tok} (hk : k ≠ 0) (h : isT k x (hdTok ts) = true) : ts = hdTok ts :: ts.drop 1 := by
  cases ts with
  | nil => simp [hdTok, endT, isT, hk.symm] at h
  | cons t ts => rfl
theorem hd_none {ts : List Tok} (h : (hdTok ts).kind = 0) (k : Nat) (x : List UInt8) (hk : k ≠ 0) : isT k x (hdTok ts) = false := by
  simp [isT, h, hk.symm]
set_option maxHeartbeats 4000000 in
set_option maxRecDepth 100000 in
theorem one_deepA (B d : Nat) (ts : List Tok) (w : World) (hd : d ≤ 7) (h6 : 6 < d) (hk : (hdTok ts).kind ≠ 0) (hr : Rd w B ts) :
    Calls Tryz.prog 52 #[.pointer (some ⟨B, 0, none⟩), .int .i64 (d : Int)] w (RPost .one d B ts w) := by
  have HT := mkH (token_rd B ts w hr)
  have HB := mkH hr.lt
  have HW := mkH throw_any
  have HP : Hid (PR nmL rtL .one d ts none) := .one_deep h6
  clear hr
  unfold RPost
  generalize (hdTok ts).kind = kd at *
  generalize bA (hdTok ts).text = tt at *
  generalize (hdTok ts).code = tc at *
  have c1 : (6 : Int) < (d : Int) := by omega
  have c2 : ((kd : Int) == 0) = false := by simpa using hk
  have c3 : ¬ ((kd : Int) = 0) := by omega
  go_enter Tryz.func52, Tryz.ntmps52
  go_wp2_with fail
  refine HT.out.mono ?_
  rintro e w1 ⟨⟨p, rfl⟩, hb1⟩
  unfold tokV
  go_wp2_with fail
  refine (HW.out _ _ _).mono ?_
  rintro e w2 ⟨⟨a, rfl⟩, hb2⟩
  have hb := hb1.alloc hb1.size
  refine ⟨rfl, none, HP.out, ?_, .inl ⟨rfl, a, rfl⟩⟩
  exact (Past.of (Nat.le_of_lt HB.out) (hb _)).up (Nat.le_trans (Nat.le_of_lt HB.out) (hb _).size) hb2
set_option maxHeartbeats 4000000 in
set_option maxRecDepth 100000 in
theorem one_deepB (B d : Nat) (ts : List Tok) (w : World) (hd : d ≤ 7) (h6 : 6 < d) (hk : (hdTok ts).kind = 0) (hr : Rd w B ts) (ho : Ok ts) (hg : GB w) (hB : 10 ≤ B) :
    Calls Tryz.prog 52 #[.pointer (some ⟨B, 0, none⟩), .int .i64 (d : Int)] w (RPost .one d B ts w) := by
  have HT := mkH (token_rd B ts w hr)
  have HB := mkH hr.lt
  have HP : Hid (PR nmL rtL .one d ts none) := .one_deep h6
  have HU : Hid (∀ V o, Below w.heap.size w V → Rd (V.alloc o) B ts ∧ Below w.heap.size w (V.alloc o)) := fun V o hb =>
    have hb' := hb.alloc hb.size o
    ⟨hr.up hb', hb'⟩
  have Q1 := mkH (hd_none hk 1 wNot (by decide))
  have Q2 := mkH (hd_none hk 4 [40] (by decide))
  have HL : Hid (leafP nmL rtL ts = none) := by show _ = _; rw [leafP_eq, if_neg (by omega)]
  have HO := mkH ho
  have HG := mkH hg
  have HNG := mkH hB
  have HK1 : Hid (∀ V, Rd V B ts → Calls Tryz.prog 31 #[.pointer (some ⟨B, 0, none⟩), .int .i64 1, .string ⟨#[110, 111, 116]⟩] V (TkPost B 1 wNot ts V)) := fun V h => takes_any B 1 wNot ts V h ho.len
  have HK2 : Hid (∀ V, Rd V B ts → Calls Tryz.prog 31 #[.pointer (some ⟨B, 0, none⟩), .int .i64 4, .string ⟨#[40]⟩] V (TkPost B 4 [40] ts V)) := fun V h => takes_any B 4 [40] ts V h ho.len
  clear hr ho hg hB
  unfold RPost
  unfold TkPost at HK1 HK2
  rw [Q1.out] at HK1
  rw [Q2.out] at HK2
  rw [hk] at HT
  generalize bA (hdTok ts).text = tt at *
  generalize (hdTok ts).code = tc at *
  have c1 : (6 : Int) < (d : Int) := by omega
  go_enter Tryz.func52, Tryz.ntmps52
  go_wp2_with fail
  refine HT.out.mono ?_
  rintro e w1 ⟨⟨p, rfl⟩, hb1⟩
  unfold tokV
  have HU1 := mkH (fun o => HU.out w1 o hb1)
  clear hb1
  go_wp2_with fail
  refine (HK1.out _ (HU1.out _).1).mono ?_
  rintro e w2 ⟨hp2, ⟨q, _⟩ | ⟨_, rfl, hr2⟩⟩
  · cases q
  have HP2 := mkH ((Past.of (Nat.le_of_lt HB.out) (HU1.out _).2).trans hp2)
  have HR2 := mkH hr2
  clear hp2 hr2
  go_wp2_with fail
  refine (HK2.out _ HR2.out).mono ?_
  rintro e w3 ⟨hp3, ⟨q, _⟩ | ⟨_, rfl, hr3⟩⟩
  · cases q
  have HP3 := mkH (HP2.out.trans hp3)
  have HR3 := mkH hr3
  clear hp3 hr3
  go_wp2_with fail
  refine (leaf_any B ts _ HR3.out HO.out (HG.out.past HNG.out HP3.out) HNG.out).mono ?_
  rintro e w4 ⟨hp4, ⟨_, a, rfl⟩ | ⟨T, r, v, q, _⟩⟩
  · exact ⟨rfl, none, HP.out, HP3.out.trans hp4, .inl ⟨rfl, a, rfl⟩⟩
  · rw [HL.out] at q; cases q
end Go.Proofs.YtfokdpddcgaafaaGreatDoor
