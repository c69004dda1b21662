/- What ask.Cond's closure does; and what catches what is thrown: said of every call. -/
import Derived.Test.YtfokdpddcgaafaaGreatDoorAX
import Derived.Defers
import Derived.Recover
namespace Go.Proofs.YtfokdpddcgaafaaGreatDoor
open Go.RowKit Go.Proofs Go.Lib Go.Proofs.YtfokdpddcgaafaaGreatDoor.Ask

theorem first_kind {s : List UInt8} {t : Tok} {r : List UInt8} (h : first1 s = some (t, r)) : t.kind ≠ 0 := by
  cases s with
  | nil => cases h
  | cons b s =>
    simp only [first1] at h
    split at h
    · cases h; simp
    · split at h
      · cases h; simp
      · split at h
        · cases h; simp
        · split at h
          · cases h; simp
          · unfold markF at h
            split at h <;> first
              | (cases h; simp [tM])
              | cases h
theorem ts_kinds {k : Nat} {s : List UInt8} {o : Option (List Tok)} (h : TS k s o) : ∀ l, o = some l → ∀ t ∈ l, t.kind ≠ 0 := by
  induction h with
  | fin _ => intro l e; cases e; simp
  | bad _ _ => intro l e; cases e
  | many _ _ => intro l e; cases e
  | @go k s t r o hf hk _ ih =>
    intro l e
    cases o with
    | none => cases e
    | some l' =>
      cases e
      intro u hu
      cases hu with
      | head _ => exact first_kind hf
      | tail _ h => exact ih _ rfl u h
theorem hd_zero {ts : List Tok} (h : ∀ t ∈ ts, t.kind ≠ 0) : (hdTok ts).kind = 0 ↔ ts = [] := by
  cases ts with
  | nil => simp [hdTok, endT]
  | cons t ts =>
    have := h t (List.mem_cons_self ..)
    simp [hdTok, this]
theorem hd_end {ts : List Tok} (h : ∀ t ∈ ts, t.kind ≠ 0) : isT 0 [] (hdTok ts) = true ↔ ts = [] := by
  cases ts with
  | nil => simp [hdTok, endT, isT]
  | cons t ts =>
    have := h t (List.mem_cons_self ..)
    simp [hdTok, isT, this]
def C1Post (B : Nat) (ts : List Tok) (w : World) (e : Ending) (w' : World) : Prop :=
  ((hdTok ts).kind = 0 ∧ e = .returned (.pointer none) ∧ Past B w w' ∧ Rd w' B ts) ∨ ((hdTok ts).kind ≠ 0 ∧ RPost .cond 0 B ts w e w')
set_option maxHeartbeats 4000000 in
set_option maxRecDepth 100000 in
theorem cond1_any (B : Nat) (ts : List Tok) (w : World) (hr : Rd w B ts) (ho : Ok ts) (hg : GB w) (hB : 10 ≤ B) :
    Calls Tryz.prog 13 #[.pointer (some ⟨B, 0, none⟩)] w (C1Post B ts w) := by
  have HT := mkH (token_rd B ts w hr)
  have HB := mkH hr.lt
  have HR := mkH hr
  have HC : Hid (∀ V, Rd V B ts → GB V → Calls Tryz.prog 15 #[.pointer (some ⟨B, 0, none⟩), .int .i64 0] V (RPost .cond 0 B ts V)) := fun V h h' => (rd_all B hB ts.length).2.2 0 ts V (by omega) (Nat.le_refl _) h ho h'
  have HG := mkH hg
  clear hr ho hg hB
  unfold C1Post
  generalize (hdTok ts).kind = kd at *
  generalize bA (hdTok ts).text = tt at *
  generalize (hdTok ts).code = tc at *
  have hfl : ∀ (a b c d : Value) (w : World), (Instr.field 41 (.agg #[a, b, c, d]) 0).run Tryz.prog w = .ok a w := fun a b c d w => by kernel_rfl
  by_cases h0 : kd = 0
  · subst h0
    go_enter Tryz.func13, Tryz.ntmps13
    go_wp2_with fail
    refine HT.out.mono ?_
    rintro e w1 ⟨⟨p, rfl⟩, hb1⟩
    unfold tokV
    go_wp2
    go_ret
    exact .inl ⟨trivial, rfl, Past.of (Nat.le_of_lt HB.out) hb1, HR.out.up hb1⟩
  · have c1 : ¬ ((kd : Int) = 0) := by omega
    have c2 : ((kd : Int) == 0) = false := by simpa using c1
    go_enter Tryz.func13, Tryz.ntmps13
    go_wp2_with fail
    refine HT.out.mono ?_
    rintro e w1 ⟨⟨p, rfl⟩, hb1⟩
    unfold tokV
    have HP1 := mkH (Past.of (Nat.le_of_lt HB.out) hb1)
    have HR1 := mkH (HR.out.up hb1)
    have HG1 := mkH (HG.out.below hb1)
    clear hb1
    go_wp2_with fail
    refine (HC.out _ HR1.out HG1.out).mono ?_
    rintro e w2 ⟨o, hpr, hp2, ⟨rfl, a, rfl⟩ | ⟨T, r, v, rfl, hs, rfl, hin, hr2⟩⟩
    · exact ⟨rfl, .inr ⟨h0, none, hpr, HP1.out.trans hp2, .inl ⟨rfl, a, rfl⟩⟩⟩
    have HX := mkH (And.intro hpr (And.intro (HP1.out.trans hp2) (And.intro hs (And.intro hin hr2))))
    clear hpr hp2 hs hin hr2
    go_wp2
    go_ret
    exact .inr ⟨h0, _, HX.out.1, HX.out.2.1, .inr ⟨T, r, _, rfl, HX.out.2.2.1, rfl, HX.out.2.2.2.1, HX.out.2.2.2.2⟩⟩
set_option maxHeartbeats 4000000 in
set_option maxRecDepth 100000 in
theorem catch_idle (p : Addr) (w : World) :
    CallsD Tryz.prog 27 #[.pointer (some p)] .returning w fun e u' w' => e = .returned (.tuple #[]) ∧ u' = .returning ∧ w' = w := by
  refine callsD_of_wpS Tryz.func27 rfl fun c₀ cs hu => ?_
  apply wpS_seq
  apply wpS_region
  simp [wpOpsS, go_sem, recoverD, hu, Tryz.ntmps27, Exit.thenS]
  refine wpS_of_wp ?_
  change Code.wp Tryz.prog _ _ { tmps := #[.pointer (some p), .nilIface, undef, undef, .nilIface, undef, undef, undef, undef, undef, undef, undef, undef, undef, undef, undef, undef], defers := [] } w
  go_wp2
  cases c₀
  simp_all [bodyPostS, results, Tryz.results27]
theorem at_assert (a : Addr) (w : World) : (Instr.typeAssert (.iface 54 (.pointer (some a))) 20 54 true).run Tryz.prog w = .ok (.tuple #[.pointer (some a), .bool true]) w := by kernel_rfl
set_option maxHeartbeats 4000000 in
set_option maxRecDepth 100000 in
theorem catch_thrown (p a : Addr) (x : Value) (w : World) (hc : w.cell? p = some x) (hz : w.frozen? p = false) :
    CallsD Tryz.prog 27 #[.pointer (some p)] (.panicking [{ v := .iface 54 (.pointer (some a)), recovered := false }]) w fun e u' w' => e = .returned (.tuple #[]) ∧ u' = .panicking [{ v := .iface 54 (.pointer (some a)), recovered := true }] ∧ w' = w.setCell p (.iface 54 (.pointer (some a))) := by
  refine callsD_of_wpS Tryz.func27 rfl fun c₀ cs hu => ?_
  apply wpS_seq
  apply wpS_region
  simp [wpOpsS, go_sem, recoverD, hu, Tryz.ntmps27, Exit.thenS]
  refine wpS_of_wp ?_
  change Code.wp Tryz.prog _ _ { tmps := #[.pointer (some p), .iface 54 (.pointer (some a)), undef, undef, .iface 54 (.pointer (some a)), undef, undef, undef, undef, undef, undef, undef, undef, undef, undef, undef, undef], defers := [] } w
  have hta := at_assert a
  go_wp2
  cases c₀
  simp_all [bodyPostS, results, Tryz.results27]
end Go.Proofs.YtfokdpddcgaafaaGreatDoor
