/- What a reader's needs, code and name do, said of every call. -/
import Derived.Test.YtfokdpddcgaafaaGreatDoorAI
namespace Go.Proofs.YtfokdpddcgaafaaGreatDoor
open Go.RowKit Go.Proofs Go.Lib Go.Proofs.YtfokdpddcgaafaaGreatDoor.Ask

def NdPost (B k : Nat) (x : List UInt8) (ts : List Tok) (w : World) (e : Ending) (w' : World) : Prop :=
  Past B w w' ∧ ((isT k x (hdTok ts) = true ∧ e = .returned (.tuple #[]) ∧ Rd w' B (ts.drop 1)) ∨ (isT k x (hdTok ts) = false ∧ Thrown e))
theorem Past.up {B : Nat} {w W V : World} (h : Past B w W) (hB : B ≤ W.heap.size) (hb : Below W.heap.size W V) : Past B w V := h.trans (Past.of hB hb)
theorem fld2 (a b c d : Value) (w : World) : (Instr.field 41 (.agg #[a, b, c, d]) 2).run Tryz.prog w = .ok c w := by kernel_rfl
set_option maxHeartbeats 4000000 in
set_option maxRecDepth 100000 in
theorem needs_any (B k : Nat) (x : List UInt8) (ts : List Tok) (w : World) (hr : Rd w B ts) (hn : ts.length ≤ 1000) :
    Calls Tryz.prog 29 #[.pointer (some ⟨B, 0, none⟩), .int .i64 (k : Int), .string (bA x)] w (NdPost B k x ts w) := by
  have HT := mkH (takes_any B k x ts w hr hn)
  have HK : Hid (∀ V, Rd V B ts → Calls Tryz.prog 14 #[.pointer (some ⟨B, 0, none⟩)] V fun e w' => (∃ p : Int, e = .returned (tokV (hdTok ts).kind (bA (hdTok ts).text) p (hdTok ts).code)) ∧ Below V.heap.size V w') := fun V h => token_rd B ts V h
  have HW := mkH throw_any
  clear hr hn
  unfold TkPost at HT
  unfold NdPost
  generalize isT k x (hdTok ts) = q at *
  generalize (hdTok ts).kind = tk at *
  generalize (hdTok ts).text = tt at *
  generalize (hdTok ts).code = tc at *
  cases q with
  | true =>
    go_enter Tryz.func29, Tryz.ntmps29
    go_wp2_with (first
      | (go_at_call 31; refine HT.out.mono ?_; rintro e w1 ⟨hp1, ⟨_, rfl, hr1⟩ | ⟨h, _⟩⟩))
    all_goals first
      | (go_end0; exact ⟨hp1, .inl ⟨trivial, rfl, hr1⟩⟩)
      | (exfalso; cases h)
  | false =>
    go_enter Tryz.func29, Tryz.ntmps29
    go_wp2_with fail
    refine HT.out.mono ?_
    rintro e w1 ⟨hp1, ⟨h, _⟩ | ⟨_, rfl, hr1⟩⟩
    · cases h
    go_wp2_with fail
    refine (HK.out _ hr1).mono ?_
    rintro e w2 ⟨⟨p, rfl⟩, hb2⟩
    unfold tokV
    have hfl := fld2
    go_wp2_with fail
    refine (HW.out _ _ _).mono ?_
    rintro e w3 ⟨⟨a, rfl⟩, hb3⟩
    have hB1 : B ≤ w1.heap.size := Nat.le_of_lt hr1.lt
    have hB2 : B ≤ w2.heap.size := Nat.le_trans hB1 hb2.size
    exact ⟨rfl, (hp1.up hB1 hb2).up hB2 hb3, .inr ⟨trivial, _, rfl⟩⟩
end Go.Proofs.YtfokdpddcgaafaaGreatDoor
