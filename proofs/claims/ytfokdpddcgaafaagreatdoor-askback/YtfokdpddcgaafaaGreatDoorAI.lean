/- What a reader's takes does, said of every call. -/
import Derived.Test.YtfokdpddcgaafaaGreatDoorAH
namespace Go.Proofs.YtfokdpddcgaafaaGreatDoor
open Go.RowKit Go.Proofs Go.Lib Go.Proofs.YtfokdpddcgaafaaGreatDoor.Ask

/-- Nothing but the reader's one cell is changed. -/
structure Past (B : Nat) (w W : World) : Prop where
  low : Below B w W
  keep : ∀ b, b < w.heap.size → b ≠ B → W.heap[b]? = w.heap[b]?
theorem Past.refl (B : Nat) (w : World) : Past B w w := ⟨Below.refl _ _, fun _ _ _ => rfl⟩
theorem Past.trans {B : Nat} {w W V : World} (h : Past B w W) (h' : Past B W V) : Past B w V :=
  ⟨h.low.trans h'.low, fun b hb hn => (h'.keep b (Nat.lt_of_lt_of_le hb h.low.size) hn).trans (h.keep b hb hn)⟩
theorem Past.of {B : Nat} {w W : World} (hB : B ≤ w.heap.size) (h : Below w.heap.size w W) : Past B w W :=
  ⟨h.mono hB, fun b hb _ => h.block b hb⟩
theorem pass_past (B : Nat) (ts : List Tok) (w : World) (hr : Rd w B ts) (hn : ts.length ≤ 1000) :
    Calls Tryz.prog 53 #[.pointer (some ⟨B, 0, none⟩)] w fun e w' => e = .returned (.tuple #[]) ∧ Rd w' B (ts.drop 1) ∧ Past B w w' := by
  obtain ⟨g, o, c, h1, h2, h3, h4⟩ := hr.it
  cases ts with
  | nil =>
    refine (pass_end B g o c w h1).mono ?_
    rintro e w' ⟨rfl, rfl⟩
    exact ⟨rfl, hr, Past.refl _ _⟩
  | cons t ts =>
    refine (pass_on B g o ts.length c w h1 hr.fro (by simp at hn; omega) (by simpa using h2)).mono ?_
    rintro e w' ⟨rfl, rfl⟩
    exact ⟨rfl, Rd.on h1 hr.fro (by simpa using h2) h3 h4, Below.setCell (p := ⟨B, 0, none⟩) (Below.refl B w) (Nat.le_refl _) _, fun b _ hb => Below.heap_setCell w ⟨B, 0, none⟩ _ b hb⟩
theorem token_rd (B : Nat) (ts : List Tok) (w : World) (hr : Rd w B ts) :
    Calls Tryz.prog 14 #[.pointer (some ⟨B, 0, none⟩)] w fun e w' => (∃ p : Int, e = .returned (tokV (hdTok ts).kind (bA (hdTok ts).text) p (hdTok ts).code)) ∧ Below w.heap.size w w' := by
  obtain ⟨g, o, c, h1, _, _, h4⟩ := hr.it
  exact token_any B g o ts.length c ts w h1 h4
def TkPost (B k : Nat) (x : List UInt8) (ts : List Tok) (w : World) (e : Ending) (w' : World) : Prop :=
  Past B w w' ∧ ((isT k x (hdTok ts) = true ∧ e = .returned (.bool true) ∧ Rd w' B (ts.drop 1)) ∨ (isT k x (hdTok ts) = false ∧ e = .returned (.bool false) ∧ Rd w' B ts))
set_option maxHeartbeats 4000000 in
set_option maxRecDepth 100000 in
theorem takes_any (B k : Nat) (x : List UInt8) (ts : List Tok) (w : World) (hr : Rd w B ts) (hn : ts.length ≤ 1000) :
    Calls Tryz.prog 31 #[.pointer (some ⟨B, 0, none⟩), .int .i64 (k : Int), .string (bA x)] w (TkPost B k x ts w) := by
  have HT := mkH (token_rd B ts w hr)
  have HU : Hid (∀ V o, Below w.heap.size w V → Rd (V.alloc o) B ts ∧ Below w.heap.size w (V.alloc o)) := fun V o hb =>
    have hb' := hb.alloc hb.size o
    ⟨hr.up hb', hb'⟩
  have HP : Hid (∀ V, Rd V B ts → Calls Tryz.prog 53 #[.pointer (some ⟨B, 0, none⟩)] V fun e w' => e = .returned (.tuple #[]) ∧ Rd w' B (ts.drop 1) ∧ Past B V w') := fun V h => pass_past B ts V h hn
  have HB : Hid (B ≤ w.heap.size) := Nat.le_of_lt hr.lt
  have HI : Hid (isT k x (hdTok ts) = (decide ((hdTok ts).kind = k) && decide ((hdTok ts).text = x))) := rfl
  clear hr hn
  unfold TkPost
  generalize isT k x (hdTok ts) = q at *
  generalize (hdTok ts).kind = tk at *
  generalize (hdTok ts).text = tt at *
  generalize (hdTok ts).code = tc at *
  by_cases h1 : tk = k
  · subst h1
    by_cases h2 : tt = x
    · subst h2
      have hq : q = true := by rw [HI.out]; simp
      subst hq
      go_enter Tryz.func31, Tryz.ntmps31
      go_wp2_with (first
        | (go_at_call 14; refine HT.out.mono ?_; rintro e w1 ⟨⟨p, rfl⟩, hb1⟩; unfold tokV)
        | (go_at_call 53; refine (HP.out _ (HU.out _ _ hb1).1).mono ?_; rintro e w2 ⟨rfl, hr2, hp2⟩))
      all_goals go_ret
      exact ⟨(Past.of HB.out (HU.out _ _ hb1).2).trans hp2, .inl ⟨trivial, rfl, hr2⟩⟩
    · have hq : q = false := by rw [HI.out]; simp [h2]
      subst hq
      have h3 : ¬ ((bA tt).toList = (bA x).toList) := fun e => h2 (by rw [ByteArray.toList_eq, ByteArray.toList_eq, bA_toList, bA_toList] at e; exact e)
      have h4 : ((bA tt).toList == (bA x).toList) = false := by simpa using h3
      go_enter Tryz.func31, Tryz.ntmps31
      go_wp2_with (first
        | (go_at_call 14; refine HT.out.mono ?_; rintro e w1 ⟨⟨p, rfl⟩, hb1⟩; unfold tokV))
      all_goals go_ret
      exact ⟨Past.of HB.out (HU.out _ _ hb1).2, .inr ⟨trivial, rfl, (HU.out _ _ hb1).1⟩⟩
  · have hq : q = false := by rw [HI.out]; simp [h1]
    subst hq
    have h3 : ¬ ((tk : Int) = (k : Int)) := by omega
    go_enter Tryz.func31, Tryz.ntmps31
    go_wp2_with (first
      | (go_at_call 14; refine HT.out.mono ?_; rintro e w1 ⟨⟨p, rfl⟩, hb1⟩; unfold tokV))
    all_goals go_ret
    exact ⟨Past.of HB.out (HU.out _ _ hb1).2, .inr ⟨trivial, rfl, (HU.out _ _ hb1).1⟩⟩
end Go.Proofs.YtfokdpddcgaafaaGreatDoor
