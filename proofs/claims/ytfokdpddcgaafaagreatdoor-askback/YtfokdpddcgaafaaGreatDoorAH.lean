/- How tokens lie before a reader; what its methods token and pass do. -/
import Derived.Test.YtfokdpddcgaafaaGreatDoorAG
namespace Go.Proofs.YtfokdpddcgaafaaGreatDoor
open Go.RowKit Go.Proofs Go.Lib Go.Proofs.YtfokdpddcgaafaaGreatDoor.Ask

def endT : Tok := ⟨0, [], 0⟩
/-- A token lies in four cells of a block of tokens (where it stands in the text is whatever). -/
def TokC (W : World) (g o : Nat) (t : Tok) : Prop := ∃ (p : Int) (cs : Array Value), W.heap[g]? = some (.cells cs 41) ∧ cs[o]? = some (.int .i64 (t.kind : Int)) ∧ cs[o + 1]? = some (.string (bA t.text)) ∧ cs[o + 2]? = some (.int .i64 p) ∧ cs[o + 3]? = some (.int .i64 (t.code : Int))
theorem cellsAt {w : World} {b : Nat} {cs : Array Value} {t : TypeId} (h : w.heap[b]? = some (.cells cs t)) (i : Nat) : w.cell? ⟨b, i, none⟩ = cs[i]? := by
  simp [World.cell?, h]
theorem TokC.cells {W : World} {g o : Nat} {t : Tok} (h : TokC W g o t) : ∃ p : Int, W.cell? ⟨g, o, none⟩ = some (.int .i64 (t.kind : Int)) ∧ W.cell? ⟨g, o + 1, none⟩ = some (.string (bA t.text)) ∧ W.cell? ⟨g, o + 2, none⟩ = some (.int .i64 p) ∧ W.cell? ⟨g, o + 3, none⟩ = some (.int .i64 (t.code : Int)) := by
  obtain ⟨p, cs, hk, h0, h1, h2, h3⟩ := h
  exact ⟨p, (cellsAt hk _).trans h0, (cellsAt hk _).trans h1, (cellsAt hk _).trans h2, (cellsAt hk _).trans h3⟩
/-- Tokens lie side by side, and behind them that of the text's end. -/
def Lies (W : World) (g : Nat) : Nat → List Tok → Prop
  | o, [] => TokC W g o endT
  | o, t :: ts => TokC W g o t ∧ Lies W g (o + 4) ts
def hdTok : List Tok → Tok
  | [] => endT
  | t :: _ => t
theorem Lies.head {W : World} {g o : Nat} {ts : List Tok} (h : Lies W g o ts) : TokC W g o (hdTok ts) := by
  cases ts with
  | nil => exact h
  | cons t ts => exact h.1
theorem TokC.same {W V : World} {g o : Nat} {t : Tok} (h : TokC W g o t) (hb : V.heap[g]? = W.heap[g]?) : TokC V g o t := by
  obtain ⟨p, cs, hk, h0⟩ := h
  exact ⟨p, cs, hb.trans hk, h0⟩
theorem Lies.same {W V : World} {g : Nat} (hb : V.heap[g]? = W.heap[g]?) : ∀ {o : Nat} {ts : List Tok}, Lies W g o ts → Lies V g o ts
  | _, [], h => TokC.same h hb
  | _, _ :: _, h => ⟨h.1.same hb, Lies.same hb h.2⟩
set_option maxHeartbeats 2000000 in
set_option maxRecDepth 100000 in
theorem token_any (B g o n c : Nat) (ts : List Tok) (w : World) (hB : w.cell? ⟨B, 0, none⟩ = some (.slice (some ⟨g, o, none⟩) (n + 1) c)) (hl : Lies w g o ts) :
    Calls Tryz.prog 14 #[.pointer (some ⟨B, 0, none⟩)] w fun e w' => (∃ p : Int, e = .returned (tokV (hdTok ts).kind (bA (hdTok ts).text) p (hdTok ts).code)) ∧ Below w.heap.size w w' := by
  obtain ⟨p, h0, h1, h2, h3⟩ := hl.head.cells
  have hBl : B < w.heap.size := Lib.lt_of_cell hB
  have hgl : g < w.heap.size := Lib.lt_of_cell h0
  clear hl
  generalize (hdTok ts).kind = k at *
  generalize bA (hdTok ts).text = t at *
  generalize (hdTok ts).code = cd at *
  go_enter Tryz.func14, Tryz.ntmps14
  go_wp2
  exact bodyPost_ret (v := tokV k t p cd) (by simp [results, Tryz.results14, go_sem, tokV]) rfl ⟨⟨p, rfl⟩, (Below.refl _ _).alloc (Nat.le_refl _) _⟩
set_option maxHeartbeats 2000000 in
set_option maxRecDepth 100000 in
/-- At the end: nothing is gone past. -/
theorem pass_end (B g o c : Nat) (w : World) (hB : w.cell? ⟨B, 0, none⟩ = some (.slice (some ⟨g, o, none⟩) 1 c)) :
    Calls Tryz.prog 53 #[.pointer (some ⟨B, 0, none⟩)] w fun e w' => e = .returned (.tuple #[]) ∧ w' = w := by
  go_enter Tryz.func53, Tryz.ntmps53
  go_wp2
  go_end0
  exact ⟨rfl, rfl⟩
set_option maxHeartbeats 2000000 in
set_option maxRecDepth 100000 in
theorem pass_on (B g o n c : Nat) (w : World) (hB : w.cell? ⟨B, 0, none⟩ = some (.slice (some ⟨g, o, none⟩) (n + 2) c)) (hf : w.frozen? ⟨B, 0, none⟩ = false) (hn : n ≤ 1000) (hc : n + 2 ≤ c) :
    Calls Tryz.prog 53 #[.pointer (some ⟨B, 0, none⟩)] w fun e w' => e = .returned (.tuple #[]) ∧ w' = w.setCell ⟨B, 0, none⟩ (.slice (some ⟨g, o + 4, none⟩) (n + 1) (c - 1)) := by
  have c1 : (1 : Int) < ((n + 2 : Nat) : Int) := by omega
  have c2 : (1 : Int) ≤ ((n + 2 : Nat) : Int) := by omega
  go_enter Tryz.func53, Tryz.ntmps53
  go_wp2
  go_end0
  exact ⟨rfl, rfl⟩
/-- A reader, and what lies before it. -/
structure Rd (W : World) (B : Nat) (ts : List Tok) : Prop where
  it : ∃ g o c, W.cell? ⟨B, 0, none⟩ = some (.slice (some ⟨g, o, none⟩) (ts.length + 1) c) ∧ ts.length + 1 ≤ c ∧ g ≠ B ∧ Lies W g o ts
  fro : W.frozen? ⟨B, 0, none⟩ = false
theorem Rd.lt {W : World} {B : Nat} {ts : List Tok} (h : Rd W B ts) : B < W.heap.size := by
  obtain ⟨g, o, c, h1, _⟩ := h.it
  exact Lib.lt_of_cell h1
theorem Rd.up {W V : World} {B : Nat} {ts : List Tok} (h : Rd W B ts) (hb : Below W.heap.size W V) : Rd V B ts := by
  obtain ⟨g, o, c, h1, h2, h3, h4⟩ := h.it
  have hg : g < W.heap.size := by
    obtain ⟨p, q, _⟩ := h4.head.cells
    exact Lib.lt_of_cell q
  have hB := h.lt
  refine ⟨⟨g, o, c, (hb.cell (p := ⟨B, 0, none⟩) hB).trans h1, h2, h3, h4.same (hb.block g hg)⟩, ?_⟩
  have := h.fro
  simp only [World.frozen?] at this ⊢
  rw [hb.block _ hB]; exact this
theorem Rd.on {W : World} {B : Nat} {t : Tok} {ts : List Tok} {g o c : Nat} (h1 : W.cell? ⟨B, 0, none⟩ = some (.slice (some ⟨g, o, none⟩) (ts.length + 1 + 1) c)) (hf : W.frozen? ⟨B, 0, none⟩ = false) (h2 : ts.length + 1 + 1 ≤ c) (h3 : g ≠ B) (h4 : Lies W g o (t :: ts)) : Rd (W.setCell ⟨B, 0, none⟩ (.slice (some ⟨g, o + 4, none⟩) (ts.length + 1) (c - 1))) B ts where
  it := ⟨g, o + 4, c - 1, World.cell?_setCell_same' _ _ _ (by rw [h1]; rfl), by omega, h3, h4.2.same (Below.heap_setCell W ⟨B, 0, none⟩ _ g h3)⟩
  fro := by rw [World.frozen?_setCell]; exact hf
/-- pass: one token less, or at the end the same. -/
theorem pass_any (B : Nat) (ts : List Tok) (w : World) (hr : Rd w B ts) (hn : ts.length ≤ 1000) :
    Calls Tryz.prog 53 #[.pointer (some ⟨B, 0, none⟩)] w fun e w' => e = .returned (.tuple #[]) ∧ Rd w' B (ts.drop 1) ∧ Below B w w' := by
  obtain ⟨g, o, c, h1, h2, h3, h4⟩ := hr.it
  cases ts with
  | nil =>
    refine (pass_end B g o c w h1).mono ?_
    rintro e w' ⟨rfl, rfl⟩
    exact ⟨rfl, hr, Below.refl _ _⟩
  | cons t ts =>
    refine (pass_on B g o ts.length c w h1 hr.fro (by simp at hn; omega) (by simpa using h2)).mono ?_
    rintro e w' ⟨rfl, rfl⟩
    exact ⟨rfl, Rd.on h1 hr.fro (by simpa using h2) h3 h4, Below.setCell (p := ⟨B, 0, none⟩) (Below.refl B w) (Nat.le_refl _) _⟩
end Go.Proofs.YtfokdpddcgaafaaGreatDoor
