/- Conditions that were read, as trees that lie in memory; what a leaf comes to, by the token that is looked at. -/
import Derived.Test.YtfokdpddcgaafaaGreatDoorAP
import Derived.Test.YtfokdpddcgaafaaGreatDoorSP
namespace Go.Proofs.YtfokdpddcgaafaaGreatDoor
open Go.RowKit Go.Proofs Go.Lib Go.Proofs.YtfokdpddcgaafaaGreatDoor.Ask

def vk : Vl → Int
  | .null => 0
  | .num _ => 1
  | .text _ => 2
def vn : Vl → Int
  | .num n => n
  | _ => 0
def vtx : Vl → ByteArray
  | .text l => bA l
  | _ => ⟨#[]⟩
theorem vlV_eq (v : Vl) : vlV v = valV (vk v) (vn v) (vtx v) := by cases v <;> rfl
def ndV (c : Int) (col : ByteArray) (v : Vl) : S.Nd := ⟨c, col, vk v, vn v, vtx v⟩
/-- A condition, as a tree of the library's. -/
def ctOf : Tr → Deep.BT S.Nd
  | .cmp c col v => .node 0 0 (ndV c (bA col) v) .nil .nil
  | .isn b col => .node 0 0 (ndV (if b then 8 else 7) (bA col) .null) .nil .nil
  | .no x => .node 0 0 (ndV 11 ⟨#[]⟩ .null) (ctOf x) .nil
  | .bi b x y => .node 0 0 (ndV (if b then 10 else 9) ⟨#[]⟩ .null) (ctOf x) (ctOf y)
def oCnd (c : Int) (col : ByteArray) (k n : Int) (t : ByteArray) (pl pr : Value) : Obj := .cells #[.int .i64 c, .string col, .int .i64 k, .int .i64 n, .string t, pl, pr] 63
theorem InC_node {w : World} {b : Nat} {c : Int} {col : ByteArray} {k n : Int} {t : ByteArray} {l r : Deep.BT S.Nd} {pl pr : Value} (hk : w.heap[b]? = some (oCnd c col k n t pl pr)) (hc : 1 ≤ c ∧ c ≤ 11) (hl : S.InC w l pl) (hr : S.InC w r pr) : S.InC w (.node 0 0 ⟨c, col, k, n, t⟩ l r) (.pointer (some ⟨b, 0, none⟩)) :=
  ⟨b, pl, pr, rfl, hk, hc, hl, hr⟩
/-- What lies elsewhere than a reader lies on. -/
theorem InC_past {B : Nat} {w W : World} {ts : List Tok} (hr : Rd w B ts) (hp : Past B w W) : ∀ {T : Deep.BT S.Nd} {v : Value}, S.InC w T v → S.InC W T v
  | .nil, _, h => h
  | .node _ _ ⟨_, _, _, _, _⟩ _ _, _, ⟨b, pl, pr, e, hh, hcd, hl, hr'⟩ => ⟨b, pl, pr, e, by
      have hb : b ≠ B := by
        intro e
        subst e
        obtain ⟨g, o, c, h1, _⟩ := hr.it
        rw [cellsAt hh] at h1
        simp at h1
      exact (hp.keep b (blk_lt hh) hb).trans hh, hcd, InC_past hr hp hl, InC_past hr hp hr'⟩
/-- What may be read: not too many tokens, none too long, marks that are some. -/
structure Ok (ts : List Tok) : Prop where
  len : ts.length ≤ 1000
  each : ∀ t ∈ ts, t.text.length ≤ 1000000 ∧ t.code ≤ 6
theorem Ok.suffix {ts r : List Tok} (h : Ok ts) (hs : r <:+ ts) : Ok r :=
  ⟨Nat.le_trans hs.length_le h.len, fun t ht => h.each t (hs.subset ht)⟩
theorem Ok.hd {ts : List Tok} (h : Ok ts) : (hdTok ts).text.length ≤ 1000000 ∧ (hdTok ts).code ≤ 6 := by
  cases ts with
  | nil => simp [hdTok, endT]
  | cons t ts => exact h.each t (List.mem_cons_self ..)
theorem hdT_eq (k : Nat) (w : List UInt8) (ts : List Tok) (hk : k ≠ 0) : hdT k w ts = isT k w (hdTok ts) := by
  cases ts with
  | nil => simp [hdT, hdTok, endT, isT, hk.symm]
  | cons t ts => rfl
theorem needNull_eq (x : Tr) (ts : List Tok) : needNull x ts = if isT 1 wNull (hdTok ts) = true then some (x, ts.drop 1) else none := by
  cases ts <;> rfl
theorem valP_eq (k : Vl → Tr) (ts : List Tok) : valP rtL k ts = (vlOf (hdTok ts)).map fun v => (k v, ts.drop 1) := by
  cases ts with
  | nil => rfl
  | cons t ts =>
    show valP rtL k (t :: ts) = (vlOf t).map fun v => (k v, ts)
    unfold valP vlOf
    dsimp only
    by_cases h1 : isT 1 wNull t = true
    · rw [if_pos h1, if_pos h1]; rfl
    · rw [if_neg h1, if_neg h1]
      by_cases h2 : t.kind = 3
      · rw [if_pos h2, if_pos h2]
        by_cases h3 : rtL t.text = true
        · rw [if_pos h3, if_pos h3]; rfl
        · rw [if_neg h3, if_neg h3]; rfl
      · rw [if_neg h2, if_neg h2]
        by_cases h3 : t.kind = 2
        · rw [if_pos h3, if_pos h3]; cases numT t.text <;> rfl
        · rw [if_neg h3, if_neg h3]; rfl
theorem leaf3_eq (col : List UInt8) (ts : List Tok) : leaf3 col ts = if isT 1 wNot (hdTok ts) = true then needNull (.isn true col) (ts.drop 1) else needNull (.isn false col) ts := by
  cases ts <;> rfl
theorem leaf2_eq (col : List UInt8) (ts : List Tok) : leaf2 rtL col ts = if isT 1 wIs (hdTok ts) = true then leaf3 col (ts.drop 1) else if (hdTok ts).code ≠ 0 then valP rtL (.cmp (hdTok ts).code col) (ts.drop 1) else none := by
  cases ts <;> rfl
theorem leafP_eq (ts : List Tok) : leafP nmL rtL ts = if (hdTok ts).kind = 1 ∧ nmL (hdTok ts).text = true then leaf2 rtL (hdTok ts).text (ts.drop 1) else none := by
  cases ts with
  | nil => simp [leafP, hdTok, endT]
  | cons t ts => rfl
/-- The packages' variables that readers look at. -/
def GB (w : World) : Prop := NnB w ∧ ErrB w
theorem same_cell {w W : World} {b : Nat} (h : W.heap[b]? = w.heap[b]?) (i : Nat) : W.cell? ⟨b, i, none⟩ = w.cell? ⟨b, i, none⟩ := by
  simp [World.cell?, h]
theorem GB.same {w W : World} (h : GB w) (hb : ∀ b, b < 10 → b < w.heap.size → W.heap[b]? = w.heap[b]?) : GB W := by
  obtain ⟨n, ⟨t1, p1, e1⟩, t2, p2, e2⟩ := h
  have hn := hb 5 (by decide) n.lt
  have h1 := hb 8 (by decide) (cell_lt e1)
  have h2 := hb 9 (by decide) (cell_lt e2)
  exact ⟨⟨(same_cell hn 0).trans n.c0, (same_cell hn 1).trans n.c1, (same_cell hn 2).trans n.c2, (same_cell hn 3).trans n.c3, (same_cell hn 4).trans n.c4, (same_cell hn 5).trans n.c5, (same_cell hn 6).trans n.c6, (same_cell hn 7).trans n.c7, (same_cell hn 8).trans n.c8, (same_cell hn 9).trans n.c9, (same_cell hn 10).trans n.c10⟩, ⟨t1, p1, (same_cell h1 0).trans e1⟩, t2, p2, (same_cell h2 0).trans e2⟩
theorem GB.past {B : Nat} {w W : World} (h : GB w) (hB : 10 ≤ B) (hp : Past B w W) : GB W := h.same fun b h1 h2 => hp.keep b h2 (by omega)
theorem GB.below {w W : World} (h : GB w) (hb : Below w.heap.size w W) : GB W := h.same fun b _ h2 => hb.block b h2
end Go.Proofs.YtfokdpddcgaafaaGreatDoor
