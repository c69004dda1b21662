/- A reader's one, all and cond together; tokens as they are appended. -/
import Derived.Test.YtfokdpddcgaafaaGreatDoorAV
import Derived.OwnWalk
namespace Go.Proofs.YtfokdpddcgaafaaGreatDoor
open Go.RowKit Go.Proofs Go.Lib Go.Proofs.YtfokdpddcgaafaaGreatDoor.Ask

theorem rd_all (B : Nat) (hB : 10 ≤ B) (n : Nat) : RdOk 52 .one B n ∧ RdOk 30 .all B n ∧ RdOk 15 .cond B n := by
  induction n using Nat.strongRecOn with
  | _ n ih =>
    have h1 := one_step B n hB (fun m hm => (ih m hm).1) (fun m hm => (ih m hm).2.2)
    have h2 := all_step B n hB h1
    exact ⟨h1, h2, cond_step B n hB h2⟩
section
variable {w W : World} {base : Nat} {e : TypeId} {z : Nat} {v : Value} {n : Nat} {xs : List Value}
theorem own_up (h : w.ownsRow base e z v n xs) (hb : Below w.heap.size w W) : W.ownsRow base e z v n xs := by
  refine ⟨h.1, ?_⟩
  rcases h.2 with h | ⟨g, c, cur, hv, hb', hg, hr⟩
  · exact .inl h
  · exact .inr ⟨g, c, cur, hv, hb', (hb.block g (blk_lt hg)).trans hg, hr⟩
theorem own_sl (h : w.ownsRow base e z v n xs) : ∃ a c, v = .slice a n c := by
  rcases h.2 with ⟨e1, e0⟩ | ⟨g, c, cur, e1, _⟩
  · exact ⟨none, 0, by rw [e1, e0]⟩
  · exact ⟨_, c, e1⟩
theorem own_blk (h : w.ownsRow base e z v n xs) {k : Nat} (hk : v.ownBlock = some k) : base ≤ k := by
  rcases h.2 with ⟨e1, _⟩ | ⟨g, c, cur, e1, hb, _⟩
  · rw [e1] at hk; cases hk
  · rw [e1] at hk; cases hk; exact hb
end
def encT (x : Tok × Int) : List Value := [.int .i64 (x.1.kind : Int), .string (bA x.1.text), .int .i64 x.2, .int .i64 (x.1.code : Int)]
def cellsT (l : List (Tok × Int)) : List Value := (l.map encT).flatten
theorem cellsT_snoc (l : List (Tok × Int)) (x : Tok × Int) : cellsT (l ++ [x]) = cellsT l ++ encT x := by simp [cellsT]
theorem cellsT_len (l : List (Tok × Int)) : (cellsT l).length = l.length * 4 := by
  induction l with
  | nil => rfl
  | cons x l ih => simp only [cellsT, List.map_cons, List.flatten_cons, List.length_append, List.length_cons] at *; rw [ih]; simp [encT]; omega
def zeroT : Value := .agg #[.int .i64 0, .string ⟨#[]⟩, .int .i64 0, .int .i64 0]
theorem infoT : (Tryz.prog.info? 41).map (fun i => (i.zero, i.size, i.bytes)) = some (some zeroT, 4, 40) := by kernel_rfl
theorem text_le {s : List UInt8} {t : Tok} {r : List UInt8} (h : first1 s = some (t, r)) : t.text.length ≤ s.length := by
  cases s with
  | nil => cases h
  | cons b s =>
    simp only [first1] at h
    have h1 := (List.takeWhile_sublist isWc (l := s)).length_le
    have h2 := (List.takeWhile_sublist isDg (l := s)).length_le
    have h3 := (List.takeWhile_sublist notQ (l := s)).length_le
    split at h
    · cases h; simp only [List.length_cons]; omega
    · split at h
      · cases h; simp only [List.length_cons]; omega
      · split at h
        · cases h; simp only [List.length_cons]; omega
        · split at h
          · cases h; simp only [List.length_cons]; omega
          · unfold markF at h
            split at h <;> first
              | (rename_i heq; rw [heq]; cases h; simp [tM])
              | cases h
theorem ext_drop (s : ByteArray) (n : Nat) : s.extract n s.size = bA (s.data.toList.drop n) := by
  rw [extract_eq, List.take_of_length_le (by rw [List.length_drop, ← size_eq]; exact Nat.le_refl _)]; rfl
/-- What lies in a row, as tokens lie. -/
theorem lies_row {W : World} {g : Nat} {cs : Array Value} (hk : W.heap[g]? = some (.cells cs 41)) : ∀ (l : List (Tok × Int)) (p : Int) (o : Nat), (cs.toList.drop o).take (l.length * 4 + 4) = cellsT (l ++ [(endT, p)]) → Lies W g o (l.map Prod.fst)
  | [], p, o, h => by
    have e : cellsT ([] ++ [(endT, p)]) = encT (endT, p) := by simp [cellsT]
    rw [e] at h
    have at' : ∀ j u, (encT (endT, p))[j]? = some u → cs[o + j]? = some u := fun j u hj => by
      rw [← h, List.getElem?_take] at hj
      split at hj
      · rw [List.getElem?_drop] at hj; rw [← Array.getElem?_toList]; exact hj
      · cases hj
    exact ⟨p, cs, hk, at' 0 _ rfl, at' 1 _ rfl, at' 2 _ rfl, at' 3 _ rfl⟩
  | x :: l, p, o, h => by
    have e : cellsT ((x :: l) ++ [(endT, p)]) = encT x ++ cellsT (l ++ [(endT, p)]) := by simp [cellsT]
    rw [e] at h
    have hx : (encT x).length = 4 := rfl
    have at' : ∀ j u, (encT x)[j]? = some u → cs[o + j]? = some u := fun j u hj => by
      have hj4 : j < 4 := by
        rcases Nat.lt_or_ge j 4 with h' | h'
        · exact h'
        · rw [List.getElem?_eq_none (by omega)] at hj; cases hj
      have hj2 : (encT x ++ cellsT (l ++ [(endT, p)]))[j]? = some u := by rw [List.getElem?_append_left (by omega)]; exact hj
      rw [← h, List.getElem?_take, if_pos (by simp only [List.length_cons]; omega), List.getElem?_drop] at hj2
      rw [← Array.getElem?_toList]; exact hj2
    refine ⟨⟨x.2, cs, hk, at' 0 _ rfl, at' 1 _ rfl, at' 2 _ rfl, at' 3 _ rfl⟩, lies_row hk l p (o + 4) ?_⟩
    have h2 := congrArg (List.drop 4) h
    rw [List.drop_left' hx, List.drop_take, List.drop_drop] at h2
    rw [← h2]
    simp only [List.length_cons]
    congr 1
    omega
end Go.Proofs.YtfokdpddcgaafaaGreatDoor
