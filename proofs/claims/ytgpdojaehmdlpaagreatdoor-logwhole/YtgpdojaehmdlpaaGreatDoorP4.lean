/- What log.joined at numbers and log.column do, said of every call. -/
import Derived.Test.YtgpdojaehmdlpaaGreatDoorP3
import Derived.Lib.Join
namespace Go.Proofs.YtgpdojaehmdlpaaGreatDoor
open Go.RowKit Go.Proofs Go.Lib Go.Joins

def joinB (xs : List ByteArray) (sep : ByteArray) : ByteArray := ⟨(Lib.join (xs.map (·.data.toList)) sep.data.toList).toArray⟩
theorem infoStr : (Tryz.prog.info? 9).map (fun i => (i.zero, i.size, i.bytes)) = some (some (.string ⟨#[]⟩), 1, 16) := by kernel_rfl
theorem lens_le {b : Nat} : ∀ {xs : List ByteArray}, (∀ x ∈ xs, x.size ≤ b) → Lib.lens (xs.map (·.data.toList)) ≤ xs.length * b
  | [], _ => by simp [Lib.lens]
  | x :: xs, h => by
    have h1 := h x (List.mem_cons_self ..)
    have h2 := lens_le (fun y hy => h y (List.mem_cons_of_mem _ hy))
    have e : x.data.toList.length = x.size := by simp
    have e2 : Lib.lens ((x :: xs).map (·.data.toList)) = x.data.toList.length + Lib.lens (xs.map (·.data.toList)) := by simp [Lib.lens]
    rw [e2, e, List.length_cons, Nat.succ_mul]
    omega
theorem joinB_size {b : Nat} {xs : List ByteArray} {sep : ByteArray} (h : ∀ x ∈ xs, x.size ≤ b) : (joinB xs sep).size ≤ xs.length * (b + sep.size) := by
  have e : (joinB xs sep).size = (Lib.join (xs.map (·.data.toList)) sep.data.toList).length := by simp [joinB, ByteArray.size]
  rw [e]
  cases xs with
  | nil => simp [Lib.join_nil]
  | cons x xs =>
    have h2 := lens_le h
    rw [List.map_cons, Lib.join_length]
    rw [List.map_cons] at h2
    have e1 : sep.data.toList.length = sep.size := by simp
    rw [e1, List.length_map, List.length_cons, Nat.mul_add]
    rw [List.length_cons] at h2
    have : sep.size * xs.length ≤ (xs.length + 1) * sep.size := by rw [Nat.mul_comm]; exact Nat.mul_le_mul_right _ (Nat.le_succ _)
    omega

theorem join_own (base : Nat) (v : Value) (xs : List ByteArray) (sep : ByteArray) (w : World) (h : w.ownsRow base 9 1 v xs.length (xs.map (.string ·))) (hn : xs.length ≤ 1000) (hl : (joinB xs sep).size ≤ 100000000) :
    Calls Tryz.prog 98 #[v, .string sep] w fun e w' => e = .returned (.string (joinB xs sep)) ∧ Below w.heap.size w w' := by
  rcases own_forms h with ⟨e1, e0⟩ | ⟨g, c, e1, _, hg, hc1, hc2⟩
  · subst e1
    have : xs = [] := List.length_eq_zero_iff.1 e0
    subst this
    exact (Tryz.strings_Join_none none 0 sep w).mono fun _ _ ⟨he, hw⟩ => ⟨he, hw ▸ Below.refl _ _⟩
  · subst e1
    refine Tryz.strings_Join g 0 c xs sep w (fun j x hj => ?_) hg (by omega) hc1 ?_
    · have hjl : j < xs.length := by
        rcases Nat.lt_or_ge j xs.length with hh | hh
        · exact hh
        · rw [List.getElem?_eq_none hh] at hj; cases hj
      rw [Nat.zero_add, h.cellAt j (by omega), List.getElem?_map, hj]; rfl
    · have : (joinB xs sep).size = (Lib.join (xs.map (·.data.toList)) sep.data.toList).length := by simp [joinB, ByteArray.size]
      omega

set_option maxHeartbeats 1000000 in
set_option maxRecDepth 100000 in
theorem joinedI_any (v : Value) (l : List Int) (sep : ByteArray) (w : World) (h : LiI w v l) (hl : l.length ≤ 100) (hn : ∀ x ∈ l, I64 x) (hs : sep.size ≤ 1) (ht : TabB w) :
    Calls Tryz.prog 62 #[v, .string sep, .func (.func 48) #[] #[]] w fun e w' => e = .returned (.string (joinB (l.map itoaB) sep)) ∧ Below w.heap.size w w' := by
  have e48 : ∀ args w, (callFunc 48 args).run Tryz.prog w = .ok (.enter 48 args) w := enters_of Tryz.func48 (by kernel_rfl) rfl
  have HJ : Hid (∀ (W : World) (tv : Value), W.ownsRow w.heap.size 9 1 tv l.length ((l.map itoaB).map (.string ·)) → Calls Tryz.prog 98 #[tv, .string sep] W fun e w' => e = .returned (.string (joinB (l.map itoaB) sep)) ∧ Below W.heap.size W w') := fun W tv hW => join_own _ tv (l.map itoaB) sep W (by rw [List.length_map]; exact hW) (by simp; omega) (by
      have := joinB_size (b := 21) (xs := l.map itoaB) (sep := sep) (by intro x hx; obtain ⟨y, hy, rfl⟩ := List.mem_map.1 hx; exact itoaB_size (hn y hy))
      rw [List.length_map] at this
      have h2 : l.length * (21 + sep.size) ≤ 100 * 22 := Nat.mul_le_mul hl (by omega)
      omega)
  have HIT : Hid (∀ j, j < l.length → ∀ W, Below w.heap.size w W → Calls Tryz.prog 48 #[.int .i64 l[j]!] W fun e w' => e = .returned (.string (itoaB l[j]!)) ∧ Below W.heap.size W w') := fun j hj W hW => itoa_any _ W (hn _ (by rw [getElem!_pos l j hj]; exact List.getElem_mem hj)) (ht.below hW)
  have hlen : (∃ a c, v = .slice a 0 c) ∧ l = [] ∨ ∃ g o c, v = .slice (some ⟨g, o, none⟩) l.length c ∧ g < w.heap.size ∧ ∀ j, j < l.length → w.cell? ⟨g, o + j, none⟩ = some (.int .i64 l[j]!) := by
    rcases h with h | ⟨g, o, c, h1, h2, _, h4⟩
    · exact .inl h
    · exact .inr ⟨g, o, c, h1, h2, h4⟩
  obtain ⟨iT, hiT, hzT, hz1T, hz2T⟩ := info_parts infoStr
  have HIT2 := mkH (And.intro hiT (And.intro hzT (And.intro hz1T hz2T)))
  have HTK : Hid (∀ k, k < l.length → ((l.take (k + 1)).map itoaB).map (Value.string ·) = ((l.take k).map itoaB).map (Value.string ·) ++ [.string (itoaB l[k]!)]) := fun k hk => by
    rw [List.take_add_one, List.getElem?_eq_getElem hk, getElem!_pos l k hk, List.map_append, List.map_append]; rfl
  have HAL : Hid (∀ (W : World) (tv : Value), W.ownsRow w.heap.size 9 1 tv l.length (((l.take l.length).map itoaB).map (Value.string ·)) → W.ownsRow w.heap.size 9 1 tv l.length ((l.map itoaB).map (.string ·))) := fun W tv hW => by rwa [List.take_length] at hW
  clear h hn ht hiT hzT hz1T hz2T
  generalize joinB (l.map itoaB) sep = res at *
  rcases hlen with ⟨⟨_, _, rfl⟩, rfl⟩ | ⟨g, o, c, rfl, hg, hc⟩
  · have HJ0 : Hid (Calls Tryz.prog 98 #[.slice none 0 0, .string sep] w fun e w' => e = .returned (.string res) ∧ Below w.heap.size w w') := mkH (HJ.out w (.slice none 0 0) (World.ownsRow_nil w w.heap.size 9 1))
    clear HJ HIT HTK HAL
    go_enter Tryz.func62, Tryz.ntmps62
    go_wp2
    go_loopw [7, 12] (fun tv vi wr => tv = .slice none 0 0 ∧ vi = .int .i64 0 ∧ wr = w) (fun _ _ _ => 0)
    case atStart => exact ⟨rfl, rfl, rfl⟩
    case round =>
      obtain ⟨rfl, rfl, rfl⟩ := hrel
      go_wp2_with (go_at_call 98; refine HJ0.out.mono ?_; rintro e w1 ⟨rfl, hb1⟩)
      go_ret
      exact ⟨rfl, hb1⟩
  · have HC := mkH hc
    clear hc
    go_enter Tryz.func62, Tryz.ntmps62
    go_wp2
    go_loopw [7, 12] (fun tv vi wr => ∃ k : Nat, k ≤ l.length ∧ vi = .int .i64 k ∧ Hid (wr.ownsRow w.heap.size 9 1 tv k (((l.take k).map itoaB).map (.string ·))) ∧ Hid (Below w.heap.size w wr)) (fun _ vi _ => l.length - (intOf vi).toNat)
    case atStart => exact ⟨0, Nat.zero_le _, rfl, mkH (World.ownsRow_nil _ _ _ _), mkH (Below.refl _ _)⟩
    case round =>
      obtain ⟨k, hk, rfl, RO, BW⟩ := hrel
      obtain ⟨ta, tc, rfl, _⟩ := own_slice RO.out
      by_cases hlt : k < l.length
      · have hltz : (k : Int) < (l.length : Int) := by omega
        have hcell := (BW.out.cell (p := ⟨g, o + k, none⟩) hg).trans (HC.out k hlt)
        have HI := mkH (HIT.out k hlt)
        have HTN := mkH (HTK.out k hlt)
        generalize l[k]! = x at hcell HI HTN
        generalize itoaB x = ix at HI HTN
        go_wp2_with (first
          | (go_at_fn 48; refine (HI.out _ BW.out).mono ?_; rintro e w1 ⟨rfl, hb1⟩; have hs1 := hb1.size; have hsw := BW.out.size)
          | (at_builtin; refine wpList_append_own _ rfl _ _ 154 rfl w.heap.size 9 iT (.string ⟨#[]⟩) 1 16 Tryz.underlying154 HIT2.out.1 HIT2.out.2.1 HIT2.out.2.2.1 HIT2.out.2.2.2 rfl (by decide) _ _ _ rfl ((own_up RO.out hb1).alloc _) ⟨w1.heap.size, 0, none⟩ 1 1 [.string ix] rfl rfl (fun j u hj => World.news_of_block (heap_alloc_new _ _) j u hj) (by intro u hu; simp at hu; subst hu; rfl) ?d3 ?d4 ?d5 ?_))
        case d3 => unfold maxLen; omega
        case d4 => omega
        case d5 => simp; omega
        intro v2 w2 ho2 hg2 _
        have hb2 : Below w.heap.size w w2 := ((BW.out.trans (hb1.mono hsw)).alloc (by omega) _).grown hg2 (by simp; omega) (fun j hj => (RO.out.lt j hj).1)
        obtain ⟨va, vc, rfl, _⟩ := own_slice ho2
        go_wp2
        exact ⟨⟨k + 1, by omega, by go_num, mkH (by rw [HTN.out]; simpa using ho2), mkH hb2⟩, by simp [intOf]; omega⟩
      · have hkl : k = l.length := by omega
        subst hkl
        have HJ2 := mkH (HJ.out _ _ (HAL.out _ _ RO.out))
        go_wp2_with (go_at_call 98; refine HJ2.out.mono ?_; rintro e w1 ⟨rfl, hb1⟩)
        go_ret
        exact ⟨rfl, Below.ups BW.out hb1⟩
end Go.Proofs.YtgpdojaehmdlpaaGreatDoor
