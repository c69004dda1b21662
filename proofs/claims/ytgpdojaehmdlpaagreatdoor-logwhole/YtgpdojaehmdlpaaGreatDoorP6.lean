/- What log.joined at columns does, said of every call. -/
import Derived.Test.YtgpdojaehmdlpaaGreatDoorP5
namespace Go.Proofs.YtgpdojaehmdlpaaGreatDoor
open Go.RowKit Go.Proofs Go.Lib Go.Joins

/-- A column whose numbers and texts are not too great to be written. -/
structure ColOk (c : Col) : Prop where
  id : I64 c.1
  name : c.2.1.size ≤ 100
  kind : I64 c.2.2.1
  num : I64 c.2.2.2.2.2.1
  text : c.2.2.2.2.2.2.size ≤ 100
theorem ColOk.size {c : Col} (h : ColOk c) : (columnB c).size ≤ 600 := columnB_size h.id h.name h.kind h.num h.text
theorem column_col (c : Col) (w : World) (h : ColOk c) (ht : TabB w) : Calls Tryz.prog 64 #[.agg (encC c).toArray] w fun e w' => e = .returned (.string (columnB c)) ∧ Below w.heap.size w w' :=
  column_any c.1 c.2.1 c.2.2.1 c.2.2.2.1 c.2.2.2.2.1 c.2.2.2.2.2.1 c.2.2.2.2.2.2 w h.id h.kind h.num h.name h.text ht

set_option maxHeartbeats 1000000 in
set_option maxRecDepth 100000 in
theorem joinedC_any (v : Value) (l : List Col) (sep : ByteArray) (w : World) (h : LiC w v l) (hl : l.length ≤ 100) (hn : ∀ x ∈ l, ColOk x) (hs : sep.size ≤ 1) (ht : TabB w) :
    Calls Tryz.prog 63 #[v, .string sep, .func (.func 64) #[] #[]] w fun e w' => e = .returned (.string (joinB (l.map columnB) sep)) ∧ Below w.heap.size w w' := by
  have e48 : ∀ args w, (callFunc 64 args).run Tryz.prog w = .ok (.enter 64 args) w := enters_of Tryz.func64 (by kernel_rfl) rfl
  have HJ : Hid (∀ (W : World) (tv : Value), W.ownsRow w.heap.size 9 1 tv l.length ((l.map columnB).map (.string ·)) → Calls Tryz.prog 98 #[tv, .string sep] W fun e w' => e = .returned (.string (joinB (l.map columnB) sep)) ∧ Below W.heap.size W w') := fun W tv hW => join_own _ tv (l.map columnB) sep W (by rw [List.length_map]; exact hW) (by simp; omega) (by
      have := joinB_size (b := 600) (xs := l.map columnB) (sep := sep) (by intro x hx; obtain ⟨y, hy, rfl⟩ := List.mem_map.1 hx; exact (hn y hy).size)
      rw [List.length_map] at this
      have h2 : l.length * (600 + sep.size) ≤ 100 * 601 := Nat.mul_le_mul hl (by omega)
      omega)
  have HIT : Hid (∀ j, j < l.length → ∀ W, Below w.heap.size w W → Calls Tryz.prog 64 #[.agg (encC l[j]!).toArray] W fun e w' => e = .returned (.string (columnB l[j]!)) ∧ Below W.heap.size W w') := fun j hj W hW => column_col _ W (hn _ (by rw [getElem!_pos l j hj]; exact List.getElem_mem hj)) (ht.below hW)
  have hlen : (∃ a c, v = .slice a 0 c) ∧ l = [] ∨ ∃ g o c, v = .slice (some ⟨g, o, none⟩) l.length c ∧ SlC w g o l := by
    rcases h with h | ⟨g, o, c, h1, _, h4⟩
    · exact .inl h
    · exact .inr ⟨g, o, c, h1, h4⟩
  obtain ⟨iT, hiT, hzT, hz1T, hz2T⟩ := info_parts infoStr
  have HIT2 := mkH (And.intro hiT (And.intro hzT (And.intro hz1T hz2T)))
  have HTK : Hid (∀ k, k < l.length → ((l.take (k + 1)).map columnB).map (Value.string ·) = ((l.take k).map columnB).map (Value.string ·) ++ [.string (columnB l[k]!)]) := fun k hk => by
    rw [List.take_add_one, List.getElem?_eq_getElem hk, getElem!_pos l k hk, List.map_append, List.map_append]; rfl
  have HAL : Hid (∀ (W : World) (tv : Value), W.ownsRow w.heap.size 9 1 tv l.length (((l.take l.length).map columnB).map (Value.string ·)) → W.ownsRow w.heap.size 9 1 tv l.length ((l.map columnB).map (.string ·))) := fun W tv hW => by rwa [List.take_length] at hW
  clear h hn ht hiT hzT hz1T hz2T
  generalize joinB (l.map columnB) sep = res at *
  rcases hlen with ⟨⟨_, _, rfl⟩, rfl⟩ | ⟨g, o, c, rfl, hc⟩
  · have HJ0 : Hid (Calls Tryz.prog 98 #[.slice none 0 0, .string sep] w fun e w' => e = .returned (.string res) ∧ Below w.heap.size w w') := mkH (HJ.out w (.slice none 0 0) (World.ownsRow_nil w w.heap.size 9 1))
    clear HJ HIT HTK HAL
    go_enter Tryz.func63, Tryz.ntmps63
    go_wp2
    go_loopw [7, 12] (fun tv vi wr => tv = .slice none 0 0 ∧ vi = .int .i64 0 ∧ wr = w) (fun _ _ _ => 0)
    case atStart => exact ⟨rfl, rfl, rfl⟩
    case round =>
      obtain ⟨rfl, rfl, rfl⟩ := hrel
      go_wp2_with (go_at_call 98; refine HJ0.out.mono ?_; rintro e w1 ⟨rfl, hb1⟩)
      go_ret
      exact ⟨rfl, hb1⟩
  · have HC := mkH hc
    clear hc
    go_enter Tryz.func63, Tryz.ntmps63
    go_wp2
    go_loopw [7, 12] (fun tv vi wr => ∃ k : Nat, k ≤ l.length ∧ vi = .int .i64 k ∧ Hid (wr.ownsRow w.heap.size 9 1 tv k (((l.take k).map columnB).map (.string ·))) ∧ Hid (Below w.heap.size w wr)) (fun _ vi _ => l.length - (intOf vi).toNat)
    case atStart => exact ⟨0, Nat.zero_le _, rfl, mkH (World.ownsRow_nil _ _ _ _), mkH (Below.refl _ _)⟩
    case round =>
      obtain ⟨k, hk, rfl, RO, BW⟩ := hrel
      obtain ⟨ta, tc, rfl, _⟩ := own_slice RO.out
      by_cases hlt : k < l.length
      · have hltz : (k : Int) < (l.length : Int) := by omega
        obtain ⟨⟨x1, x2, x3, x4, x5, x6, x7⟩, hx⟩ : ∃ x, l[k]! = x := ⟨_, rfl⟩
        obtain ⟨q0, q1, q2, q3, q4, q5, q6⟩ := (HC.out.below BW.out).cells hlt hx
        have HI := mkH (HIT.out k hlt)
        have HTN := mkH (HTK.out k hlt)
        rw [hx] at HI HTN
        generalize columnB (x1, x2, x3, x4, x5, x6, x7) = ix at HI HTN
        replace HI : Hid (∀ W, Below w.heap.size w W → Calls Tryz.prog 64 #[.agg #[.int .i64 x1, .string x2, .int .i64 x3, .bool x4, .int .i64 x5, .int .i64 x6, .string x7]] W fun e w' => e = .returned (.string ix) ∧ Below W.heap.size W w') := HI
        have HBA := mkH (BW.out.alloc BW.out.size (.cells #[.int .i64 x1, .string x2, .int .i64 x3, .bool x4, .int .i64 x5, .int .i64 x6, .string x7] 80))
        have HRA := mkH (own_up RO.out ((Below.refl wr.heap.size wr).alloc (Nat.le_refl _) (.cells #[.int .i64 x1, .string x2, .int .i64 x3, .bool x4, .int .i64 x5, .int .i64 x6, .string x7] 80)))
        clear hx
        go_wp2_with (first
          | (go_at_fn 64; refine (HI.out _ HBA.out).mono ?_; rintro e w1 ⟨rfl, hb1⟩; have hs1 := hb1.size; have hsw := HBA.out.size)
          | (at_builtin; refine wpList_append_own _ rfl _ _ 154 rfl w.heap.size 9 iT (.string ⟨#[]⟩) 1 16 Tryz.underlying154 HIT2.out.1 HIT2.out.2.1 HIT2.out.2.2.1 HIT2.out.2.2.2 rfl (by decide) _ _ _ rfl ((own_up HRA.out hb1).alloc _) ⟨w1.heap.size, 0, none⟩ 1 1 [.string ix] rfl rfl (fun j u hj => World.news_of_block (heap_alloc_new _ _) j u hj) (by intro u hu; simp at hu; subst hu; rfl) ?d3 ?d4 ?d5 ?_))
        case d3 => unfold maxLen; omega
        case d4 => omega
        case d5 => simp; omega
        intro v2 w2 ho2 hg2 _
        have hb2 : Below w.heap.size w w2 := ((HBA.out.trans (hb1.mono hsw)).alloc (by omega) _).grown hg2 (by simp; omega) (fun j hj => (HRA.out.lt j hj).1)
        obtain ⟨va, vc, rfl, _⟩ := own_slice ho2
        go_wp2
        exact ⟨⟨k + 1, by omega, by go_num, mkH (by rw [HTN.out]; simpa using ho2), mkH hb2⟩, by simp [intOf]; omega⟩
      · have hkl : k = l.length := by omega
        subst hkl
        have HJ2 := mkH (HJ.out _ _ (HAL.out _ _ RO.out))
        go_wp2_with (go_at_call 98; refine HJ2.out.mono ?_; rintro e w1 ⟨rfl, hb1⟩)
        go_ret
        exact ⟨rfl, Below.ups BW.out hb1⟩
end Go.Proofs.YtgpdojaehmdlpaaGreatDoor
