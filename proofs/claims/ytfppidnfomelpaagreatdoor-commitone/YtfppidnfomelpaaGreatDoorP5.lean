/- What log.column does, said of every call. -/
import Derived.Test.YtfppidnfomelpaaGreatDoorP3
import Derived.Lib.Join
import Derived.Deep.RegionHeld3
namespace Go.Proofs.YtfppidnfomelpaaGreatDoor
open Go.RowKit Go.Proofs Go.Lib Go.Joins

def joinB (xs : List ByteArray) (sep : ByteArray) : ByteArray := ⟨(Lib.join (xs.map (·.data.toList)) sep.data.toList).toArray⟩
theorem infoStr : (Tryz.prog.info? 9).map (fun i => (i.zero, i.size, i.bytes)) = some (some (.string ⟨#[]⟩), 1, 16) := by kernel_rfl
theorem lens_le {b : Nat} : ∀ {xs : List ByteArray}, (∀ x ∈ xs, x.size ≤ b) → Lib.lens (xs.map (·.data.toList)) ≤ xs.length * b
  | [], _ => by simp [Lib.lens]
  | x :: xs, h => by
    have h1 := h x (List.mem_cons_self ..)
    have h2 := lens_le (fun y hy => h y (List.mem_cons_of_mem _ hy))
    have e : x.data.toList.length = x.size := by simp
    have e2 : Lib.lens ((x :: xs).map (·.data.toList)) = x.data.toList.length + Lib.lens (xs.map (·.data.toList)) := by simp [Lib.lens]
    rw [e2, e, List.length_cons, Nat.succ_mul]
    omega
theorem joinB_size {b : Nat} {xs : List ByteArray} {sep : ByteArray} (h : ∀ x ∈ xs, x.size ≤ b) : (joinB xs sep).size ≤ xs.length * (b + sep.size) := by
  have e : (joinB xs sep).size = (Lib.join (xs.map (·.data.toList)) sep.data.toList).length := by simp [joinB, ByteArray.size]
  rw [e]
  cases xs with
  | nil => simp [Lib.join_nil]
  | cons x xs =>
    have h2 := lens_le h
    rw [List.map_cons, Lib.join_length]
    rw [List.map_cons] at h2
    have e1 : sep.data.toList.length = sep.size := by simp
    rw [e1, List.length_map, List.length_cons, Nat.mul_add]
    rw [List.length_cons] at h2
    have : sep.size * xs.length ≤ (xs.length + 1) * sep.size := by rw [Nat.mul_comm]; exact Nat.mul_le_mul_right _ (Nat.le_succ _)
    omega

theorem join_own (base : Nat) (v : Value) (xs : List ByteArray) (sep : ByteArray) (w : World) (h : w.ownsRow base 9 1 v xs.length (xs.map (.string ·))) (hn : xs.length ≤ 1000) (hl : (joinB xs sep).size ≤ 100000000) :
    Calls Tryz.prog 89 #[v, .string sep] w fun e w' => e = .returned (.string (joinB xs sep)) ∧ Below w.heap.size w w' := by
  rcases own_forms h with ⟨e1, e0⟩ | ⟨g, c, e1, _, hg, hc1, hc2⟩
  · subst e1
    have : xs = [] := List.length_eq_zero_iff.1 e0
    subst this
    exact (Tryz.strings_Join_none none 0 sep w).mono fun _ _ ⟨he, hw⟩ => ⟨he, hw ▸ Below.refl _ _⟩
  · subst e1
    refine Tryz.strings_Join g 0 c xs sep w (fun j x hj => ?_) hg (by omega) hc1 ?_
    · have hjl : j < xs.length := by
        rcases Nat.lt_or_ge j xs.length with hh | hh
        · exact hh
        · rw [List.getElem?_eq_none hh] at hj; cases hj
      rw [Nat.zero_add, h.cellAt j (by omega), List.getElem?_map, hj]; rfl
    · have : (joinB xs sep).size = (Lib.join (xs.map (·.data.toList)) sep.data.toList).length := by simp [joinB, ByteArray.size]
      omega

set_option maxHeartbeats 1000000 in
set_option maxRecDepth 100000 in
theorem joinedI_any (v : Value) (l : List Int) (sep : ByteArray) (w : World) (h : LiI w v l) (hl : l.length ≤ 100) (hn : ∀ x ∈ l, I64 x) (hs : sep.size ≤ 1) (ht : TabB w) :
    Calls Tryz.prog 56 #[v, .string sep, .func (.func 36) #[] #[]] w fun e w' => e = .returned (.string (joinB (l.map itoaB) sep)) ∧ Below w.heap.size w w' := by
  have e48 : ∀ args w, (callFunc 36 args).run Tryz.prog w = .ok (.enter 36 args) w := enters_of Tryz.func36 (by kernel_rfl) rfl
  have HJ : Hid (∀ (W : World) (tv : Value), W.ownsRow w.heap.size 9 1 tv l.length ((l.map itoaB).map (.string ·)) → Calls Tryz.prog 89 #[tv, .string sep] W fun e w' => e = .returned (.string (joinB (l.map itoaB) sep)) ∧ Below W.heap.size W w') := fun W tv hW => join_own _ tv (l.map itoaB) sep W (by rw [List.length_map]; exact hW) (by simp; omega) (by
      have := joinB_size (b := 21) (xs := l.map itoaB) (sep := sep) (by intro x hx; obtain ⟨y, hy, rfl⟩ := List.mem_map.1 hx; exact itoaB_size (hn y hy))
      rw [List.length_map] at this
      have h2 : l.length * (21 + sep.size) ≤ 100 * 22 := Nat.mul_le_mul hl (by omega)
      omega)
  have HIT : Hid (∀ j, j < l.length → ∀ W, Below w.heap.size w W → Calls Tryz.prog 36 #[.int .i64 l[j]!] W fun e w' => e = .returned (.string (itoaB l[j]!)) ∧ Below W.heap.size W w') := fun j hj W hW => itoa_any _ W (hn _ (by rw [getElem!_pos l j hj]; exact List.getElem_mem hj)) (ht.below hW)
  have hlen : (∃ a c, v = .slice a 0 c) ∧ l = [] ∨ ∃ g o c, v = .slice (some ⟨g, o, none⟩) l.length c ∧ g < w.heap.size ∧ ∀ j, j < l.length → w.cell? ⟨g, o + j, none⟩ = some (.int .i64 l[j]!) := by
    rcases h with h | ⟨g, o, c, h1, h2, _, h4⟩
    · exact .inl h
    · exact .inr ⟨g, o, c, h1, h2, h4⟩
  obtain ⟨iT, hiT, hzT, hz1T, hz2T⟩ := info_parts infoStr
  have HIT2 := mkH (And.intro hiT (And.intro hzT (And.intro hz1T hz2T)))
  have HTK : Hid (∀ k, k < l.length → ((l.take (k + 1)).map itoaB).map (Value.string ·) = ((l.take k).map itoaB).map (Value.string ·) ++ [.string (itoaB l[k]!)]) := fun k hk => by
    rw [List.take_add_one, List.getElem?_eq_getElem hk, getElem!_pos l k hk, List.map_append, List.map_append]; rfl
  have HAL : Hid (∀ (W : World) (tv : Value), W.ownsRow w.heap.size 9 1 tv l.length (((l.take l.length).map itoaB).map (Value.string ·)) → W.ownsRow w.heap.size 9 1 tv l.length ((l.map itoaB).map (.string ·))) := fun W tv hW => by rwa [List.take_length] at hW
  clear h hn ht hiT hzT hz1T hz2T
  generalize joinB (l.map itoaB) sep = res at *
  rcases hlen with ⟨⟨_, _, rfl⟩, rfl⟩ | ⟨g, o, c, rfl, hg, hc⟩
  · have HJ0 : Hid (Calls Tryz.prog 89 #[.slice none 0 0, .string sep] w fun e w' => e = .returned (.string res) ∧ Below w.heap.size w w') := mkH (HJ.out w (.slice none 0 0) (World.ownsRow_nil w w.heap.size 9 1))
    clear HJ HIT HTK HAL
    go_enter Tryz.func56, Tryz.ntmps56
    go_wp2
    go_loopw [7, 12] (fun tv vi wr => tv = .slice none 0 0 ∧ vi = .int .i64 0 ∧ wr = w) (fun _ _ _ => 0)
    case atStart => exact ⟨rfl, rfl, rfl⟩
    case round =>
      obtain ⟨rfl, rfl, rfl⟩ := hrel
      go_wp2_with (go_at_call 89; refine HJ0.out.mono ?_; rintro e w1 ⟨rfl, hb1⟩)
      go_ret
      exact ⟨rfl, hb1⟩
  · have HC := mkH hc
    clear hc
    go_enter Tryz.func56, Tryz.ntmps56
    go_wp2
    go_loopw [7, 12] (fun tv vi wr => ∃ k : Nat, k ≤ l.length ∧ vi = .int .i64 k ∧ Hid (wr.ownsRow w.heap.size 9 1 tv k (((l.take k).map itoaB).map (.string ·))) ∧ Hid (Below w.heap.size w wr)) (fun _ vi _ => l.length - (intOf vi).toNat)
    case atStart => exact ⟨0, Nat.zero_le _, rfl, mkH (World.ownsRow_nil _ _ _ _), mkH (Below.refl _ _)⟩
    case round =>
      obtain ⟨k, hk, rfl, RO, BW⟩ := hrel
      obtain ⟨ta, tc, rfl, _⟩ := own_slice RO.out
      by_cases hlt : k < l.length
      · have hltz : (k : Int) < (l.length : Int) := by omega
        have hcell := (BW.out.cell (p := ⟨g, o + k, none⟩) hg).trans (HC.out k hlt)
        have HI := mkH (HIT.out k hlt)
        have HTN := mkH (HTK.out k hlt)
        generalize l[k]! = x at hcell HI HTN
        generalize itoaB x = ix at HI HTN
        go_wp2_with (first
          | (go_at_fn 36; refine (HI.out _ BW.out).mono ?_; rintro e w1 ⟨rfl, hb1⟩; have hs1 := hb1.size; have hsw := BW.out.size)
          | (at_builtin; refine wpList_append_own _ rfl _ _ 146 rfl w.heap.size 9 iT (.string ⟨#[]⟩) 1 16 Tryz.underlying146 HIT2.out.1 HIT2.out.2.1 HIT2.out.2.2.1 HIT2.out.2.2.2 rfl (by decide) _ _ _ rfl ((own_up RO.out hb1).alloc _) ⟨w1.heap.size, 0, none⟩ 1 1 [.string ix] rfl rfl (fun j u hj => World.news_of_block (heap_alloc_new _ _) j u hj) (by intro u hu; simp at hu; subst hu; rfl) ?d3 ?d4 ?d5 ?_))
        case d3 => unfold maxLen; omega
        case d4 => omega
        case d5 => simp; omega
        intro v2 w2 ho2 hg2 _
        have hb2 : Below w.heap.size w w2 := ((BW.out.trans (hb1.mono hsw)).alloc (by omega) _).grown hg2 (by simp; omega) (fun j hj => (RO.out.lt j hj).1)
        obtain ⟨va, vc, rfl, _⟩ := own_slice ho2
        go_wp2
        exact ⟨⟨k + 1, by omega, by go_num, mkH (by rw [HTN.out]; simpa using ho2), mkH hb2⟩, by simp [intOf]; omega⟩
      · have hkl : k = l.length := by omega
        subst hkl
        have HJ2 := mkH (HJ.out _ _ (HAL.out _ _ RO.out))
        go_wp2_with (go_at_call 89; refine HJ2.out.mono ?_; rintro e w1 ⟨rfl, hb1⟩)
        go_ret
        exact ⟨rfl, Below.ups BW.out hb1⟩
end Go.Proofs.YtfppidnfomelpaaGreatDoor

namespace Go.Proofs.YtfppidnfomelpaaGreatDoor
open Go.RowKit Go.Proofs Go.Lib Go.Joins

def mustW : ByteArray := ⟨#[109, 117, 115, 116]⟩
def mayW : ByteArray := ⟨#[109, 97, 121]⟩
def columnB (c : Col) : ByteArray := joinB [itoaB c.1, c.2.1, itoaB c.2.2.1, eitherB c.2.2.2.1 mustW mayW, printV c.2.2.2.2.1 c.2.2.2.2.2.1 c.2.2.2.2.2.2] ⟨#[32]⟩
theorem bsize_app (a b : ByteArray) : (a ++ b).size = a.size + b.size := by simp
theorem printV_size {k n : Int} {t : ByteArray} (hn : I64 n) (ht : t.size ≤ 100) : (printV k n t).size ≤ 102 := by
  unfold printV
  split
  · decide
  split
  · have := itoaB_size hn; omega
  split
  · rw [bsize_app, bsize_app]; have : (⟨#[39]⟩ : ByteArray).size = 1 := rfl; omega
  · decide
theorem eitherB_size (b : Bool) : (eitherB b mustW mayW).size ≤ 4 := by cases b <;> decide
theorem columnB_size {c : Col} (h1 : I64 c.1) (h2 : c.2.1.size ≤ 100) (h3 : I64 c.2.2.1) (h4 : I64 c.2.2.2.2.2.1) (h5 : c.2.2.2.2.2.2.size ≤ 100) : (columnB c).size ≤ 600 := by
  have := joinB_size (b := 102) (xs := [itoaB c.1, c.2.1, itoaB c.2.2.1, eitherB c.2.2.2.1 mustW mayW, printV c.2.2.2.2.1 c.2.2.2.2.2.1 c.2.2.2.2.2.2]) (sep := ⟨#[32]⟩) (by
    intro x hx
    simp only [List.mem_cons, List.not_mem_nil, or_false] at hx
    rcases hx with rfl | rfl | rfl | rfl | rfl
    · have := itoaB_size h1; omega
    · omega
    · have := itoaB_size h3; omega
    · have := eitherB_size c.2.2.2.1; omega
    · exact printV_size h4 h5)
  have e : (⟨#[32]⟩ : ByteArray).size = 1 := rfl
  rw [e] at this
  simp only [List.length_cons, List.length_nil] at this
  unfold columnB
  omega

set_option maxHeartbeats 4000000 in
set_option maxRecDepth 100000 in
theorem column_any (i : Int) (nm : ByteArray) (k : Int) (mu : Bool) (dk dn : Int) (dt : ByteArray) (w : World) (hi : I64 i) (hk : I64 k) (hd : I64 dn) (hnm : nm.size ≤ 100) (hdt : dt.size ≤ 100) (ht : TabB w) :
    Calls Tryz.prog 58 #[.agg #[.int .i64 i, .string nm, .int .i64 k, .bool mu, .int .i64 dk, .int .i64 dn, .string dt]] w fun e w' => e = .returned (.string (columnB (i, nm, k, mu, dk, dn, dt))) ∧ Below w.heap.size w w' := by
  have HB0 : Hid (Below w.heap.size w (w.alloc (.cells #[.int .i64 i, .string nm, .int .i64 k, .bool mu, .int .i64 dk, .int .i64 dn, .string dt] 67))) := (Below.refl _ _).alloc (Nat.le_refl _) _
  have HIT : Hid (∀ n, I64 n → ∀ W, Below w.heap.size w W → Calls Tryz.prog 36 #[.int .i64 n] W fun e w' => e = .returned (.string (itoaB n)) ∧ Below W.heap.size W w') := fun n hn W hW => itoa_any n W hn (ht.below hW)
  have HEI : Hid (∀ W, Calls Tryz.prog 24 #[.bool mu, .string ⟨#[109, 117, 115, 116]⟩, .string ⟨#[109, 97, 121]⟩] W fun e w' => e = .returned (.string (eitherB mu mustW mayW)) ∧ w' = W) := fun W => either_any mu mustW mayW W
  have HPR : Hid (∀ W, Below w.heap.size w W → Calls Tryz.prog 90 #[.agg #[.int .i64 dk, .int .i64 dn, .string dt]] W fun e w' => e = .returned (.string (printV dk dn dt)) ∧ Below W.heap.size W w') := fun W hW => printV_any dk dn dt W (by omega) hd (ht.below hW)
  have HJO : Hid (∀ (W : World) (g : Nat), W.heap[g]? = some (.cells #[.string (itoaB i), .string nm, .string (itoaB k), .string (eitherB mu mustW mayW), .string (printV dk dn dt)] 9) → Calls Tryz.prog 89 #[.slice (some ⟨g, 0, none⟩) 5 5, .string ⟨#[32]⟩] W fun e w' => e = .returned (.string (columnB (i, nm, k, mu, dk, dn, dt))) ∧ Below W.heap.size W w') := fun W g hg => by
    have ho : W.ownsRow 0 9 1 (.slice (some ⟨g, 0, none⟩) 5 5) 5 [.string (itoaB i), .string nm, .string (itoaB k), .string (eitherB mu mustW mayW), .string (printV dk dn dt)] := ⟨rfl, .inr ⟨g, 5, _, rfl, Nat.zero_le _, hg, Nat.le_refl _, by decide, rfl, rfl⟩⟩
    exact join_own 0 _ [itoaB i, nm, itoaB k, eitherB mu mustW mayW, printV dk dn dt] ⟨#[32]⟩ W ho (by simp) (by have := columnB_size (c := (i, nm, k, mu, dk, dn, dt)) hi hnm hk hd hdt; unfold columnB at this; simp only at this; omega)
  have e48 : ∀ args w, (callFunc 36 args).run Tryz.prog w = .ok (.enter 36 args) w := enters_of Tryz.func36 (by kernel_rfl) rfl
  have e24 : ∀ args w, (callFunc 24 args).run Tryz.prog w = .ok (.enter 24 args) w := enters_of Tryz.func24 (by kernel_rfl) rfl
  have e78 : ∀ args w, (callFunc 90 args).run Tryz.prog w = .ok (.enter 90 args) w := enters_of Tryz.func90 (by kernel_rfl) rfl
  have e77 : ∀ args w, (callFunc 89 args).run Tryz.prog w = .ok (.enter 89 args) w := enters_of Tryz.func89 (by kernel_rfl) rfl
  have HE48 := mkH e48
  have HE24 := mkH e24
  have HE78 := mkH e78
  have HE77 := mkH e77
  have HI := mkH hi
  have HK := mkH hk
  obtain ⟨d0, d1, d2, d3, d4, d5, d6⟩ := new7 w (.int .i64 i) (.string nm) (.int .i64 k) (.bool mu) (.int .i64 dk) (.int .i64 dn) (.string dt)
  have hsz : w.heap.size < (w.alloc (.cells #[.int .i64 i, .string nm, .int .i64 k, .bool mu, .int .i64 dk, .int .i64 dn, .string dt] 67)).heap.size := by simp
  have HSZ := mkH hsz
  clear e48 e24 e78 e77 hi hk hd hnm hdt ht hsz
  generalize columnB (i, nm, k, mu, dk, dn, dt) = res at *
  have HI1 := mkH (HIT.out i HI.out)
  have HI3 := mkH (HIT.out k HK.out)
  clear HIT HI HK
  generalize itoaB i = s1 at *
  generalize itoaB k = s3 at *
  generalize eitherB mu mustW mayW = s4 at *
  generalize printV dk dn dt = s5 at *
  go_enter Tryz.func58, Tryz.ntmps58
  go_wp2_with fail
  generalize w.alloc (.cells #[.int .i64 i, .string nm, .int .i64 k, .bool mu, .int .i64 dk, .int .i64 dn, .string dt] 67) = wq at *
  have HKD : Hid (∀ W, Below wq.heap.size wq W → W.cell? ⟨w.heap.size, 0, none⟩ = some (.int .i64 i) ∧ W.cell? ⟨w.heap.size, 1, none⟩ = some (.string nm) ∧ W.cell? ⟨w.heap.size, 2, none⟩ = some (.int .i64 k) ∧ W.cell? ⟨w.heap.size, 3, none⟩ = some (.bool mu) ∧ W.cell? ⟨w.heap.size, 4, none⟩ = some (.int .i64 dk) ∧ W.cell? ⟨w.heap.size, 5, none⟩ = some (.int .i64 dn) ∧ W.cell? ⟨w.heap.size, 6, none⟩ = some (.string dt)) := mkH (fun W hW =>
    ⟨(hW.cell (p := ⟨w.heap.size, 0, none⟩) HSZ.out).trans d0, (hW.cell (p := ⟨w.heap.size, 1, none⟩) HSZ.out).trans d1, (hW.cell (p := ⟨w.heap.size, 2, none⟩) HSZ.out).trans d2, (hW.cell (p := ⟨w.heap.size, 3, none⟩) HSZ.out).trans d3, (hW.cell (p := ⟨w.heap.size, 4, none⟩) HSZ.out).trans d4, (hW.cell (p := ⟨w.heap.size, 5, none⟩) HSZ.out).trans d5, (hW.cell (p := ⟨w.heap.size, 6, none⟩) HSZ.out).trans d6⟩)
  have HBL : Hid (Below wq.heap.size wq wq.drew) := mkH (Below.refl _ _).drew
  go_region_held3 (fun w' => w'.cell? ⟨w.heap.size, 0, none⟩ = some (.int .i64 i) ∧ w'.cell? ⟨w.heap.size, 1, none⟩ = some (.string nm) ∧ w'.cell? ⟨w.heap.size, 2, none⟩ = some (.int .i64 k) ∧ w'.cell? ⟨w.heap.size, 3, none⟩ = some (.bool mu) ∧ w'.cell? ⟨w.heap.size, 4, none⟩ = some (.int .i64 dk) ∧ w'.cell? ⟨w.heap.size, 5, none⟩ = some (.int .i64 dn) ∧ w'.cell? ⟨w.heap.size, 6, none⟩ = some (.string dt))
    (first
      | exact HKD.out _ HBL.out
      | exact HKD.out _ (HBL.out.alloc HBL.out.size _)
      | exact HKD.out _ HB5.out
      | (go_keep; done)
      | fail)
    (first
      | (go_at_call_of 36 (#[.int .i64 i] : Array Value); refine (HI1.out _ (Below.ups HB0.out HBL.out)).mono ?_; rintro e w4 ⟨rfl, hb4⟩; replace HBL := mkH (Below.ups HBL.out hb4); clear hb4)
      | (go_at_call_of 36 (#[.int .i64 k] : Array Value); refine (HI3.out _ (Below.ups HB0.out HBL.out)).mono ?_; rintro e w4 ⟨rfl, hb4⟩; replace HBL := mkH (Below.ups HBL.out hb4); clear hb4)
      | (go_at_call 24; refine (HEI.out _).mono ?_; rintro e w4 ⟨rfl, rfl⟩)
      | (go_at_call 90; refine (HPR.out _ (Below.ups HB0.out HBL.out)).mono ?_; rintro e w4 ⟨rfl, hb4⟩; replace HBL := mkH (Below.ups HBL.out hb4); clear hb4)
      | (go_at_call 89; refine (HJO.out _ _ (heap_alloc_new _ _)).mono ?_; rintro e w4 ⟨rfl, hb4⟩; have HB5 := mkH (Below.ups (HBL.out.alloc HBL.out.size _) hb4); clear hb4)
      | fail)
  all_goals
    go_wp2
    go_ret
    exact ⟨rfl, Below.ups HB0.out HB5.out⟩
end Go.Proofs.YtfppidnfomelpaaGreatDoor
