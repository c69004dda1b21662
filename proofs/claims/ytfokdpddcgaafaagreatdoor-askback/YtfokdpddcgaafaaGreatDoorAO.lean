/- What a reader's value does with a number, or with what is neither. -/
import Derived.Test.YtfokdpddcgaafaaGreatDoorAN
namespace Go.Proofs.YtfokdpddcgaafaaGreatDoor
open Go.RowKit Go.Proofs Go.Lib Go.Proofs.YtfokdpddcgaafaaGreatDoor.Ask

theorem vl_num {t : Tok} {n : Int} (h : isT 1 wNull t = false) (hk : t.kind = 2) (hn : numT t.text = some n) : vlOf t = some (.num n) := by
  unfold vlOf
  rw [if_neg (by rw [h]; simp), if_neg (by omega), if_pos hk, hn]; rfl
theorem vl_none {t : Tok} (h : isT 1 wNull t = false) (h3 : t.kind ≠ 3) (hn : ¬ (t.kind = 2 ∧ (numT t.text).isSome = true)) : vlOf t = none := by
  unfold vlOf
  rw [if_neg (by rw [h]; simp), if_neg h3]
  split
  · cases hq : numT t.text with
    | none => rfl
    | some n => exact absurd ⟨‹_›, by rw [hq]; rfl⟩ hn
  · rfl
set_option maxHeartbeats 4000000 in
set_option maxRecDepth 100000 in
theorem rvalue_num (B : Nat) (ts : List Tok) (w : World) (hr : Rd w B ts) (hn : ts.length ≤ 1000) (hl : (hdTok ts).text.length ≤ 1000000) (hw : ErrB w) (hB : 10 ≤ B) (hq : isT 1 wNull (hdTok ts) = false) (h3 : (hdTok ts).kind ≠ 3) :
    Calls Tryz.prog 87 #[.pointer (some ⟨B, 0, none⟩)] w (VlPost B ts w) := by
  have hb0 : Below w.heap.size w (w.alloc (oVal 0 0 ⟨#[]⟩)) := (Below.refl _ _).alloc (Nat.le_refl _) _
  have hr0 : Rd (w.alloc (oVal 0 0 ⟨#[]⟩)) B ts := hr.up hb0
  have HT := mkH (takes_any B 1 wNull ts _ hr0 hn)
  have HB : Hid (B < w.heap.size) := hr.lt
  have HK : Hid (∀ V, Rd V B ts → Calls Tryz.prog 14 #[.pointer (some ⟨B, 0, none⟩)] V fun e w' => (∃ p : Int, e = .returned (tokV (hdTok ts).kind (bA (hdTok ts).text) p (hdTok ts).code)) ∧ Below V.heap.size V w') := fun V h => token_rd B ts V h
  have HE : Hid (∀ V, Past B (w.alloc (oVal 0 0 ⟨#[]⟩)) V → ErrB V) := fun V hp => by
    have n1 : 8 ≠ B := by omega
    have n2 : 9 ≠ B := by omega
    obtain ⟨⟨t1, p1, e1⟩, t2, p2, e2⟩ := hw.below hb0
    refine ⟨⟨t1, p1, ?_⟩, t2, p2, ?_⟩
    · rw [World.cell?, hp.keep _ (cell_lt e1) n1]; exact e1
    · rw [World.cell?, hp.keep _ (cell_lt e2) n2]; exact e2
  have HN : Hid (∀ V, Rd V B ts → ErrB V → Calls Tryz.prog 100 #[.pointer (some ⟨B, 0, none⟩)] V (NbPost B ts V)) := fun V h e => rnumber_any B ts V h hn hl e
  have HV : Hid (∀ n, (hdTok ts).kind = 2 → numT (hdTok ts).text = some n → vlOf (hdTok ts) = some (.num n)) := fun n => vl_num hq
  have HZ : Hid (¬ ((hdTok ts).kind = 2 ∧ (numT (hdTok ts).text).isSome = true) → vlOf (hdTok ts) = none) := vl_none hq h3
  unfold TkPost at HT
  unfold NbPost at HN
  rw [hq] at HT
  unfold VlPost
  have h4 : ¬ (((hdTok ts).kind : Int) = 3) := by omega
  have h5 : (((hdTok ts).kind : Int) == 3) = false := by simpa using h4
  clear hr hn hq hr0 hl hw hb0 h3 hB
  generalize vlOf (hdTok ts) = vo at *
  generalize numT (hdTok ts).text = nt at *
  generalize bA (hdTok ts).text = tt at *
  generalize (hdTok ts).kind = tk at *
  generalize (hdTok ts).code = tc at *
  go_enter Tryz.func87, Tryz.ntmps87
  go_wp2_with fail
  refine HT.out.mono ?_
  rintro e w1 ⟨hp1, ⟨h, _⟩ | ⟨_, rfl, hr1⟩⟩
  · cases h
  go_wp2_with fail
  refine (HK.out _ hr1).mono ?_
  rintro e w2 ⟨⟨p, rfl⟩, hb2⟩
  unfold tokV
  go_wp2_with fail
  have hba : ∀ o, Below w1.heap.size w1 (w2.alloc o) := fun o => hb2.alloc hb2.size o
  have hpa : ∀ o, Past B (w.alloc (oVal 0 0 ⟨#[]⟩)) (w2.alloc o) := fun o => hp1.up (Nat.le_of_lt hr1.lt) (hba o)
  refine (HN.out _ (hr1.up (hba _)) (HE.out _ (hpa _))).mono ?_
  rintro e w3 ⟨hp3, ⟨n, hk2, hnt, rfl, hr3⟩ | ⟨hno, a, rfl⟩⟩
  · have hpp := (hpa _).trans hp3
    have hk := keepV hpp (heap_alloc_new w (oVal 0 0 ⟨#[]⟩)) (by have := HB.out; omega)
    have k0 := cell_of_heap hk 0
    have k1 := cell_of_heap hk 1
    have k2 := cell_of_heap hk 2
    simp at k0 k1 k2
    have f0 : ∀ i, w3.frozen? ⟨w.heap.size, i, none⟩ = false := fun i => by simp [World.frozen?, hk, oVal]
    go_wp2
    exact bodyPost_ret (v := valV 1 n ⟨#[]⟩) (by simp [results, Tryz.results87, go_sem, k0, k1, k2, valV]) rfl ⟨hpp.set3 HB.out _ _ _, .inl ⟨_, HV.out n hk2 hnt, rfl, hr3.set3 hk (by simp) (by have := HB.out; omega) _ _ _⟩⟩
  · exact ⟨rfl, (Past.of (Nat.le_of_lt HB.out) ((Below.refl _ w).alloc (Nat.le_refl _) _)).trans ((hpa _).trans hp3), .inr ⟨HZ.out hno, a, rfl⟩⟩
end Go.Proofs.YtfokdpddcgaafaaGreatDoor
