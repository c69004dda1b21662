/- What a reader's value does with a text; and all together. -/
import Derived.Test.YtfokdpddcgaafaaGreatDoorAO
namespace Go.Proofs.YtfokdpddcgaafaaGreatDoor
open Go.RowKit Go.Proofs Go.Lib Go.Proofs.YtfokdpddcgaafaaGreatDoor.Ask

theorem vl_text {t : Tok} (h : isT 1 wNull t = false) (hk : t.kind = 3) : vlOf t = if rtL t.text then some (.text t.text) else none := by
  unfold vlOf
  rw [if_neg (by rw [h]; simp), if_pos hk]
theorem rightV2 (t : ByteArray) : rightV 2 0 t = rtB t := by simp [rightV]
set_option maxHeartbeats 4000000 in
set_option maxRecDepth 100000 in
theorem rvalue_text (B : Nat) (ts : List Tok) (w : World) (hr : Rd w B ts) (hn : ts.length ≤ 1000) (hl : (hdTok ts).text.length ≤ 1000000) (hq : isT 1 wNull (hdTok ts) = false) (h3 : (hdTok ts).kind = 3) :
    Calls Tryz.prog 87 #[.pointer (some ⟨B, 0, none⟩)] w (VlPost B ts w) := by
  have hb0 : Below w.heap.size w (w.alloc (oVal 0 0 ⟨#[]⟩)) := (Below.refl _ _).alloc (Nat.le_refl _) _
  have hr0 : Rd (w.alloc (oVal 0 0 ⟨#[]⟩)) B ts := hr.up hb0
  have HT := mkH (takes_any B 1 wNull ts _ hr0 hn)
  have HB : Hid (B < w.heap.size) := hr.lt
  have HK : Hid (∀ V, Rd V B ts → Calls Tryz.prog 14 #[.pointer (some ⟨B, 0, none⟩)] V fun e w' => (∃ p : Int, e = .returned (tokV (hdTok ts).kind (bA (hdTok ts).text) p (hdTok ts).code)) ∧ Below V.heap.size V w') := fun V h => token_rd B ts V h
  have HP : Hid (∀ V, Rd V B ts → Calls Tryz.prog 53 #[.pointer (some ⟨B, 0, none⟩)] V fun e w' => e = .returned (.tuple #[]) ∧ Rd w' B (ts.drop 1) ∧ Past B V w') := fun V h => pass_past B ts V h hn
  have HW := mkH throw_any
  have HG : Hid (∀ V, Calls Tryz.prog 11 #[.agg #[.int .i64 2, .int .i64 0, .string (bA (hdTok ts).text)]] V fun e w' => e = .returned (.bool (rtL (hdTok ts).text)) ∧ Below V.heap.size V w') := fun V => by
    have := rightV_any 2 0 (bA (hdTok ts).text) V (by rw [bA_size]; unfold maxLen; omega)
    rw [rightV2] at this
    exact this
  have HV := mkH (vl_text hq h3)
  have HL : Hid (vlV (.text (hdTok ts).text) = valV 2 0 (bA (hdTok ts).text)) := rfl
  unfold TkPost at HT
  rw [hq] at HT
  rw [h3] at HK
  unfold VlPost
  clear hr hn hq hr0 hl hb0 h3
  generalize vlOf (hdTok ts) = vo at *
  generalize (hdTok ts).text = tx at *
  generalize bA tx = tt at *
  generalize (hdTok ts).code = tc at *
  cases hb : rtL tx with
  | false =>
    rw [hb] at HG HV
    go_enter Tryz.func87, Tryz.ntmps87
    go_wp2_with fail
    refine HT.out.mono ?_
    rintro e w1 ⟨hp1, ⟨h, _⟩ | ⟨_, rfl, hr1⟩⟩
    · cases h
    go_wp2_with fail
    refine (HK.out _ hr1).mono ?_
    rintro e w2 ⟨⟨p, rfl⟩, hb2⟩
    unfold tokV
    go_wp2_with fail
    refine (HG.out _).mono ?_
    rintro e w3 ⟨rfl, hb3⟩
    have hs2 := hb2.size
    have hk3 := (hb3.block w2.heap.size (by simp; omega)).trans (((((Below.refl _ _).alloc (Nat.le_refl _) _ : Below _ _ _)).block w2.heap.size (by simp)).trans (heap_alloc_new w2 _))
    have hc := cell_of_heap hk3 2
    simp at hc
    go_wp2_with fail
    refine (HW.out _ _ _).mono ?_
    rintro e w4 ⟨⟨a, rfl⟩, hb4⟩
    have hba : ∀ o o', Below w1.heap.size w1 ((w2.alloc o).alloc o') := fun o o' => (hb2.alloc hb2.size o).alloc (by simp; omega) o'
    have hl1 := Nat.le_of_lt hr1.lt
    have hB1 : ∀ o o', B ≤ ((w2.alloc o).alloc o').heap.size := fun o o' => Nat.le_trans hl1 (hba o o').size
    exact ⟨rfl, (Past.of (Nat.le_of_lt HB.out) ((Below.refl _ w).alloc (Nat.le_refl _) _)).trans (((hp1.up hl1 (hba _ _)).up (hB1 _ _) hb3).up (Nat.le_trans (hB1 _ _) hb3.size) hb4), .inr ⟨HV.out.trans (by simp), a, rfl⟩⟩
  | true =>
    rw [hb] at HG HV
    go_enter Tryz.func87, Tryz.ntmps87
    go_wp2_with fail
    refine HT.out.mono ?_
    rintro e w1 ⟨hp1, ⟨h, _⟩ | ⟨_, rfl, hr1⟩⟩
    · cases h
    go_wp2_with fail
    refine (HK.out _ hr1).mono ?_
    rintro e w2 ⟨⟨p, rfl⟩, hb2⟩
    unfold tokV
    go_wp2_with fail
    refine (HG.out _).mono ?_
    rintro e w3 ⟨rfl, hb3⟩
    go_wp2_with fail
    have hs2 := hb2.size
    have hba : ∀ o o', Below w1.heap.size w1 ((w2.alloc o).alloc o') := fun o o' => (hb2.alloc hb2.size o).alloc (by simp; omega) o'
    have hl1 := Nat.le_of_lt hr1.lt
    have hB1 : ∀ o o', B ≤ ((w2.alloc o).alloc o').heap.size := fun o o' => Nat.le_trans hl1 (hba o o').size
    refine (HP.out _ ((hr1.up (hba _ _)).up hb3)).mono ?_
    rintro e w4 ⟨rfl, hr4, hp4⟩
    have hpp := ((hp1.up hl1 (hba _ _)).up (hB1 _ _) hb3).trans hp4
    have hk := keepV hpp (heap_alloc_new w (oVal 0 0 ⟨#[]⟩)) (by have := HB.out; omega)
    have k0 := cell_of_heap hk 0
    have k1 := cell_of_heap hk 1
    have k2 := cell_of_heap hk 2
    simp at k0 k1 k2
    have f0 : ∀ i, w4.frozen? ⟨w.heap.size, i, none⟩ = false := fun i => by simp [World.frozen?, hk, oVal]
    have hz := hp4.keep (w2.heap.size + 1) (by have := hb3.size; simp at this; omega) (by have := hr1.lt; omega)
    have hz3 := hb3.block (w2.heap.size + 1) (by simp)
    have hnw := heap_alloc_new (w2.alloc (.cells #[.int .i64 ((3 : Nat) : Int), .string tt, .int .i64 p, .int .i64 (tc : Int)] 41)) (oVal 2 0 tt)
    rw [World.size_alloc] at hnw
    have hv := (hz.trans hz3).trans hnw
    have v0 := cell_of_heap hv 0
    have v1 := cell_of_heap hv 1
    have v2 := cell_of_heap hv 2
    simp at v0 v1 v2
    go_wp2
    exact bodyPost_ret (v := valV 2 0 tt) (by simp [results, Tryz.results87, go_sem, k0, k1, k2, valV]) rfl ⟨hpp.set3 HB.out _ _ _, .inl ⟨.text tx, HV.out.trans (by simp), by show _ = Ending.returned (vlV (.text tx)); rw [HL.out], hr4.set3 hk (by simp) (by have := HB.out; omega) _ _ _⟩⟩
theorem rvalue_any (B : Nat) (ts : List Tok) (w : World) (hr : Rd w B ts) (hn : ts.length ≤ 1000) (hl : (hdTok ts).text.length ≤ 1000000) (hw : ErrB w) (hB : 10 ≤ B) :
    Calls Tryz.prog 87 #[.pointer (some ⟨B, 0, none⟩)] w (VlPost B ts w) := by
  cases hq : isT 1 wNull (hdTok ts) with
  | true => exact rvalue_null B ts w hr hn hq
  | false =>
    by_cases h3 : (hdTok ts).kind = 3
    · exact rvalue_text B ts w hr hn hl hq h3
    · exact rvalue_num B ts w hr hn hl hw hB hq h3
end Go.Proofs.YtfokdpddcgaafaaGreatDoor
