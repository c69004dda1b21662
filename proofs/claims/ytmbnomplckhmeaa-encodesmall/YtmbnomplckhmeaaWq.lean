/- What millpondkeep.EncodeBack does, said of every call: it answers true. -/
import Derived.Test.YtmbnomplckhmeaaWp
namespace Go.Proofs.Ytmbnomplckhmeaa
open Go.RowKit Go.Proofs Go.Shelf

theorem encRes_ok {kind : Int} {l : List V} (h : fitsB kind l = true) (hl : l.length ≤ 60) : encRes kind l = .tuple #[.string (str (encB kind l)), .nilIface] := by
  unfold encRes; rw [h]; simp [hl]
theorem encB_len {kind : Int} {l : List V} (h : fitsB kind l = true) (ho : Okl l) (hl : l.length ≤ 60) : (encB kind l).length ≤ 5000 ∧ 0 < (encB kind l).length := by
  have h1 := fewB_len (kind := kind) (known_few (fits_few h ho hl))
  have h2 := Lib.uvarint_length64 (x := l.length) (by omega)
  have h3 := Lib.uvarint_pos l.length
  unfold encB
  simp only [List.length_append, marksB_len]
  omega

set_option maxHeartbeats 4000000 in
set_option maxRecDepth 100000 in
theorem encodeBack_any (kind cut : Int) (v : Value) (l : List V) (s : ByteArray) (w : World) (hs : Sl w v l) (ho : Okl l) (hss : s.size ≤ maxLen) :
    Calls Try.prog 3 #[.int .i64 kind, v, .string s, .int .i64 cut] w fun e w' => e = .returned (.bool true) ∧ Below w.heap.size w w' := by
  have HS := mkHid hs
  have HO := mkHid ho
  unfold maxLen at hss
  obtain ⟨a, c, rfl, _, _⟩ := hs
  clear ho
  by_cases h70 : 70 < l.length
  · have h70' : (70 : Int) < (l.length : Int) := by omega
    clear h70
    go_enter Try.func3, Try.ntmps3
    go_wp2
    go_ret
    exact ⟨rfl, Below.refl _ _⟩
  · have h70' : ¬ (70 : Int) < (l.length : Int) := by omega
    by_cases h15 : 1500 < s.size
    · have h15' : (1500 : Int) < (s.size : Int) := by omega
      clear h15 h70
      go_enter Try.func3, Try.ntmps3
      go_wp2
      go_ret
      exact ⟨rfl, Below.refl _ _⟩
    · have h15' : ¬ (1500 : Int) < (s.size : Int) := by omega
      have hl70 : l.length ≤ 70 := by omega
      have HP := mkHid packed_any
      have HD := mkHid (fun W => decode_any kind s W (by omega))
      have HR : Hid (∀ m, decR kind s.data.toList = some m → fitsB kind m = true ∧ encB kind m = s.data.toList ∧ m = (colR kind s.data.toList).1) := mkHid fun m h => decR_some h
      have hsl : s.data.toList.length = s.size := by rw [Array.length_toList]; rfl
      have HCO := mkHid (colR_ok (k := kind) (l := s.data.toList) (by omega))
      clear h70 h15 hsl
      cases hd : decR kind s.data.toList with
      | none =>
        rw [hd] at HD
        clear HR hd
        go_enter Try.func3, Try.ntmps3
        go_wp2_with fail
        refine (HP.out _).mono ?_
        rintro e w1 ⟨rfl, hb1⟩
        go_wp2_with fail
        refine (HD.out _).mono ?_
        rintro e w2 ⟨rfl, hb2⟩
        have hb0A : Below w.heap.size w w2 := hb1.trans (hb2.mono hb1.size)
        have HE := mkHid (encode_any kind _ l w2 (HS.out.up hb0A) (by omega) HO.out)
        cases hf : fitsB kind l with
        | false =>
          rw [show encRes kind l = .tuple #[.string ⟨#[]⟩, .iface 44 (.int .i64 1)] by unfold encRes; rw [hf]; rfl] at HE
          clear hf
          go_wp2_with fail
          refine HE.out.mono ?_
          rintro e w4 ⟨rfl, hb4⟩
          go_wp2
          go_ret
          exact ⟨rfl, hb0A.trans (hb4.mono hb0A.size)⟩
        | true =>
          by_cases h60 : l.length ≤ 60
          · rw [encRes_ok hf h60] at HE
            have HLN := mkHid (encB_len hf HO.out h60)
            have HDE := mkHid (fun W => decode_any kind (str (encB kind l)) W (by rw [str_size]; have := HLN.out.1; omega))
            rw [str_toList, decR_enc hf HO.out h60] at HDE
            have HCUT : Hid (∀ r, r < (encB kind l).length → ∀ W, Calls Try.prog 6 #[.int .i64 kind, .string ((str (encB kind l)).extract 0 r)] W (DecPost none W)) := mkHid fun r hr W => by
              have h1 := decode_any kind ((str (encB kind l)).extract 0 r) W (by rw [extract_head, str_size]; have := HLN.out.1; simp; omega)
              rw [extract_head, str_toList, str_toList, decR_cut hf HO.out h60 r hr (by have := HLN.out.1; omega)] at h1
              rw [extract_head, str_toList]; exact h1
            have HSZ := mkHid (str_size (encB kind l))
            have hsz1 : (str (encB kind l)).size ≤ 5000 := by rw [HSZ.out]; exact HLN.out.1
            have hsz2 : 0 < (str (encB kind l)).size := by rw [HSZ.out]; exact HLN.out.2
            rw [← HSZ.out] at HCUT
            generalize str (encB kind l) = t at *
            clear hf HSZ HLN
            go_wp2_with fail
            refine HE.out.mono ?_
            rintro e w4 ⟨rfl, hb4⟩
            have hb04 : Below w.heap.size w w4 := hb0A.trans (hb4.mono hb0A.size)
            go_wp2_with fail
            refine (HDE.out _).mono ?_
            rintro e w5 ⟨v5, rfl, hS5, hb5⟩
            have hb05 : Below w.heap.size w w5 := hb04.trans (hb5.mono hb04.size)
            have HQ := mkHid (equal_any _ _ l l w5 hS5 (HS.out.up hb05) (by omega) (by omega))
            rw [decide_eq_true rfl] at HQ
            clear hS5
            go_wp2_with fail
            refine HQ.out.mono ?_
            rintro e w6 ⟨rfl, hb6⟩
            have hb06 : Below w.heap.size w w6 := hb05.trans (hb6.mono hb05.size)
            have HPK := mkHid (pick_any cut t.size hsz2 (by omega) w6)
            go_wp2_with fail
            refine HPK.out.mono ?_
            rintro e w7 ⟨r, hr, rfl, rfl⟩
            have hr1 : (r : Int) ≤ (t.size : Int) := by omega
            have hr2 : r ≤ t.size := by omega
            go_wp2_with fail
            refine (HCUT.out r hr _).mono ?_
            rintro e w8 ⟨rfl, hb8⟩
            go_wp2
            go_ret
            exact ⟨rfl, hb06.trans (hb8.mono hb06.size)⟩
          · rw [show encRes kind l = .tuple #[.string ⟨#[]⟩, .iface 44 (.int .i64 4)] by unfold encRes; rw [hf]; simp [h60]] at HE
            clear hf h60
            go_wp2_with fail
            refine HE.out.mono ?_
            rintro e w4 ⟨rfl, hb4⟩
            go_wp2
            go_ret
            exact ⟨rfl, hb0A.trans (hb4.mono hb0A.size)⟩
      | some m =>
        rw [hd] at HD
        obtain ⟨hm1, hm2, hm3⟩ := HR.out m hd
        have hmo := HCO.out
        rw [← hm3] at hmo
        have HEM := mkHid (fun W v hW => encode_any kind v m W hW (by have := hmo.2; omega) hmo.1)
        rw [encRes_ok hm1 hmo.2, hm2, str_self] at HEM
        clear HR hd hm1 hm2 hm3 hmo
        have hself : (s.toList == s.toList) = true := by simp
        go_enter Try.func3, Try.ntmps3
        go_wp2_with fail
        refine (HP.out _).mono ?_
        rintro e w1 ⟨rfl, hb1⟩
        go_wp2_with fail
        refine (HD.out _).mono ?_
        rintro e w2 ⟨v2, rfl, hS2, hb2⟩
        have hb02 : Below w.heap.size w w2 := hb1.trans (hb2.mono hb1.size)
        go_wp2_with fail
        refine (HEM.out _ _ hS2).mono ?_
        rintro e w3 ⟨rfl, hb3⟩
        have hb0A : Below w.heap.size w w3 := hb02.trans (hb3.mono hb02.size)
        clear hS2
        have HE := mkHid (encode_any kind _ l w3 (HS.out.up hb0A) (by omega) HO.out)
        cases hf : fitsB kind l with
        | false =>
          rw [show encRes kind l = .tuple #[.string ⟨#[]⟩, .iface 44 (.int .i64 1)] by unfold encRes; rw [hf]; rfl] at HE
          clear hf
          go_wp2_with fail
          refine HE.out.mono ?_
          rintro e w4 ⟨rfl, hb4⟩
          go_wp2
          go_ret
          exact ⟨rfl, hb0A.trans (hb4.mono hb0A.size)⟩
        | true =>
          by_cases h60 : l.length ≤ 60
          · rw [encRes_ok hf h60] at HE
            have HLN := mkHid (encB_len hf HO.out h60)
            have HDE := mkHid (fun W => decode_any kind (str (encB kind l)) W (by rw [str_size]; have := HLN.out.1; omega))
            rw [str_toList, decR_enc hf HO.out h60] at HDE
            have HCUT : Hid (∀ r, r < (encB kind l).length → ∀ W, Calls Try.prog 6 #[.int .i64 kind, .string ((str (encB kind l)).extract 0 r)] W (DecPost none W)) := mkHid fun r hr W => by
              have h1 := decode_any kind ((str (encB kind l)).extract 0 r) W (by rw [extract_head, str_size]; have := HLN.out.1; simp; omega)
              rw [extract_head, str_toList, str_toList, decR_cut hf HO.out h60 r hr (by have := HLN.out.1; omega)] at h1
              rw [extract_head, str_toList]; exact h1
            have HSZ := mkHid (str_size (encB kind l))
            have hsz1 : (str (encB kind l)).size ≤ 5000 := by rw [HSZ.out]; exact HLN.out.1
            have hsz2 : 0 < (str (encB kind l)).size := by rw [HSZ.out]; exact HLN.out.2
            rw [← HSZ.out] at HCUT
            generalize str (encB kind l) = t at *
            clear hf HSZ HLN
            go_wp2_with fail
            refine HE.out.mono ?_
            rintro e w4 ⟨rfl, hb4⟩
            have hb04 : Below w.heap.size w w4 := hb0A.trans (hb4.mono hb0A.size)
            go_wp2_with fail
            refine (HDE.out _).mono ?_
            rintro e w5 ⟨v5, rfl, hS5, hb5⟩
            have hb05 : Below w.heap.size w w5 := hb04.trans (hb5.mono hb04.size)
            have HQ := mkHid (equal_any _ _ l l w5 hS5 (HS.out.up hb05) (by omega) (by omega))
            rw [decide_eq_true rfl] at HQ
            clear hS5
            go_wp2_with fail
            refine HQ.out.mono ?_
            rintro e w6 ⟨rfl, hb6⟩
            have hb06 : Below w.heap.size w w6 := hb05.trans (hb6.mono hb05.size)
            have HPK := mkHid (pick_any cut t.size hsz2 (by omega) w6)
            go_wp2_with fail
            refine HPK.out.mono ?_
            rintro e w7 ⟨r, hr, rfl, rfl⟩
            have hr1 : (r : Int) ≤ (t.size : Int) := by omega
            have hr2 : r ≤ t.size := by omega
            go_wp2_with fail
            refine (HCUT.out r hr _).mono ?_
            rintro e w8 ⟨rfl, hb8⟩
            go_wp2
            go_ret
            exact ⟨rfl, hb06.trans (hb8.mono hb06.size)⟩
          · rw [show encRes kind l = .tuple #[.string ⟨#[]⟩, .iface 44 (.int .i64 4)] by unfold encRes; rw [hf]; simp [h60]] at HE
            clear hf h60
            go_wp2_with fail
            refine HE.out.mono ?_
            rintro e w4 ⟨rfl, hb4⟩
            go_wp2
            go_ret
            exact ⟨rfl, hb0A.trans (hb4.mono hb0A.size)⟩
end Go.Proofs.Ytmbnomplckhmeaa
