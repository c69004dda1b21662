/- What the reader's runs does, said of every call. -/
import Derived.Test.YtmbnomplckhmeaaWk
namespace Go.Proofs.Ytmbnomplckhmeaa
open Go.RowKit Go.Proofs Go.Shelf

/-- How much is left of the reader at b: nothing, once something is wrong. -/
def mu (w : World) (b : Nat) : Nat :=
  match w.cell? ⟨b, 0, none⟩, w.cell? ⟨b, 1, none⟩ with
  | some (.string t), some (.bool false) => t.size + 1
  | _, _ => 0
theorem mu_ok {w : World} {b : Nat} {k : Int} {l : List UInt8} (h : Rd w b k (l, false)) : mu w b = l.length + 1 := by
  obtain ⟨_, c1, c2, _, _⟩ := rd_cells h
  unfold mu; rw [c1, c2]; simp [str_size]
theorem mu_no {w : World} {b : Nat} {k : Int} {l : List UInt8} (h : Rd w b k (l, true)) : mu w b = 0 := by
  obtain ⟨_, c1, c2, _, _⟩ := rd_cells h
  unfold mu; rw [c1, c2]
theorem runsR_stop {k : Int} {n f : Nat} {D : List V} {st : St} (h : ¬ (D.length < n ∧ st.2 = false)) : runsR k n f D st = (D, st) := by
  cases f with
  | zero => rfl
  | succ f => rw [runsR, if_neg h]
theorem runsR_go {k : Int} {n f : Nat} {D : List V} {st : St} (h : D.length < n ∧ st.2 = false) : runsR k n (f + 1) D st = runsR k n f (runL k n D st) (runSt k n D st) := by
  rw [runsR, if_pos h]

set_option maxHeartbeats 2000000 in
set_option maxRecDepth 100000 in
theorem runs_any (b n : Nat) (k : Int) (s : St) (w : World) (hr : Rd w b k s) (hl : s.1.length ≤ 1000000) (hn : n ≤ 1000) :
    Calls Try.prog 35 #[.pointer (some ⟨b, 0, none⟩), .int .i64 n] w fun e w' => ∃ v', e = .returned v' ∧ w'.ownsRow w.heap.size 32 3 v' (runsR k n (s.1.length + 2) [] s).1.length (flatV (runsR k n (s.1.length + 2) [] s).1) ∧ Rd w' b k (runsR k n (s.1.length + 2) [] s).2 ∧ w.grownBy w' (some b) := by
  obtain ⟨i32, hi32, hz32, hz132, hz232⟩ := info_parts info32
  have HI32 := mkHid (And.intro hi32 (And.intro hz32 (And.intro hz132 hz232)))
  clear hi32 hz32 hz132 hz232
  have hb := hr.lt
  have HR0 := mkHid hr
  clear hr
  go_enter Try.func35, Try.ntmps35
  go_wp2
  go_loopw [5] (fun vl wr => ∃ (f : Nat) (D : List V) (st : St), Hid (runsR k n (s.1.length + 2) [] s = runsR k n f D st ∧ (st.2 = false → st.1.length < f) ∧ st.1.length ≤ s.1.length ∧ D.length ≤ n) ∧ Hid (wr.ownsRow w.heap.size 32 3 vl D.length (flatV D)) ∧ Hid (Rd wr b k st) ∧ Hid (w.grownBy wr (some b))) (fun _ wr => mu wr b)
  case atStart => exact ⟨s.1.length + 2, [], s, mkHid ⟨rfl, fun _ => by omega, Nat.le_refl _, by simp⟩, World.ownsRow_nil _ _ _ _, HR0, grown_refl _ _⟩
  case round =>
    obtain ⟨f, D, ⟨sl, sq⟩, hD, ho, hrd, hg⟩ := hrel
    have hsz := hg.out.size
    have hdn := hD.out.2.2.2
    have hsl := hD.out.2.2.1
    simp only at hsl
    obtain ⟨ad, cd, rfl, _, _⟩ := Sl_of_owns ho.out
    obtain ⟨q0, q1, q2, z1, z2⟩ := rd_cells hrd.out
    simp only at q2
    by_cases hlt : D.length < n
    · cases sq with
      | true =>
        have HE : Hid (runsR k n (s.1.length + 2) [] s = (D, (sl, true))) := mkHid (by rw [hD.out.1, runsR_stop (by simp)])
        go_wp2_with fail
        refine (wrong_any b k _ wr hrd.out).mono ?_
        rintro e wr ⟨rfl, rfl⟩
        go_wp2
        go_ret
        rw [HE.out]
        exact ⟨_, rfl, ho.out, hrd.out, hg.out⟩
      | false =>
        have hfl := hD.out.2.1 rfl
        have HMU := mkHid (mu_ok hrd.out)
        obtain ⟨f1, rfl⟩ : ∃ f1, f = f1 + 1 := ⟨f - 1, by simp only at hfl; omega⟩
        have HG : Hid (runsR k n (s.1.length + 2) [] s = runsR k n f1 (runL k n D (sl, false)) (runSt k n D (sl, false))) := mkHid (by rw [hD.out.1, runsR_go ⟨hlt, rfl⟩])
        have em : ((n - D.length : Nat) : Int) = (n : Int) - (D.length : Int) := by omega
        have HC := upTo_any b k ((n - D.length : Nat) : Int) (sl, false) wr hrd.out (by simp only; omega) (by omega) (by omega)
        have hu1 := upToR_le ((n - D.length : Nat) : Int) (sl, false)
        have hu2 := upToR_len ((n - D.length : Nat) : Int) (sl, false)
        have hu3 := @upToR_less ((n - D.length : Nat) : Int) (sl, false)
        have HL : Hid (runL k n D (sl, false) = D ++ List.replicate (upToR ((n - D.length : Nat) : Int) (sl, false)).1 (valueR k (upToR ((n - D.length : Nat) : Int) (sl, false)).2).1) := mkHid rfl
        have HT : Hid (runSt k n D (sl, false) = (valueR k (upToR ((n - D.length : Nat) : Int) (sl, false)).2).2) := mkHid rfl
        rw [HL.out, HT.out] at HG
        generalize upToR ((n - D.length : Nat) : Int) (sl, false) = R at *
        obtain ⟨rn, s1⟩ := R
        simp only at hu1 hu2 hu3 HG
        rw [em] at HC hu1
        have HC := mkHid HC
        have HV := mkHid (fun W hW => value_any b k s1 W hW (by omega))
        have hv2 := valueR_len k s1
        have hv3 := @valueR_wrong k s1
        generalize valueR k s1 = Q at *
        obtain ⟨⟨kx, nx, tx⟩, ⟨s2l, s2q⟩⟩ := Q
        simp only at hv2 hv3 HG HV
        have hrn : rn ≤ n - D.length := by omega
        have hdl : (D.length : Int) < (n : Int) := by omega
        clear HL HT em hu1
        go_wp2_with fail
        refine (wrong_any b k _ wr hrd.out).mono ?_
        rintro e wr ⟨rfl, rfl⟩
        go_wp2_with fail
        refine HC.out.mono ?_
        rintro e w1 ⟨rfl, hR1, hg1⟩
        go_wp2_with fail
        refine (HV.out _ hR1).mono ?_
        rintro e w2 ⟨rfl, hR2, hg2⟩
        have hg12 := grown_trans hg1 hg2
        have hs2 := hg12.size
        have HO2 := mkHid (ownsRow_rd ho.out hb hg12)
        have HG2 := mkHid (grown_trans hg.out hg12)
        have HR2 := mkHid hR2
        have HBX : Hid ((w2.alloc (.cells #[.int .i64 kx, .int .i64 nx, .string tx] 32)).heap[w2.heap.size]? = some (.cells #[.int .i64 kx, .int .i64 nx, .string tx] 32)) := heap_alloc_new _ _
        have HNE : Hid (∀ j, (Value.slice ad D.length cd).ownBlock = some j → j ≠ w2.heap.size) := mkHid fun j hj => by have := (HO2.out.lt j hj).2; omega
        clear hR2 hg12 hg1 hg2 hR1
        go_wp2
        go_loopw [5, 30] (fun vl vi wi => ∃ j : Nat, j ≤ rn ∧ vi = .int .i64 j ∧ Hid (wi.ownsRow w.heap.size 32 3 vl (D.length + j) (flatV (D ++ List.replicate j (kx, nx, tx)))) ∧ Hid (∀ i, vl.ownBlock = some i → i ≠ w2.heap.size) ∧ Hid (wi.heap[w2.heap.size]? = some (.cells #[.int .i64 kx, .int .i64 nx, .string tx] 32)) ∧ Hid (Rd wi b k (s2l, s2q)) ∧ Hid (w.grownBy wi (some b))) (fun _ vi _ => rn - (intOf vi).toNat)
        case atStart => exact ⟨0, Nat.zero_le _, rfl, mkHid (by simpa using HO2.out.alloc _), HNE, HBX, mkHid (HR2.out.alloc _), mkHid (grown_alloc HG2.out _)⟩
        case round =>
          obtain ⟨j, hj, rfl, hoi, hnei, hbx, hri, hgi⟩ := hrel
          have hszi := hgi.out.size
          by_cases hjl : j < rn
          · obtain ⟨y0, y1, y2⟩ := cell_box hbx.out
            have hbl := blk_lt hbx.out
            go_wp2_with (at_builtin; refine wpList_append_lies _ rfl _ _ 22 rfl w.heap.size 32 i32 (.agg #[.int .i64 0, .int .i64 0, .string ⟨#[]⟩]) 3 32 Try.underlying22 HI32.out.1 HI32.out.2.1 HI32.out.2.2.1 HI32.out.2.2.2 rfl (by decide) _ _ _ rfl (hoi.out.alloc _) ⟨wr.heap.size, 0, none⟩ 1 1 [.int .i64 kx, .int .i64 nx, .string tx] rfl rfl ?c1 ?c2 ?c3 ?c4 ?c5 ?c6 _ rfl ?_)
            case c1 => exact fun j u hj => World.news_of_block (heap_alloc_new _ _) j u hj
            case c2 => exact flatV_one [(kx, nx, tx)]
            case c3 => omega
            case c4 => unfold maxLen; omega
            case c5 => omega
            case c6 => simp; omega
            intro g cap w4 ho4 hg4 hat hlt4
            have hR4 := (hri.out.alloc (.cells #[.int .i64 kx, .int .i64 nx, .string tx] 32)).app (hoi.out.alloc _) hb hg4
            have hG4 := grown_app (grown_alloc hgi.out (.cells #[.int .i64 kx, .int .i64 nx, .string tx] 32)) (hoi.out.alloc _) (Nat.le_refl _) hg4
            have hB4 : w4.heap[w2.heap.size]? = some (.cells #[.int .i64 kx, .int .i64 nx, .string tx] 32) := (hg4.block w2.heap.size (by simp; omega) (fun e => hnei.out _ e.symm rfl)).trans ((Below.heap_alloc _ _ _ hbl).trans hbx.out)
            have hN4 : ∀ i, (Value.slice (some ⟨g, 0, none⟩) (D.length + j + 1) cap).ownBlock = some i → i ≠ w2.heap.size := fun i hi => by
              have e : g = i := by simpa [Value.ownBlock] using hi
              subst e
              rcases hat with h | h
              · exact hnei.out _ h
              · omega
            go_wp2
            refine ⟨⟨j + 1, by omega, by go_num, mkHid ?_, mkHid hN4, mkHid hB4, mkHid hR4, mkHid hG4⟩, by simp [intOf]; omega⟩
            rw [List.replicate_succ', ← List.append_assoc, flatV_app]; exact ho4
          · have ej : j = rn := by omega
            subst ej
            go_wp2
            refine ⟨⟨f1, D ++ List.replicate j (kx, nx, tx), (s2l, s2q), mkHid ⟨HG.out, ?_, ?_, ?_⟩, mkHid (by rw [List.length_append, List.length_replicate]; exact hoi.out), hri, hgi⟩, ?_⟩
            · intro h
              have h1 : s1.2 = false := by cases h2 : s1.2 with
                | false => rfl
                | true => have := hv3 h2; rw [this] at h; cases h
              have h2 := hu3 h1
              simp only at hfl ⊢; omega
            · simp only; omega
            · rw [List.length_append, List.length_replicate]; omega
            · rw [HMU.out]
              cases s2q with
              | true => rw [mu_no hri.out]; omega
              | false =>
                rw [mu_ok hri.out]
                have h1 : s1.2 = false := by cases h2 : s1.2 with
                  | false => rfl
                  | true => have := hv3 h2; cases this
                have h2 := hu3 h1
                omega
    · have HE : Hid (runsR k n (s.1.length + 2) [] s = (D, (sl, sq))) := mkHid (by rw [hD.out.1, runsR_stop (by simp [hlt])])
      have hdl : ¬ (D.length : Int) < (n : Int) := by omega
      go_wp2
      go_ret
      rw [HE.out]
      exact ⟨_, rfl, ho.out, hrd.out, hg.out⟩
end Go.Proofs.Ytmbnomplckhmeaa
