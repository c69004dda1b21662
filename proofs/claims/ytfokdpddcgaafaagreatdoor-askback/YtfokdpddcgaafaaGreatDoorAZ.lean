/- What ask.whole and ask.Cond do, said of every call. -/
import Derived.Test.YtfokdpddcgaafaaGreatDoorAY
namespace Go.Proofs.YtfokdpddcgaafaaGreatDoor
open Go.RowKit Go.Proofs Go.Lib Go.Proofs.YtfokdpddcgaafaaGreatDoor.Ask

def CPost (l : List UInt8) (w : World) (e : Ending) (w' : World) : Prop :=
  ∃ o, Reads nmL rtL l o ∧ Below w.heap.size w w' ∧ match o with
    | none => ∃ t x, e = .returned (.tuple #[.pointer none, .iface t x])
    | some none => e = .returned (.tuple #[.pointer none, .nilIface])
    | some (some T) => ∃ p, e = .returned (.tuple #[.pointer p, .nilIface]) ∧ S.InC w' (ctOf T) (.pointer p)
theorem InC_set {W : World} {R i : Nat} {cs : Array Value} {t : TypeId} {a : Value} (hk : W.heap[R]? = some (.cells cs t)) (ht : t ≠ 63) : ∀ {T : Deep.BT S.Nd} {v : Value}, S.InC W T v → S.InC (W.setCell ⟨R, i, none⟩ a) T v
  | .nil, _, h => h
  | .node _ _ ⟨_, _, _, _, _⟩ _ _, _, ⟨b, pl, pr, e, hh, hcd, hl, hr⟩ => ⟨b, pl, pr, e, by
      have hb : b ≠ R := by
        intro e
        subst e
        rw [hk] at hh
        injection hh with hh
        injection hh with _ hh
        exact ht hh
      exact (Below.heap_setCell W ⟨R, i, none⟩ a b hb).trans hh, hcd, InC_set hk ht hl, InC_set hk ht hr⟩
/-- A reader of one's own is laid. -/
theorem Rd.make {W : World} {g c : Nat} {ts : List Tok} (hl : Lies W g 0 ts) (hc : ts.length + 1 ≤ c) : Rd (W.alloc (.cells #[.slice (some ⟨g, 0, none⟩) (ts.length + 1) c] 59)) W.heap.size ts := by
  have hg : g < W.heap.size := by
    obtain ⟨_, _, q, _⟩ := hl.head
    exact blk_lt q
  have hk := heap_alloc_new W (.cells #[.slice (some ⟨g, 0, none⟩) (ts.length + 1) c] 59)
  refine ⟨⟨g, 0, c, by rw [cellsAt hk]; rfl, hc, by omega, hl.same (Below.heap_alloc _ _ _ hg)⟩, ?_⟩
  unfold World.frozen?
  rw [hk]
  rfl
/-- Where what was thrown is caught. -/
structure Caught (w W : World) : Prop where
  low : Below w.heap.size w W
  box : W.heap[w.heap.size]? = some (.cells #[.nilIface] 28)
theorem Caught.cell {w W : World} (h : Caught w W) : W.cell? ⟨w.heap.size, 0, none⟩ = some .nilIface := by rw [cellsAt h.box]; rfl
theorem Caught.fro {w W : World} (h : Caught w W) : W.frozen? ⟨w.heap.size, 0, none⟩ = false := by simp [World.frozen?, h.box]
theorem Caught.up {w W V : World} (h : Caught w W) (hb : Below W.heap.size W V) : Caught w V :=
  ⟨h.low.trans (hb.mono h.low.size), (hb.block _ (blk_lt h.box)).trans h.box⟩
theorem Caught.past {w W V : World} {B : Nat} (h : Caught w W) (hB : w.heap.size < B) (hp : Past B W V) : Caught w V :=
  ⟨h.low.trans (hp.low.mono (by omega)), (hp.keep _ (blk_lt h.box) (by omega)).trans h.box⟩
set_option maxHeartbeats 8000000 in
set_option maxRecDepth 100000 in
theorem whole_any (s : ByteArray) (w : World) (hs : s.size ≤ 1000000) (hm : MkB w) (hg : GB w) (hw : 10 ≤ w.heap.size) :
    Calls Tryz.prog 12 #[.string s, .func (.func 13) #[] #[]] w (CPost s.data.toList w) := by
  have HM := mkH hm
  have HG := mkH hg
  have HW := mkH hw
  have hmf := hmfA
  have HTK : Hid (∀ V, Below w.heap.size w V → Calls Tryz.prog 28 #[.string s] V (TsPost s.data.toList V)) := fun V hb => tokens_any s V hs (hm.below hb)
  clear hm hg hw hs
  unfold CPost
  unfold TsPost at HTK
  generalize s.data.toList = sl at *
  go_enter_defers Tryz.func12, Tryz.ntmps12
  go_wp2_with fail
  have HA0 : Hid (Below w.heap.size w (w.alloc (.cells #[.nilIface] 28))) := mkH ((Below.refl _ _).alloc (Nat.le_refl _) _)
  have HK0 := mkH (heap_alloc_new w (.cells #[.nilIface] 28))
  refine (HTK.out _ HA0.out).mono ?_
  rintro e w1 ⟨o, hts, hb1, ⟨rfl, ad, rfl⟩ | ⟨ts, g, c, rfl, rfl, hc, hg1, hli, hok⟩⟩
  · have HCA : Hid (Caught w w1) := mkH ((⟨HA0.out, HK0.out⟩ : Caught w _).up hb1)
    have HRE : Hid (Reads nmL rtL sl none) := mkH (.bad hts)
    clear hb1 hts HTK
    refine leaves_cons (f := 27) (args := #[.pointer (some ⟨w.heap.size, 0, none⟩)]) (by simp) (by simp [go_sem]) ?_
    refine (catch_thrown ⟨w.heap.size, 0, none⟩ ad .nilIface _ HCA.out.cell HCA.out.fro).mono ?_
    rintro e u' w'' ⟨rfl, rfl, rfl⟩
    have c1 := HCA.out.cell
    simp [Leaves, settle, results, Tryz.results12, go_sem, c1]
    exact ⟨none, HRE.out, HCA.out.low.setCell (Nat.le_refl _) _, trivial⟩
  have HCA1 : Hid (Caught w w1) := mkH ((⟨HA0.out, HK0.out⟩ : Caught w _).up hb1)
  have HTS := mkH hts
  have HOK := mkH hok
  have HKI := mkH (ts_kinds hts _ rfl)
  have HR2 := mkH (Rd.make hli hc)
  have hs1 := Nat.lt_of_lt_of_le (show w.heap.size < (w.alloc (.cells #[.nilIface] 28)).heap.size by simp) hb1.size
  have HS1 := mkH hs1
  have HA1 : Hid (Below w1.heap.size w1 (w1.alloc (.cells #[.slice (some ⟨g, 0, none⟩) (ts.length + 1) c] 59))) := mkH ((Below.refl _ _).alloc (Nat.le_refl _) _)
  have HCA2 := mkH (HCA1.out.up HA1.out)
  have HG2 := mkH (HG.out.below HCA2.out.low)
  have HNG := mkH (Nat.le_of_lt (Nat.lt_of_le_of_lt HW.out hs1))
  clear hts hok hli hc hb1 hs1 hg1 HTK
  go_wp2_with fail
  refine (cond1_any w1.heap.size ts _ HR2.out HOK.out HG2.out HNG.out).mono ?_
  rintro e w3 (⟨h0, rfl, hp3, hr3⟩ | ⟨h0, o, hpr, hp3, ⟨rfl, ad, rfl⟩ | ⟨T, r, v, rfl, hs, rfl, hin, hr3⟩⟩)
  · have hts0 : ts = [] := (hd_zero HKI.out).mp h0
    subst hts0
    have HCA3 := mkH (HCA2.out.past HS1.out hp3)
    have HR3 := mkH hr3
    have HRE : Hid (Reads nmL rtL sl (some none)) := mkH (.blank HTS.out)
    clear hp3 hr3 h0
    go_wp2_with fail
    refine (needs_any w1.heap.size 0 [] [] w3 HR3.out (by simp)).mono ?_
    rintro e w4 ⟨hp4, ⟨q4, rfl, hr4⟩ | ⟨q4, _⟩⟩
    rotate_left
    · exact absurd q4 (by decide)
    have HCA := mkH (HCA3.out.past HS1.out hp4)
    clear hp4 hr4 q4
    have c1 := HCA.out.cell
    have f1 := HCA.out.fro
    go_wp2
    refine leaves_cons (f := 27) (args := #[.pointer (some ⟨w.heap.size, 0, none⟩)]) (by simp) (by simp [go_sem]) ?_
    refine (catch_idle ⟨w.heap.size, 0, none⟩ _).mono ?_
    rintro e u' w'' ⟨rfl, rfl, rfl⟩
    simp [Leaves, settle, results, Tryz.results12, go_sem, c1]
    exact ⟨_, HRE.out, HCA.out.low.setCell (Nat.le_refl _) _, by simp⟩
  · have HCA := mkH (HCA2.out.past HS1.out hp3)
    have hne : ts ≠ [] := fun h => h0 ((hd_zero HKI.out).mpr h)
    have HRE : Hid (Reads nmL rtL sl none) := mkH (.no HTS.out hne hpr)
    clear hpr hp3 h0 hne
    refine leaves_cons (f := 27) (args := #[.pointer (some ⟨w.heap.size, 0, none⟩)]) (by simp) (by simp [go_sem]) ?_
    refine (catch_thrown ⟨w.heap.size, 0, none⟩ ad .nilIface _ HCA.out.cell HCA.out.fro).mono ?_
    rintro e u' w'' ⟨rfl, rfl, rfl⟩
    have c1 := HCA.out.cell
    simp [Leaves, settle, results, Tryz.results12, go_sem, c1]
    exact ⟨none, HRE.out, HCA.out.low.setCell (Nat.le_refl _) _, trivial⟩
  have hne : ts ≠ [] := fun h => h0 ((hd_zero HKI.out).mpr h)
  have HNE := mkH hne
  have HPR := mkH hpr
  have HCA3 := mkH (HCA2.out.past HS1.out hp3)
  obtain ⟨pv, rfl⟩ := InC_ptr hin
  have HIN := mkH hin
  have HR3 := mkH hr3
  have HKR : Hid (∀ t ∈ r, t.kind ≠ 0) := mkH (fun t ht => HKI.out t (hs.subset ht))
  have HOR := mkH (HOK.out.suffix hs)
  clear hpr hp3 h0 hne hin hr3 hs
  go_wp2_with fail
  refine (needs_any w1.heap.size 0 [] r w3 HR3.out HOR.out.len).mono ?_
  rintro e w4 ⟨hp4, ⟨q4, rfl, hr4⟩ | ⟨q4, ad, rfl⟩⟩
  · have hr0 : r = [] := (hd_end HKR.out).mp q4
    subst hr0
    have HRE : Hid (Reads nmL rtL sl (some (some T))) := mkH (.cond HTS.out HNE.out HPR.out)
    have HCA := mkH (HCA3.out.past HS1.out hp4)
    have HI4 := mkH (InC_past HR3.out hp4 HIN.out)
    clear hp4 hr4 q4
    have c1 := HCA.out.cell
    have f1 := HCA.out.fro
    go_wp2
    refine leaves_cons (f := 27) (args := #[.pointer (some ⟨w.heap.size, 0, none⟩)]) (by simp) (by simp [go_sem]) ?_
    refine (catch_idle ⟨w.heap.size, 0, none⟩ _).mono ?_
    rintro e u' w'' ⟨rfl, rfl, rfl⟩
    simp [Leaves, settle, results, Tryz.results12, go_sem, c1]
    exact ⟨_, HRE.out, HCA.out.low.setCell (Nat.le_refl _) _, InC_set HCA.out.box (by decide) HI4.out⟩
  · have hr0 : r ≠ [] := fun h => by rw [(hd_end HKR.out).mpr h] at q4; cases q4
    have HRE : Hid (Reads nmL rtL sl none) := mkH (.more HTS.out HNE.out HPR.out hr0)
    have HCA := mkH (HCA3.out.past HS1.out hp4)
    clear hp4 q4 hr0
    refine leaves_cons (f := 27) (args := #[.pointer (some ⟨w.heap.size, 0, none⟩)]) (by simp) (by simp [go_sem]) ?_
    refine (catch_thrown ⟨w.heap.size, 0, none⟩ ad .nilIface _ HCA.out.cell HCA.out.fro).mono ?_
    rintro e u' w'' ⟨rfl, rfl, rfl⟩
    have c1 := HCA.out.cell
    simp [Leaves, settle, results, Tryz.results12, go_sem, c1]
    exact ⟨none, HRE.out, HCA.out.low.setCell (Nat.le_refl _) _, trivial⟩
set_option maxHeartbeats 2000000 in
theorem Cond_any (s : ByteArray) (w : World) (hs : s.size ≤ 1000000) (hm : MkB w) (hg : GB w) (hw : 10 ≤ w.heap.size) :
    Calls Tryz.prog 6 #[.string s] w (CPost s.data.toList w) := by
  have H := mkH (whole_any s w hs hm hg hw)
  have hmf := hmfA
  clear hs hm hg hw
  unfold CPost at H ⊢
  go_enter Tryz.func6, Tryz.ntmps6
  go_wp2_with fail
  refine H.out.mono ?_
  rintro e w1 ⟨o, hre, hb1, ho⟩
  have HX := mkH (And.intro hre hb1)
  clear hre hb1
  match o, ho, HX with
  | none, ⟨t, x, he⟩, HX =>
    subst he
    go_wp2
    go_ret2
    exact ⟨none, HX.out.1, HX.out.2, t, x, rfl⟩
  | some none, he, HX =>
    subst he
    go_wp2
    go_ret2
    exact ⟨some none, HX.out.1, HX.out.2, rfl⟩
  | some (some T), ⟨p, he, hin⟩, HX =>
    have HI := mkH hin
    clear hin
    subst he
    go_wp2
    go_ret2
    exact ⟨some (some T), HX.out.1, HX.out.2, p, rfl, HI.out⟩
end Go.Proofs.YtfokdpddcgaafaaGreatDoor
