/- What encode.Encode does, said of every call. -/
import Derived.Test.YtmbnomplckhmeaaWe
import Derived.Laws.IdiomStrings
namespace Go.Proofs.Ytmbnomplckhmeaa
open Go.RowKit Go.Proofs Go.Shelf

theorem markCells_bytes (l : List V) : markCells (marksN l) = Lib.byteCells (marksB l) := by
  unfold markCells Lib.byteCells marksB
  rw [List.map_map]
  apply List.map_congr_left
  intro x hx
  obtain ⟨j, hj, e⟩ := List.mem_iff_getElem.1 hx
  have h1 := marksTo_lt l ((l.length + 7) / 8) l.length j x (by rw [← e]; exact List.getElem?_eq_getElem hj)
  have h2 : 2 ^ (min (l.length - 8 * j) 8) ≤ 2 ^ 8 := pow_mono (by omega)
  simp [Lib.toUInt8_toNat (show x < 256 by omega)]
theorem marksB_len (l : List V) : (marksB l).length = (l.length + 7) / 8 := by unfold marksB marksN; rw [List.length_map, marksTo_len]
theorem right_small {k n : Int} {t : ByteArray} (h : rightV k n t = true) : t.size ≤ 40 := by
  unfold rightV at h
  have he : t.toList.isEmpty = true → t.size ≤ 40 := fun h' => by
    have : t.data.toList = [] := by simpa [ByteArray.toList_eq] using h'
    have e : t.size = t.data.toList.length := by rw [Array.length_toList]; rfl
    rw [e, this]; simp
  split at h
  · simp only [Bool.and_eq_true] at h; exact he h.2
  · split at h
    · exact he h
    · split at h
      · simp only [Bool.and_eq_true, rtB, decide_eq_true_eq] at h; exact h.2.1
      · cases h
/-- Numbers of 64 bits, texts that can be. -/
def Okl (l : List V) : Prop := ∀ x ∈ l, -9223372036854775808 ≤ x.2.1 ∧ x.2.1 ≤ 9223372036854775807 ∧ x.2.2.size ≤ maxLen
theorem fits_few {kind : Int} {l : List V} (h : fitsB kind l = true) (ho : Okl l) (hl : l.length ≤ 60) : Few l := by
  refine ⟨hl, fun x hx => ⟨(ho x hx).1, (ho x hx).2.1, ?_⟩⟩
  simp only [fitsB, Bool.and_eq_true, Bool.not_eq_true', List.any_eq_false] at h
  have := h.2 x hx
  simp only [badV, Bool.or_eq_true, not_or, Bool.not_eq_true, Bool.not_eq_false'] at this
  exact right_small this.1
theorem known_few {l : List V} (h : Few l) : Few (known l) :=
  ⟨Nat.le_trans (List.length_filter_le _ _) h.1, fun x hx => h.2 x (List.mem_filter.1 hx).1⟩
theorem fits_kind {kind : Int} {l : List V} (h : fitsB kind l = true) : kind = 1 ∨ kind = 2 := by
  simp only [fitsB, Bool.and_eq_true, Bool.or_eq_true, beq_iff_eq] at h
  exact h.1
/-- What Encode answers. -/
def encRes (kind : Int) (l : List V) : Value :=
  if fitsB kind l then
    if l.length ≤ 60 then .tuple #[.string (str (encB kind l)), .nilIface] else .tuple #[.string ⟨#[]⟩, .iface 44 (.int .i64 4)]
  else .tuple #[.string ⟨#[]⟩, .iface 44 (.int .i64 1)]
theorem fewB_len {kind : Int} {l : List V} (h : Few l) : (fewB kind l).length ≤ 4001 := fewTo_len h 4

set_option maxHeartbeats 4000000 in
set_option maxRecDepth 100000 in
theorem encode_any (kind : Int) (v : Value) (l : List V) (w : World) (hs : Sl w v l) (hl : l.length ≤ 1000) (ho : Okl l) :
    Calls Try.prog 7 #[.int .i64 kind, v] w fun e w' => e = .returned (encRes kind l) ∧ Below w.heap.size w w' := by
  have HF := mkHid (fits_any kind v l w hs hl (fun x hx => (ho x hx).2.2))
  have HS := mkHid hs
  obtain ⟨i5, hi5, hz5, hz15, hz25⟩ := info_parts info5
  have HI5 := mkHid (And.intro hi5 (And.intro hz5 (And.intro hz15 hz25)))
  clear hi5 hz5 hz15 hz25
  obtain ⟨a, c, rfl, _, _⟩ := hs
  cases hf : fitsB kind l with
  | false =>
    rw [hf] at HF
    have HR : Hid (encRes kind l = .tuple #[.string ⟨#[]⟩, .iface 44 (.int .i64 1)]) := mkHid (by unfold encRes; rw [hf]; rfl)
    clear ho hf
    go_enter Try.func7, Try.ntmps7
    go_wp2_with (go_at_call 15; refine HF.out.mono ?_; rintro e w1 ⟨rfl, hb1⟩)
    go_ret2
    exact ⟨by rw [HR.out]; rfl, hb1⟩
  | true =>
    rw [hf] at HF
    by_cases h60 : l.length ≤ 60
    · have HR : Hid (encRes kind l = .tuple #[.string (str (encB kind l)), .nilIface]) := mkHid (by unfold encRes; rw [hf]; simp [h60])
      have HFW := mkHid (fits_few hf ho h60)
      have HK := mkHid (fits_kind hf)
      clear ho hf
      go_enter Try.func7, Try.ntmps7
      go_wp2_with fail
      refine HF.out.mono ?_
      rintro e w1 ⟨rfl, hb1⟩
      have hs1 := hb1.size
      go_wp2_with fail
      refine (append_any w1.heap.size 0 l.length (by omega) _ [] w1 (World.ownsRow_nil _ _ _ _) (Nat.le_refl _) (by omega)).mono ?_
      rintro e w2 ⟨v2, rfl, ho2, hw2⟩
      have hb2 : Below w1.heap.size w1 w2 := hw2.1
      have hs2 := hb2.size
      have hb02 : Below w.heap.size w w2 := hb1.trans (hb2.mono hs1)
      have HM := mkHid (marks_any _ l w2 (HS.out.up hb02) hl)
      go_wp2_with fail
      refine HM.out.mono ?_
      rintro e w3 ⟨v3, rfl, ho3, hb3⟩
      have hs3 := hb3.size
      have HA := mkHid (ownsRow_up ho2 hb3)
      rw [markCells_bytes] at ho3
      have HB := mkHid ho3
      clear ho2 ho3
      have hul : (Lib.uvarint l.length).length ≤ 10 := Lib.uvarint_length64 (by omega)
      go_wp2_with (at_builtin; refine wpList_append_row rfl _ _ 46 rfl w1.heap.size 5 i5 (.int .u8 0) 1 1 Try.underlying46 HI5.out.1 HI5.out.2.1 HI5.out.2.2.1 HI5.out.2.2.2 rfl (by decide) _ _ _ rfl HA.out _ _ _ _ rfl HB.out (byteCells_one _) ?f1 ?f2 ?f3 ?_)
      case f1 => unfold maxLen; omega
      case f2 => omega
      case f3 => omega
      intro v4 w4 ho4 hg4
      have hb14 : Below w1.heap.size w1 w4 := below_grown_own (hb2.trans (hb3.mono hs2)) HA.out hg4 (by omega)
      have hs4 := hb14.size
      have hb04 : Below w.heap.size w w4 := hb1.trans (hb14.mono hs1)
      have HO4 := mkHid ho4
      clear ho4 hg4
      have HKN := mkHid (known_any _ l w4 (HS.out.up hb04) hl)
      go_wp2_with fail
      refine HKN.out.mono ?_
      rintro e w5 ⟨v5, rfl, hS5, hb5⟩
      have hs5 := hb5.size
      have HFE := mkHid (fewest_any kind v5 (known l) w5 hS5 (known_few HFW.out) HK.out)
      clear hS5
      go_wp2_with fail
      refine HFE.out.mono ?_
      rintro e w6 ⟨v6, rfl, ho6, hb6⟩
      have hs6 := hb6.size
      have HA6 := mkHid (ownsRow_up (ownsRow_up HO4.out hb5) hb6)
      have HB6 := mkHid ho6
      have hfl := fewB_len (kind := kind) (known_few HFW.out)
      clear ho6
      go_wp2_with (at_builtin; refine wpList_append_row rfl _ _ 46 rfl w1.heap.size 5 i5 (.int .u8 0) 1 1 Try.underlying46 HI5.out.1 HI5.out.2.1 HI5.out.2.2.1 HI5.out.2.2.2 rfl (by decide) _ _ _ rfl HA6.out _ _ _ _ rfl HB6.out (byteCells_one _) ?f4 ?f5 ?f6 ?_)
      case f4 => unfold maxLen; omega
      case f5 => omega
      case f6 => omega
      intro v7 w7 ho7 hg7
      have hb07 : Below w.heap.size w w7 := hb1.trans ((below_grown_own (hb14.trans ((hb5.mono hs4).trans (hb6.mono (by omega)))) HA6.out hg7 (by omega)).mono hs1)
      have ho8 : w7.ownsRow w1.heap.size 5 1 v7 (encB kind l).length (Lib.byteCells (encB kind l)) := by
        unfold encB
        rw [List.length_append, List.length_append, marksB_len, byteCells_app, byteCells_app]
        simpa using ho7
      obtain ⟨g, cap, rfl, _, _⟩ := ho8.form (by unfold encB; have := Lib.uvarint_pos l.length; simp; omega)
      have hcv : (convert 46 9 (.slice (some ⟨g, 0, none⟩) (encB kind l).length cap)).run Try.prog w7 = .ok (.string (str (encB kind l))) w7 :=
        run_convert_bytes_back w7 46 9 5 ⟨g, 0, none⟩ cap (encB kind l) Try.underlying46 Try.underlying5 Try.underlying9 (fun j hj => ho8.cells rfl j _ (by simp [Lib.byteCells, hj]))
      clear ho7 ho8 hg7
      go_wp2
      go_ret2
      exact ⟨by rw [HR.out]; rfl, hb07⟩
    · have HR : Hid (encRes kind l = .tuple #[.string ⟨#[]⟩, .iface 44 (.int .i64 4)]) := mkHid (by unfold encRes; rw [hf]; simp [h60])
      clear ho hf
      go_enter Try.func7, Try.ntmps7
      go_wp2_with (go_at_call 15; refine HF.out.mono ?_; rintro e w1 ⟨rfl, hb1⟩)
      go_ret2
      exact ⟨by rw [HR.out]; rfl, hb1⟩
end Go.Proofs.Ytmbnomplckhmeaa
