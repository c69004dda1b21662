/- What log.Print does, said of every call. -/
import Derived.Test.YtfppidnfomelpaaGreatDoorP7
namespace Go.Proofs.YtfppidnfomelpaaGreatDoor
open Go.RowKit Go.Proofs Go.Lib Go.Joins

def readsW : ByteArray := ⟨#[114, 101, 97, 100, 115]⟩
def blindW : ByteArray := ⟨#[98, 108, 105, 110, 100]⟩
def headB (tx : ByteArray) (rd : Bool) : ByteArray := ⟨#[99, 111, 109, 109, 105, 116, 32]⟩ ++ tx ++ ⟨#[32]⟩ ++ eitherB rd readsW blindW ++ ⟨#[10]⟩
def linesL (l : List Actn) : List UInt8 := l.flatMap fun a => (lineB a).data.toList ++ [10]
def printL (c : Com) : List UInt8 := (headB c.1 c.2.1).data.toList ++ linesL c.2.2
def printB (c : Com) : ByteArray := ⟨(printL c).toArray⟩
def printOk (c : Com) : Bool := nameB c.1 && c.2.2.all rightA
def printE (c : Com) : Value := if printOk c then .tuple #[.string (printB c), .nilIface] else .tuple #[.string ⟨#[]⟩, .iface 73 (.int .i64 1)]

theorem linesL_snoc (l : List Actn) (a : Actn) : linesL (l ++ [a]) = linesL l ++ ((lineB a).data.toList ++ [10]) := by simp [linesL]
theorem builder_up {T e : TypeId} {B b : Nat} {p : Value} {bs : List Value} {w W : World} (h : Lib.BuilderAt T e B b p bs w) (hb : Below w.heap.size w W) : Lib.BuilderAt T e B b p bs W := by
  obtain ⟨h1, v, h2, h3, h4⟩ := h
  exact ⟨h1, v, (hb.block b (blk_lt h2)).trans h2, own_up h3 hb, h4⟩
theorem isb_up {T e : TypeId} {B b : Nat} {bs : List Value} {w W : World} (h : Lib.IsBuilder T e B b bs w) (hb : Below w.heap.size w W) : Lib.IsBuilder T e B b bs W := by
  rcases h with h | h
  · exact .inl (builder_up h hb)
  · exact .inr (builder_up h hb)
theorem isb_lt {T e : TypeId} {B b : Nat} {bs : List Value} {w : World} (h : Lib.IsBuilder T e B b bs w) : b < w.heap.size := by
  rcases h with h | h <;> exact h.lt
theorem strCells_list (s : ByteArray) : Lib.strCells s = Lib.byteCells s.data.toList := rfl
theorem byteCells_app (a b : List UInt8) : Lib.byteCells (a ++ b) = Lib.byteCells a ++ Lib.byteCells b := by simp [Lib.byteCells]
theorem headB_size {tx : ByteArray} (rd : Bool) (h : tx.size ≤ 100) : (headB tx rd).size ≤ 114 := by
  have e1 : (⟨#[99, 111, 109, 109, 105, 116, 32]⟩ : ByteArray).size = 7 := rfl
  have e2 : (⟨#[32]⟩ : ByteArray).size = 1 := rfl
  have e3 : (⟨#[10]⟩ : ByteArray).size = 1 := rfl
  have e4 : (eitherB rd readsW blindW).size = 5 := by cases rd <;> rfl
  unfold headB
  simp only [bsize_app]
  omega
theorem linesL_len {l : List Actn} (h : ∀ a ∈ l, LineOk a) : (linesL l).length ≤ l.length * 61001 := by
  induction l with
  | nil => simp [linesL]
  | cons a l ih =>
    have h1 := lineB_size (h a (List.mem_cons_self ..))
    have h2 := ih (fun b hb => h b (List.mem_cons_of_mem _ hb))
    have e : (linesL (a :: l)).length = (lineB a).data.toList.length + 1 + (linesL l).length := by
      simp only [linesL, List.flatMap_cons, List.length_append, List.length_cons, List.length_nil]
    have e2 : (lineB a).data.toList.length = (lineB a).size := by simp
    rw [e, e2, List.length_cons, Nat.succ_mul]
    omega

theorem lines_bound {acts : List Actn} {k : Nat} (hn : acts.length ≤ 600000) (hlt : k < acts.length) (hok : ∀ a ∈ acts, rightA a = true → LineOk a) (hr : ∀ j, j < k → rightA acts[j]! = true) : (linesL (acts.take k)).length ≤ 36600600000 := by
  have h1 := linesL_len (l := acts.take k) (fun a ha => by
    obtain ⟨j, hj, rfl⟩ := List.getElem_of_mem ha
    have hj' : j < k ∧ j < acts.length := by simpa [Nat.lt_min] using hj
    rw [List.getElem_take]
    have h1 := hr j hj'.1
    rw [getElem!_pos acts j hj'.2] at h1
    exact hok _ (List.getElem_mem hj'.2) h1)
  have h2 : (acts.take k).length ≤ 600000 := by rw [List.length_take]; omega
  omega
theorem write_bound {tx : ByteArray} {rd : Bool} {pl : List UInt8} {ls : ByteArray} (h1 : (headB tx rd).size ≤ 114) (h2 : pl.length ≤ 36600600000) (h3 : ls.size ≤ 61000) : (Lib.byteCells ((headB tx rd).data.toList ++ pl)).length + (ls ++ ⟨#[10]⟩).size ≤ 140737488355328 := by
  have e9 : (⟨#[10]⟩ : ByteArray).size = 1 := rfl
  have e10 : (headB tx rd).data.toList.length = (headB tx rd).size := by simp
  rw [Lib.byteCells_length, List.length_append, bsize_app, e9, e10]
  omega

set_option maxHeartbeats 1000000 in
set_option maxRecDepth 100000 in
theorem print_any (tx : ByteArray) (rd : Bool) (acts : List Actn) (aa : Option Addr) (an ac : Nat) (w : World) (ha : ActsAt w (.slice aa an ac) acts) (hn : acts.length ≤ 600000) (htx : tx.size ≤ maxLen) (hok : ∀ a ∈ acts, rightA a = true → LineOk a) (hw : NcB w) (ht : TabB w) :
    Calls Tryz.prog 8 #[.agg #[.string tx, .bool rd, .slice aa an ac]] w fun e w' => e = .returned (printE (tx, rd, acts)) ∧ Below w.heap.size w w' := by
  have han := ha.len
  subst han
  have HNA := mkH (fun W => name_any tx W htx)
  have HA := mkH ha
  have HW := mkH hw
  have HT := mkH ht
  have HOK := mkH hok
  have HB0 : Hid (Below w.heap.size w (w.alloc (.cells #[.string tx, .bool rd, .slice aa acts.length ac] 24))) := (Below.refl _ _).alloc (Nat.le_refl _) _
  have HX0 := mkH (heap_alloc_new w (.cells #[.string tx, .bool rd, .slice aa acts.length ac] 24))
  clear ha hw ht hok htx
  cases hnb : nameB tx with
  | false =>
    rw [hnb] at HNA
    have HR : Hid (printE (tx, rd, acts) = .tuple #[.string ⟨#[]⟩, .iface 73 (.int .i64 1)]) := by simp [Hid, printE, printOk, hnb]
    generalize printE (tx, rd, acts) = res at HR ⊢
    go_enter Tryz.func8, Tryz.ntmps8
    go_wp2_with (go_at_call 22; refine (HNA.out _).mono ?_; rintro e w1 ⟨rfl, hb1⟩)
    go_ret2
    exact ⟨by rw [HR.out]; rfl, HB0.out.trans (hb1.mono (by simp))⟩
  | true =>
    rw [hnb] at HNA
    have htx := name_small hnb
    have HNO : Hid (∀ k, k < acts.length → rightA acts[k]! = false → printE (tx, rd, acts) = .tuple #[.string ⟨#[]⟩, .iface 73 (.int .i64 1)]) := fun k hk hr => by
      have : acts.all rightA = false := by
        rw [List.all_eq_false]
        exact ⟨acts[k]!, by rw [getElem!_pos acts k hk]; exact List.getElem_mem hk, by rw [hr]; simp⟩
      simp [printE, printOk, this]
    have HYES : Hid ((∀ k, k < acts.length → rightA acts[k]! = true) → printE (tx, rd, acts) = .tuple #[.string (printB (tx, rd, acts)), .nilIface]) := fun hh => by
      have : acts.all rightA = true := by
        rw [List.all_eq_true]
        intro x hx
        obtain ⟨k, hk, rfl⟩ := List.getElem_of_mem hx
        have := hh k hk
        rwa [getElem!_pos acts k hk] at this
      simp [printE, printOk, this, hnb]
    have HEI : Hid (∀ W, Calls Tryz.prog 24 #[.bool rd, .string ⟨#[114, 101, 97, 100, 115]⟩, .string ⟨#[98, 108, 105, 110, 100]⟩] W fun e w' => e = .returned (.string (eitherB rd readsW blindW)) ∧ w' = W) := fun W => either_any rd readsW blindW W
    have e24 : ∀ args w, (callFunc 24 args).run Tryz.prog w = .ok (.enter 24 args) w := enters_of Tryz.func24 (by kernel_rfl) rfl
    have e23 : ∀ args w, (callFunc 23 args).run Tryz.prog w = .ok (.enter 23 args) w := enters_of Tryz.func23 (by kernel_rfl) rfl
    have HE24 := mkH e24
    have HE23 := mkH e23
    have hes : (eitherB rd readsW blindW).size = 5 := by cases rd <;> rfl
    have HHB : Hid (headB tx rd = ⟨#[99, 111, 109, 109, 105, 116, 32]⟩ ++ tx ++ ⟨#[32]⟩ ++ eitherB rd readsW blindW ++ ⟨#[10]⟩) := rfl
    have HHS := mkH (headB_size rd (Nat.le_trans htx (by decide)))
    generalize eitherB rd readsW blindW = ew at HEI hes HHB
    clear e24 e23
    go_enter Tryz.func8, Tryz.ntmps8
    go_wp2_with fail
    generalize w.alloc (.cells #[.string tx, .bool rd, .slice aa acts.length ac] 24) = wa at *
    refine (HNA.out _).mono ?_
    rintro e w1 ⟨rfl, hb1⟩
    have HB1 := mkH (Below.ups HB0.out hb1)
    have hs0 : w.heap.size < wa.heap.size := blk_lt HX0.out
    have hs1 := hb1.size
    have HX1 := mkH ((hb1.block w.heap.size hs0).trans HX0.out)
    clear hb1 HX0 HB0
    have HB2 : Hid (Below w1.heap.size w1 (w1.alloc (.cells #[.pointer none, .slice none 0 0] 77))) := (Below.refl _ _).alloc (Nat.le_refl _) _
    have HBD : Hid (Lib.IsBuilder 77 5 w1.heap.size w1.heap.size [] (w1.alloc (.cells #[.pointer none, .slice none 0 0] 77))) := .inl ⟨Nat.le_refl _, _, heap_alloc_new w1 _, World.ownsRow_nil _ _ _ _, by simp [Value.ownBlock]⟩
    go_wp2_with fail
    have hs2 : w1.heap.size < (w1.alloc (.cells #[.pointer none, .slice none 0 0] 77)).heap.size := by simp
    have HS2 := mkH hs2
    clear hs2
    generalize w1.alloc (.cells #[.pointer none, .slice none 0 0] 77) = w2 at *
    have HX2 := mkH ((HB2.out.block w.heap.size (by omega)).trans HX1.out)
    obtain ⟨x0, x1, x2, _⟩ := cells3 HX2.out
    have HWS : Hid (∀ s : ByteArray, s.size ≤ 114 → Calls Tryz.prog 23 #[.pointer (some ⟨w1.heap.size, 0, none⟩), .string s] w2.drew fun e w' => e = .returned (.tuple #[.int .i64 s.size, .nilIface]) ∧ (Lib.BuilderAt 77 5 w1.heap.size w1.heap.size (.pointer (some ⟨w1.heap.size, 0, none⟩)) ([] ++ Lib.strCells s) w' ∧ Below w1.heap.size w2.drew w')) := mkH (fun s hs => writeString_any w1.heap.size w1.heap.size [] s w2.drew HBD.out (by simp; omega) (by show w1.heap.size ≤ w2.heap.size; have := HS2.out; omega))
    have n1 : ¬ 9223372036854775807 < 7 + tx.size := by omega
    have n2 : ¬ 9223372036854775807 < 7 + tx.size + 1 := by omega
    have n3 : ¬ 9223372036854775807 < 7 + tx.size + 1 + 5 := by omega
    have n4 : ¬ 9223372036854775807 < 7 + tx.size + 1 + 5 + 1 := by omega
    go_region_law
      (first
        | (refine step_call3 (by rfl) 24 (.tmp 17) (.const (.string ⟨#[114, 101, 97, 100, 115]⟩)) (.const (.string ⟨#[98, 108, 105, 110, 100]⟩)) 4 9 9 (by rfl) (.bool rd) (.string ⟨#[114, 101, 97, 100, 115]⟩) (.string ⟨#[98, 108, 105, 110, 100]⟩) (by rfl) (by rfl) (by rfl) HE24.out _ (HEI.out _) ?_
           rintro e w4 ⟨rfl, rfl⟩
           refine ⟨_, rfl, ?_⟩)
        | (refine step_call2 (by rfl) 23 (.tmp 4) (.tmp 20) 77 9 (by rfl) _ _ rfl rfl HE23.out _ (HWS.out _ (by rw [← HHB.out]; exact HHS.out)) ?_
           rintro e w4 ⟨rfl, hbd4, hb4⟩
           have HBD4 := mkH hbd4
           have HB4 : Hid (Below w1.heap.size w2 w4) := mkH ((Below.refl _ _).drew.trans hb4)
           clear hbd4 hb4
           refine ⟨_, rfl, ?_⟩)
        | fail)
    all_goals
      have hs4 : w1.heap.size < w4.heap.size := HBD4.out.lt
      have HBW4 : Hid (Below w.heap.size w w4) := mkH (HB1.out.trans ((HB2.out.trans HB4.out).mono (by omega)))
      have HX4 := mkH ((HB4.out.block w.heap.size (by omega)).trans HX2.out)
      clear x0 x1 x2
      obtain ⟨x0, x1, x2, _⟩ := cells3 HX4.out
      have HBB4 : Hid (Lib.IsBuilder 77 5 w1.heap.size w1.heap.size (Lib.byteCells ((headB tx rd).data.toList ++ linesL (acts.take 0))) w4) := mkH (.inr (by
        have := HBD4.out
        rw [← HHB.out, List.nil_append, strCells_list] at this
        simpa [linesL] using this))
      clear HBD4 HWS HEI n1 n2 n3 n4 HB4 HB2 HBD HS2 HX2
      go_wp2_with fail
      go_loopw [25] (fun vi wr => ∃ k : Nat, k ≤ acts.length ∧ vi = .int .i64 k ∧ Hid (Lib.IsBuilder 77 5 w1.heap.size w1.heap.size (Lib.byteCells ((headB tx rd).data.toList ++ linesL (acts.take k))) wr) ∧ Hid (Below w.heap.size w wr) ∧ Hid (∀ j, j < k → rightA acts[j]! = true)) (fun vi _ => acts.length - (intOf vi).toNat)
      case atStart => exact ⟨0, Nat.zero_le _, rfl, HBB4, HBW4, mkH (fun j hj => absurd hj (Nat.not_lt_zero _))⟩
      case round =>
        clear x0 x1 x2 HX4 HBB4 HBW4
        obtain ⟨k, hk, rfl, BD, BW, RT⟩ := hrel
        by_cases hlt : k < acts.length
        · have hltz : (k : Int) < (acts.length : Int) := by omega
          rcases HA.out.below BW.out with ⟨_, e0⟩ | ⟨g, o, c, eg, hcap, hgl, hact⟩
          · rw [e0] at hlt; simp at hlt
          · injection eg with eg1 _ eg2
            subst eg1 eg2
            obtain ⟨ma, mn, mc, ca, cn, cc, hAt, hC6⟩ := hact k hlt
            have HRK : Hid (rightA acts[k]! = true → LineOk acts[k]!) := mkH (HOK.out _ (by rw [getElem!_pos acts k hlt]; exact List.getElem_mem hlt))
            have HTN : Hid (linesL (acts.take (k + 1)) = linesL (acts.take k) ++ ((lineB acts[k]!).data.toList ++ [10])) := mkH (by rw [take_next hlt, linesL_snoc])
            have HNK := mkH (HNO.out k hlt)
            have HRN : Hid (rightA acts[k]! = true → ∀ j, j < k + 1 → rightA acts[j]! = true) := mkH (fun hh j hj => by
              by_cases e : j = k
              · rw [e]; exact hh
              · exact RT.out j (by omega))
            have HLB : Hid (∀ l, linesL (acts.take k) = l → l.length ≤ 36600600000) := mkH (fun l hl => by rw [← hl]; exact lines_bound hn hlt HOK.out RT.out)
            obtain ⟨⟨x1, x2, x3, x4, x5, x6⟩, hx⟩ : ∃ x, acts[k]! = x := ⟨_, rfl⟩
            rw [hx] at hAt hC6 HRK HTN HNK HRN
            obtain ⟨q0, q1, q2, q3, q4, q5⟩ := hC6
            simp only at q0 q1 q2 q3 q4 q5
            have HB6 : Hid (Below wr.heap.size wr (wr.alloc (.cells #[.int .i64 x1, .string x2, .int .i64 x3, .slice ma mn mc, .slice ca cn cc, .int .i64 x6] 62))) := mkH ((Below.refl _ _).alloc (Nat.le_refl _) _)
            have HX6 := mkH (heap_alloc_new wr (.cells #[.int .i64 x1, .string x2, .int .i64 x3, .slice ma mn mc, .slice ca cn cc, .int .i64 x6] 62))
            have HAT := mkH hAt
            have HRI : Hid (∀ W, Below wr.heap.size wr W → Calls Tryz.prog 25 #[.agg #[.int .i64 x1, .string x2, .int .i64 x3, .slice ma mn mc, .slice ca cn cc, .int .i64 x6]] W fun e w' => e = .returned (.bool (rightA (x1, x2, x3, x4, x5, x6))) ∧ Below W.heap.size W w') := mkH (fun W hW => rightA_any x1 x2 x3 x4 x5 x6 ma mn mc ca cn cc W (HAT.out.below hW) ((HW.out.below BW.out).below hW))
            have HLI : Hid (rightA (x1, x2, x3, x4, x5, x6) = true → ∀ W, Below wr.heap.size wr W → Calls Tryz.prog 26 #[.agg #[.int .i64 x1, .string x2, .int .i64 x3, .slice ma mn mc, .slice ca cn cc, .int .i64 x6]] W fun e w' => e = .returned (.string (lineB (x1, x2, x3, x4, x5, x6))) ∧ Below W.heap.size W w') := mkH (fun hr W hW => line_any x1 x2 x3 x4 x5 x6 ma mn mc ca cn cc W (HAT.out.below hW) (HRK.out hr) ((HT.out.below BW.out).below hW))
            clear hAt hact hx
            cases hri : rightA (x1, x2, x3, x4, x5, x6) with
            | false =>
              rw [hri] at HRI
              have HR := mkH (HNK.out hri)
              go_wp2_with (go_at_call 25; refine (HRI.out _ HB6.out).mono ?_; rintro e w7 ⟨rfl, hb7⟩)
              go_ret2
              exact ⟨by rw [HR.out]; rfl, Below.ups BW.out (Below.ups HB6.out hb7)⟩
            | true =>
              rw [hri] at HRI HLI
              have hls := lineB_size (HRK.out hri)
              have HLI' := mkH (HLI.out rfl)
              obtain ⟨pl, hpl⟩ : ∃ pl, linesL (acts.take k) = pl := ⟨_, rfl⟩
              have hpll := HLB.out pl hpl
              rw [hpl] at BD HTN
              have HRR := mkH (HRN.out hri)
              obtain ⟨ls, hlsx⟩ : ∃ ls, lineB (x1, x2, x3, x4, x5, x6) = ls := ⟨_, rfl⟩
              rw [hlsx] at hls HLI' HTN
              clear hlsx HLB hpl HNK HRN HRK HLI
              have hbs := BW.out.size
              have HWB := mkH (write_bound HHS.out hpll hls)
              go_wp2_with (first
                | (go_at_call 25; refine (HRI.out _ HB6.out).mono ?_; rintro e w7 ⟨rfl, hb7⟩
                   have HB7 := mkH (Below.ups HB6.out hb7)
                   have hT7 := (hb7.block wr.heap.size (blk_lt HX6.out)).trans HX6.out
                   obtain ⟨y0, y1, y2, y3, y4, y5, _⟩ := box6 hT7
                   clear hT7 hb7)
                | (go_at_call 26; refine (HLI'.out _ HB7.out).mono ?_; rintro e w8 ⟨rfl, hb8⟩
                   have HB8 := mkH (Below.ups HB7.out hb8)
                   have n5 : ¬ 9223372036854775807 < ls.size + 1 := by omega
                   have HBD8 := mkH (isb_up BD.out HB8.out)
                   have hs8 := HB8.out.size
                   clear hb8)
                | (go_at_call 23; refine (writeString_any w1.heap.size w1.heap.size _ _ _ HBD8.out HWB.out (by have := isb_lt HBD8.out; omega)).mono ?_
                   rintro e w9 ⟨rfl, hbd9, hb9⟩
                   have HBD9 := mkH hbd9
                   have HB9 := mkH hb9
                   clear hbd9 hb9))
              go_roundw
              case rel =>
                refine ⟨k + 1, by omega, by go_num, mkH (.inr ?_), mkH ((BW.out.trans (HB8.out.mono hbs)).trans (HB9.out.mono (by omega))), HRR⟩
                have := HBD9.out
                rw [strCells_list, ← byteCells_app, List.append_assoc] at this
                rw [HTN.out]
                have e11 : (ls ++ ⟨#[10]⟩).data.toList = ls.data.toList ++ [10] := by simp
                rw [e11] at this
                exact this
              case measure => simp [intOf]; omega
        · have hkl : k = acts.length := by omega
          subst hkl
          have HR := mkH (HYES.out RT.out)
          have HST := mkH (Tryz.Builder_String_any w1.heap.size w1.heap.size _ wr BD.out (by have := isb_lt BD.out; omega))
          rw [List.take_length] at HST
          go_wp2_with (go_at_call 27; refine HST.out.mono ?_; rintro e w7 ⟨rfl, hb7⟩)
          go_ret2
          exact ⟨by rw [HR.out]; rfl, BW.out.trans (hb7.mono (by omega))⟩
end Go.Proofs.YtfppidnfomelpaaGreatDoor
