/- What is written is read again: plain mathematics. -/
import Derived.Test.YtfppidnfomelpaaGreatDoorP8
import Derived.Test.YtfppidnfomelpaaGreatDoorRD
namespace Go.Proofs.YtfppidnfomelpaaGreatDoor
open Go.Lib

/-! What is written is read again. -/
def Nice (l : List UInt8) : Prop := ∀ b ∈ l, b ≠ 10 ∧ b ≠ 32 ∧ b ≠ 39 ∧ b ≠ 44 ∧ b ≠ 59
theorem Nice.n10 {l : List UInt8} (h : Nice l) : (10 : UInt8) ∉ l := fun e => (h _ e).1 rfl
theorem Nice.n32 {l : List UInt8} (h : Nice l) : (32 : UInt8) ∉ l := fun e => (h _ e).2.1 rfl
theorem Nice.n39 {l : List UInt8} (h : Nice l) : (39 : UInt8) ∉ l := fun e => (h _ e).2.2.1 rfl
theorem Nice.n44 {l : List UInt8} (h : Nice l) : (44 : UInt8) ∉ l := fun e => (h _ e).2.2.2.1 rfl
theorem Nice.n59 {l : List UInt8} (h : Nice l) : (59 : UInt8) ∉ l := fun e => (h _ e).2.2.2.2 rfl
theorem nice_of {l : List UInt8} (h : ∀ b ∈ l, b.toNat = 45 ∨ (48 ≤ b.toNat ∧ b.toNat ≤ 57) ∨ b.toNat = 95 ∨ (97 ≤ b.toNat ∧ b.toNat ≤ 122)) : Nice l := by
  intro b hb
  have := h b hb
  refine ⟨?_, ?_, ?_, ?_, ?_⟩ <;> (rintro rfl; revert this; decide)
theorem nice_itoa (n : Int) : Nice (itoa n) := nice_of fun b hb => by
  rcases itoa_sign b hb with h | h
  · exact .inl h
  · exact .inr (.inl h)
theorem badName_big (r : Nat) (h : 126 < r) : badName r = true := by
  simp only [badName, smallB, digitB, Bool.and_eq_true, Bool.not_eq_true', Bool.and_eq_false_iff, decide_eq_false_iff_not, beq_eq_false_iff_ne]
  refine ⟨.inr (by omega), .inr (by omega), by omega⟩
theorem badLetter_big (r : Nat) (h : 126 < r) : badLetter r = true := by simp [badLetter, h]
theorem name_parts {s : ByteArray} (h : nameB s = true) : Nice s.data.toList ∧ s.data.toList ≠ [] := by
  simp only [nameB, Bool.and_eq_true, decide_eq_true_eq, Bool.not_eq_true', decide_eq_false_iff_not] at h
  obtain ⟨h1, _, _, h4⟩ := h
  refine ⟨nice_of fun b hb => ?_, fun e => ?_⟩
  · obtain ⟨h5, _⟩ := idx_mem badName_big h4 b hb
    have h6 : (!smallB b.toNat && (!digitB b.toNat && !((b.toNat : Int) == 95))) = false := h5
    simp only [smallB, digitB, Bool.and_eq_false_iff, Bool.not_eq_false', Bool.and_eq_true, decide_eq_true_eq, beq_iff_eq] at h6
    omega
  · have : s.data.toList.length = 0 := by rw [e]; rfl
    simp only [Array.length_toList] at this
    simp only [ByteArray.size] at h1
    omega
theorem text_parts {t : ByteArray} (h : rtB t = true) : (39 : UInt8) ∉ t.data.toList ∧ (10 : UInt8) ∉ t.data.toList := by
  simp only [rtB, Bool.and_eq_true, decide_eq_true_eq, Bool.not_eq_true', decide_eq_false_iff_not] at h
  refine ⟨fun e => ?_, fun e => ?_⟩
  · have := (idx_mem badLetter_big h.2 _ e).1
    revert this; decide
  · have := (idx_mem badLetter_big h.2 _ e).1
    revert this; decide
def Tailed (t : List UInt8) : Prop := t = [] ∨ ∃ r, t = 59 :: r
theorem cut_tail {c : UInt8} {x t : List UInt8} (hx : c ∉ x) (ht : t = [] ∨ ∃ r, t = c :: r) : (cutL c (x ++ t)).1 = x ∧ (cutL c (x ++ t)).2.1 = t.tail := by
  rcases ht with rfl | ⟨r, rfl⟩
  · rw [List.append_nil, cutL_miss hx]; simp
  · rw [cutL_hit hx]; simp
theorem app_list (a b : ByteArray) : (a ++ b).data.toList = a.data.toList ++ b.data.toList := by simp
theorem prefix_no {x t : List UInt8} (hx : (39 : UInt8) ∉ x) (ht : Tailed t) : Lib.hasPrefix (x ++ t) [39] = false := by
  unfold Lib.hasPrefix
  cases x with
  | nil =>
    rcases ht with rfl | ⟨r, rfl⟩
    · rfl
    · simp [List.isPrefixOf]
  | cons b x =>
    have : b ≠ 39 := fun e => hx (by simp [e])
    simp [List.isPrefixOf, this.symm]
theorem readVal_back {k n : Int} {t : ByteArray} {tl : List UInt8} (h : rightV k n t = true) (hn : I64 n) (ht : Tailed tl) : readVal ((printV k n t).data.toList ++ tl) = some ((k, n, t), tl.tail) := by
  unfold rightV at h
  unfold printV
  by_cases h0 : k = 0
  · subst h0
    simp only [if_true, Bool.and_eq_true, beq_iff_eq] at h ⊢
    obtain ⟨rfl, h2⟩ := h
    have e : t = bA [] := toList_inj (by simpa [bA, ByteArray.toList_eq] using h2)
    subst e
    have q := cut_tail (c := 59) (x := nullL) (t := tl) (by decide) ht
    unfold readVal
    show (if Lib.hasPrefix (nullL ++ tl) [39] = true then _ else _) = _
    rw [prefix_no (by decide) ht, if_neg (by decide)]
    show (if (cutL 59 (nullL ++ tl)).1 = nullL then _ else _) = _
    rw [if_pos q.1]
    show some ((0, 0, bA []), (cutL 59 (nullL ++ tl)).2.1) = _
    rw [q.2]
  · rw [if_neg h0] at h ⊢
    by_cases h1 : k = 1
    · subst h1
      simp only [if_true] at h ⊢
      have e : t = bA [] := toList_inj (by simpa [bA, ByteArray.toList_eq] using h)
      subst e
      have hi := nice_itoa n
      have q := cut_tail (c := 59) (x := itoa n) (t := tl) hi.n59 ht
      have el : (itoaB n).data.toList = itoa n := by simp [itoaB]
      have hne : itoa n ≠ nullL := fun e => by
        have := itoa_sign (n := n) 110 (by rw [e]; decide)
        revert this; decide
      rw [el]
      unfold readVal
      rw [prefix_no hi.n39 ht, if_neg (by decide), q.1, q.2, if_neg hne, numOf_itoa hn]
      rfl
    · rw [if_neg h1] at h ⊢
      by_cases h2 : k = 2
      · subst h2
        simp only [if_true, Bool.and_eq_true, beq_iff_eq] at h ⊢
        obtain ⟨rfl, h3⟩ := h
        have el : (⟨#[39]⟩ ++ t ++ ⟨#[39]⟩ : ByteArray).data.toList ++ tl = 39 :: (t.data.toList ++ 39 :: tl) := by simp
        rw [el]
        unfold readVal
        rw [if_pos (by simp [Lib.hasPrefix, List.isPrefixOf])]
        simp only [List.drop_succ_cons, List.drop_zero]
        rw [cutL_hit (text_parts h3).1]
        simp only [if_true, bA_list]
        congr 2
        rcases ht with rfl | ⟨r, rfl⟩
        · rfl
        · simp [Lib.trimPrefix, Lib.hasPrefix, List.isPrefixOf]
      · rw [if_neg h2] at h; cases h
def mmL (b : Bool) : List UInt8 := (eitherB b mustW mayW).data.toList
theorem mmL_nice (b : Bool) : Nice (mmL b) := by cases b <;> (unfold Nice mmL; decide)
theorem mmL_must (b : Bool) : decide (mmL b = mustL) = b := by cases b <;> decide
def columnL (c : Col) : List UInt8 := itoa c.1 ++ 32 :: (c.2.1.data.toList ++ 32 :: (itoa c.2.2.1 ++ 32 :: (mmL c.2.2.2.1 ++ 32 :: (printV c.2.2.2.2.1 c.2.2.2.2.2.1 c.2.2.2.2.2.2).data.toList)))
theorem columnB_list (c : Col) : (columnB c).data.toList = columnL c := by
  simp [columnB, joinB, Lib.join, List.intercalate, columnL, mmL, itoaB]
structure ColR (c : Col) : Prop where
  ok : ColOk c
  may : mayB c = true
theorem ColR.parts {c : Col} (h : ColR c) : nameB c.2.1 = true ∧ rightV c.2.2.2.2.1 c.2.2.2.2.2.1 c.2.2.2.2.2.2 = true := by
  have := h.may
  simp only [mayB, colB, fitB, Bool.and_eq_true] at this
  exact ⟨this.2.2.1.2, this.2.2.2.1⟩
theorem rest1_hit {x y : List UInt8} (h : (32 : UInt8) ∉ x) : rest1 (x ++ 32 :: y) = y := by unfold rest1; rw [cutL_hit h]
theorem readCol_back {c : Col} {tl : List UInt8} (h : ColR c) (ht : Tailed tl) : readCol (columnL c ++ tl) = some (c, tl.tail) := by
  obtain ⟨hp1, hp2⟩ := h.parts
  have hn := (name_parts hp1).1
  obtain ⟨c1, c2, c3, c4, c5, c6, c7⟩ := c
  have e : columnL (c1, c2, c3, c4, c5, c6, c7) ++ tl = itoa c1 ++ 32 :: (c2.data.toList ++ 32 :: (itoa c3 ++ 32 :: (mmL c4 ++ 32 :: ((printV c5 c6 c7).data.toList ++ tl)))) := by
    simp [columnL]
  have i1 := (nice_itoa c1).n32
  have i3 := (nice_itoa c3).n32
  have i4 := (mmL_nice c4).n32
  have q1 : I64 c1 := h.ok.id
  have q3 : I64 c3 := h.ok.kind
  have q6 : I64 c6 := h.ok.num
  unfold readCol
  rw [e, rest1_hit i1, rest1_hit hn.n32, rest1_hit i3, rest1_hit i4, cutL_hit i1, cutL_hit i3, cutL_hit hn.n32, cutL_hit i4]
  simp only
  rw [numOf_itoa q1, numOf_itoa q3, readVal_back hp2 q6 ht]
  simp only [Option.bind_some, Option.map_some, bA_list, mmL_must]
theorem columnL_ne (c : Col) : columnL c ≠ [] := by
  unfold columnL
  intro e
  have := congrArg List.length e
  simp at this
theorem readCols_back : ∀ {l : List Col}, l ≠ [] → (∀ c ∈ l, ColR c) → readCols (Lib.join (l.map columnL) [59]) = some l
  | [], h, _ => absurd rfl h
  | [c], _, h => by
    have e : Lib.join ([c].map columnL) [59] = columnL c ++ [] := by simp [Lib.join]
    rw [e, readCols_cons (by simpa using columnL_ne c) (readCol_back (h c (by simp)) (.inl rfl))]
    rw [show ([] : List UInt8).tail = [] from rfl, readCols_nil]
    rfl
  | c :: d :: l, _, h => by
    have e : Lib.join ((c :: d :: l).map columnL) [59] = columnL c ++ 59 :: Lib.join ((d :: l).map columnL) [59] := by simp [Lib.join]
    rw [e, readCols_cons (by simp) (readCol_back (h c (by simp)) (.inr ⟨_, rfl⟩))]
    rw [List.tail_cons, readCols_back (by simp) (fun x hx => h x (by simp [hx]))]
    rfl
theorem allNum_back : ∀ {l : List Int}, (∀ x ∈ l, I64 x) → allNum (l.map itoa) = some l
  | [], _ => rfl
  | n :: l, h => by
    rw [List.map_cons, allNum, numOf_itoa (h n (by simp)), allNum_back (fun x hx => h x (by simp [hx]))]
    rfl
theorem readPls_back {l : List Int} (h0 : l ≠ []) (h : ∀ x ∈ l, I64 x) : readPls (Lib.join (l.map itoa) [44]) = some l := by
  unfold readPls
  rw [splitT_join (by simpa using h0) (fun x hx => by
    obtain ⟨n, _, rfl⟩ := List.mem_map.1 hx
    exact (nice_itoa n).n44), allNum_back h]
theorem joinB_list (xs : List ByteArray) (sep : ByteArray) : (joinB xs sep).data.toList = Lib.join (xs.map (·.data.toList)) sep.data.toList := by simp [joinB]
theorem itoaB_list (n : Int) : (itoaB n).data.toList = itoa n := by simp [itoaB]
def lineL (a : Actn) : List UInt8 :=
  if a.1 = 1 then addL ++ 32 :: (a.2.1.data.toList ++ 32 :: itoa a.2.2.1)
  else if a.1 = 2 then removeL ++ 32 :: a.2.1.data.toList
  else if a.1 = 3 then maskL ++ 32 :: (a.2.1.data.toList ++ 32 :: Lib.join (a.2.2.2.1.map itoa) [44])
  else schemaL ++ 32 :: (itoa a.2.2.2.2.2 ++ 32 :: Lib.join (a.2.2.2.2.1.map columnL) [59])
theorem lineB_list (a : Actn) : (lineB a).data.toList = lineL a := by
  unfold lineB lineL
  split
  · simp [itoaB_list, addL]
  · split
    · simp [removeL]
    · split
      · simp [joinB_list, maskL, List.map_map, Function.comp_def, itoaB_list]
      · simp [joinB_list, schemaL, List.map_map, Function.comp_def, itoaB_list, columnB_list]
theorem bare_parts {p : ByteArray} {r : Int} {mn cn : Nat} {nx : Int} (h : bareB p r mn cn nx = true) : p = bA [] ∧ r = 0 ∧ mn = 0 ∧ cn = 0 ∧ nx = 0 := by
  simp only [bareB, Bool.and_eq_true, beq_iff_eq] at h
  obtain ⟨h1, h2, h3, h4, h5⟩ := h
  exact ⟨toList_inj (by simpa [bA, ByteArray.toList_eq] using h1), h2, by omega, by omega, h5⟩
theorem cols_right {l : List Col} {nx : Int} (h : rightB l nx = true) (hc : ∀ x ∈ l, ColOk x) : l ≠ [] ∧ ∀ c ∈ l, ColR c := by
  have hr := (rightB_iff l nx).1 h
  refine ⟨fun e => ?_, fun c hc' => ⟨hc c hc', (mayB_iff c).2 (hr.2.2.1 c hc').1⟩⟩
  have := hr.1
  rw [e] at this
  simp at this
theorem no_add : (32 : UInt8) ∉ addL := by decide
theorem no_remove : (32 : UInt8) ∉ removeL := by decide
theorem no_mask : (32 : UInt8) ∉ maskL := by decide
theorem no_schema : (32 : UInt8) ∉ schemaL := by decide
theorem readAct_back {a : Actn} (h : rightA a = true) (ho : LineOk a) : readAct (lineL a) = some a := by
  obtain ⟨k, p, r, m, cl, nx⟩ := a
  unfold rightA at h
  unfold lineL
  simp only at h ⊢
  by_cases h1 : k = 1
  · subst h1
    simp only [if_true, Bool.and_eq_true] at h ⊢
    obtain ⟨h2, h3⟩ := h
    obtain ⟨_, _, e1, e2, rfl⟩ := bare_parts h3
    have e1' : m = [] := List.length_eq_zero_iff.1 e1
    have e2' : cl = [] := List.length_eq_zero_iff.1 e2
    subst e1' e2'
    have hn : nameB p = true := by simp only [rfB, Bool.and_eq_true] at h2; exact h2.1
    unfold readAct
    rw [cutL_hit no_add, rest1_hit no_add, cutL_hit (name_parts hn).1.n32]
    simp only [if_true]
    have hr : I64 r := ho.rows
    rw [numOf_itoa hr]
    simp [bA_list]
  · rw [if_neg h1] at h ⊢
    by_cases h2 : k = 2
    · subst h2
      simp only [if_true, Bool.and_eq_true] at h ⊢
      obtain ⟨hn, h3⟩ := h
      obtain ⟨_, rfl, e1, e2, rfl⟩ := bare_parts h3
      have e1' : m = [] := List.length_eq_zero_iff.1 e1
      have e2' : cl = [] := List.length_eq_zero_iff.1 e2
      subst e1' e2'
      unfold readAct
      rw [cutL_hit no_remove, rest1_hit no_remove, cutL_miss (name_parts hn).1.n32]
      simp only
      rw [if_neg (by decide), if_pos trivial, bA_list]
    · rw [if_neg h2] at h ⊢
      by_cases h3 : k = 3
      · subst h3
        simp only [if_true, Bool.and_eq_true] at h ⊢
        obtain ⟨⟨hn, hr⟩, h3⟩ := h
        obtain ⟨_, rfl, _, e2, rfl⟩ := bare_parts h3
        have e2' : cl = [] := List.length_eq_zero_iff.1 e2
        subst e2'
        have hm : m ≠ [] := by
          rintro rfl
          simp [risingB] at hr
        unfold readAct
        rw [cutL_hit no_mask, rest1_hit no_mask, cutL_hit (name_parts hn).1.n32]
        simp only
        rw [if_neg (by decide), if_neg (by decide), if_pos trivial, readPls_back hm ho.mask, bA_list]
        rfl
      · rw [if_neg h3] at h ⊢
        by_cases h4 : k = 4
        · subst h4
          simp only [if_true, Bool.and_eq_true] at h ⊢
          obtain ⟨hr, h3⟩ := h
          obtain ⟨rfl, rfl, e1, _, _⟩ := bare_parts h3
          have e1' : m = [] := List.length_eq_zero_iff.1 e1
          subst e1'
          obtain ⟨hl, hc⟩ := cols_right hr ho.cols
          have hx : I64 nx := ho.next
          unfold readAct
          rw [cutL_hit no_schema, rest1_hit no_schema, cutL_hit (nice_itoa nx).n32]
          simp only
          rw [if_neg (by decide), if_neg (by decide), if_neg (by decide), if_pos trivial, numOf_itoa hx, readCols_back hl hc]
          rfl
        · rw [if_neg h4] at h; cases h
theorem join_no {c s : UInt8} (hs : c ≠ s) : ∀ {l : List (List UInt8)}, (∀ x ∈ l, c ∉ x) → c ∉ Lib.join l [s]
  | [], _ => by simp [Lib.join, List.intercalate]
  | [x], h => by simpa [Lib.join] using h x (by simp)
  | x :: y :: l, h => by
    have e : Lib.join (x :: y :: l) [s] = x ++ s :: Lib.join (y :: l) [s] := by simp [Lib.join]
    rw [e]
    simp only [List.mem_append, List.mem_cons, not_or]
    exact ⟨h x (by simp), hs, join_no hs (fun z hz => h z (by simp [hz]))⟩
theorem val_n10 {k n : Int} {t : ByteArray} (h : rightV k n t = true) : (10 : UInt8) ∉ (printV k n t).data.toList := by
  unfold rightV at h
  unfold printV
  split
  · decide
  · rename_i h0
    rw [if_neg h0] at h
    split
    · rw [itoaB_list]; exact (nice_itoa n).n10
    · rename_i h1
      rw [if_neg h1] at h
      split
      · rename_i h2
        rw [if_pos h2, Bool.and_eq_true] at h
        simp only [app_list, List.mem_append, not_or]
        exact ⟨⟨by decide, (text_parts h.2).2⟩, by decide⟩
      · decide
theorem col_n10 {c : Col} (h : ColR c) : (10 : UInt8) ∉ columnL c := by
  obtain ⟨hp1, hp2⟩ := h.parts
  unfold columnL
  simp only [List.mem_append, List.mem_cons, not_or]
  exact ⟨(nice_itoa _).n10, by decide, (name_parts hp1).1.n10, by decide, (nice_itoa _).n10, by decide, (mmL_nice _).n10, by decide, val_n10 hp2⟩
theorem line_n10 {a : Actn} (h : rightA a = true) (ho : LineOk a) : (10 : UInt8) ∉ lineL a := by
  obtain ⟨k, p, r, m, cl, nx⟩ := a
  unfold rightA at h
  unfold lineL
  simp only at h ⊢
  by_cases h1 : k = 1
  · rw [if_pos h1] at h ⊢
    simp only [Bool.and_eq_true, rfB] at h
    simp only [List.mem_append, List.mem_cons, not_or]
    exact ⟨by decide, by decide, (name_parts h.1.1).1.n10, by decide, (nice_itoa _).n10⟩
  · rw [if_neg h1] at h ⊢
    by_cases h2 : k = 2
    · rw [if_pos h2] at h ⊢
      simp only [Bool.and_eq_true] at h
      simp only [List.mem_append, List.mem_cons, not_or]
      exact ⟨by decide, by decide, (name_parts h.1).1.n10⟩
    · rw [if_neg h2] at h ⊢
      by_cases h3 : k = 3
      · rw [if_pos h3] at h ⊢
        simp only [Bool.and_eq_true] at h
        simp only [List.mem_append, List.mem_cons, not_or]
        exact ⟨by decide, by decide, (name_parts h.1.1).1.n10, by decide, join_no (by decide) (fun x hx => by
          obtain ⟨n, _, rfl⟩ := List.mem_map.1 hx
          exact (nice_itoa n).n10)⟩
      · rw [if_neg h3] at h ⊢
        by_cases h4 : k = 4
        · rw [if_pos h4] at h
          simp only [Bool.and_eq_true] at h
          obtain ⟨_, hc⟩ := cols_right h.1 ho.cols
          simp only [List.mem_append, List.mem_cons, not_or]
          exact ⟨by decide, by decide, (nice_itoa _).n10, by decide, join_no (by decide) (fun x hx => by
            obtain ⟨c, hc', rfl⟩ := List.mem_map.1 hx
            exact col_n10 (hc c hc'))⟩
        · rw [if_neg h4] at h; cases h
theorem allActs_back : ∀ {l : List Actn}, (∀ a ∈ l, rightA a = true ∧ LineOk a) → allActs (l.map lineL) = some l
  | [], _ => rfl
  | a :: l, h => by
    rw [List.map_cons, allActs, readAct_back (h a (by simp)).1 (h a (by simp)).2, allActs_back (fun x hx => h x (by simp [hx]))]
    rfl
def commitL : List UInt8 := [99, 111, 109, 109, 105, 116]
def rbL (b : Bool) : List UInt8 := (eitherB b readsW blindW).data.toList
theorem rbL_nice (b : Bool) : Nice (rbL b) := by cases b <;> (unfold Nice rbL; decide)
theorem rbL_reads (b : Bool) : decide (rbL b = readsL) = b := by cases b <;> decide
theorem headB_list (tx : ByteArray) (rd : Bool) : (headB tx rd).data.toList = commitL ++ 32 :: (tx.data.toList ++ 32 :: rbL rd) ++ [10] := by
  simp [headB, commitL, rbL]
/-- WHAT IS WRITTEN IS READ AGAIN. -/
theorem readCom_back {c : Com} (h : printOk c = true) (ho : ∀ a ∈ c.2.2, LineOk a) : readCom (printL c) = some c := by
  obtain ⟨tx, rd, l⟩ := c
  simp only [printOk, Bool.and_eq_true, List.all_eq_true] at h
  obtain ⟨hn, hl⟩ := h
  have hnm := (name_parts hn).1
  have e1 : printL (tx, rd, l) = (commitL ++ 32 :: (tx.data.toList ++ 32 :: rbL rd)) ++ 10 :: (l.map lineL).flatMap (fun x => x ++ [10]) := by
    simp [printL, headB_list, linesL, lineB_list, List.flatMap_map]
  have hh : (10 : UInt8) ∉ commitL ++ 32 :: (tx.data.toList ++ 32 :: rbL rd) := by
    simp only [List.mem_append, List.mem_cons, not_or]
    exact ⟨by decide, by decide, hnm.n10, by decide, (rbL_nice rd).n10⟩
  unfold readCom
  rw [e1, cutL_hit hh]
  simp only
  rw [linesT_lines (fun x hx => by
    obtain ⟨a, ha, rfl⟩ := List.mem_map.1 hx
    exact line_n10 (hl a ha) (ho a ha)), allActs_back (fun a ha => ⟨hl a ha, ho a ha⟩), rest1_hit (by decide), cutL_hit hnm.n32]
  simp [bA_list, rbL_reads]
end Go.Proofs.YtfppidnfomelpaaGreatDoor
