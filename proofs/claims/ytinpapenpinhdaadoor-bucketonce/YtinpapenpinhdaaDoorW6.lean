/- millpondkeep.BucketOnce, walked: at every list of puts and every list of faults it returns true. -/
import Derived.Test.YtinpapenpinhdaaDoorW5
import Derived.Deep.DeepCutAuto
import Derived.Deep.CutBlock
namespace Go.Proofs.YtinpapenpinhdaaDoor
open Go.RowKit Go.Maps Go.Sort Go.Shelf Go.Lib

section
variable (w : World) {ops : Array Oper} {rest : List Oper} {o : Oper} {a : Act} {Q : Exit → Act → World → Prop}
/-- The step of a range over a map of texts. -/
theorem wpList_next_ss (hg : o.guard = none) (it : Operand) (hop : o.op = Op.next it false) (b r n : Nat) (D : DataW Unit) (left : Lit → Bool) (cnt : Nat)
    (hit : a.eval it = .pointer (some ⟨r, 0, none⟩)) (h : w.ranges Tryd.prog 9 (plainElem Tryd.prog 9) b r n D left cnt)
    (hDone : cnt = 0 → (∀ kl, left kl = false) → wpList Tryd.prog ops Q rest (a.put o.dst (.tuple #[.bool false])) w)
    (hMore : ∀ (x c : ByteArray) (w' : World) (cnt' : Nat), x.size ≤ maxLen → left (lit x) = true → (∀ zd, D.atKey (lit x) zd = txt c) → w'.ranges Tryd.prog 9 (plainElem Tryd.prog 9) b r n D (fun z => left z && !z.sameKey (lit x)) cnt' → cnt' < cnt →
      w.grownBy w' (some r) → w'.heap.size = w.heap.size → (Instr.entry (.pointer (some ⟨r, 0, none⟩))).run Tryd.prog w' = .ok (.tuple #[.string x, .string c]) w' → wpList Tryd.prog ops Q rest (a.put o.dst (.tuple #[.bool true, .string x, .string c])) w') :
    wpList Tryd.prog ops Q (o :: rest) a w :=
  wpList_next_ranges w hg it hop _ law9 _ Value.string Value.string (fun key kl hkey => by obtain ⟨s, rfl, _, _⟩ := WideMaps.string_of_keyOf Tryd.underlying9 hkey; exact ⟨s, rfl⟩) (fun v y hv => by obtain ⟨c, rfl, _⟩ := plainElem_string_inv Tryd.underlying9 hv; exact ⟨c, rfl⟩)
    b r n D left cnt hit h hDone (fun x c kl y w' cnt' hkey hlk hv hat hrg hlt hgr hsz hen => by
      obtain ⟨x', ex, rfl, hwx⟩ := WideMaps.string_of_keyOf Tryd.underlying9 hkey
      cases ex
      obtain ⟨c', ec, rfl, hwc⟩ := plainElem_string_inv Tryd.underlying9 hv
      cases ec
      exact hMore x c w' cnt' hwx hlk hat hrg hlt hgr hsz hen)
end

/-- A put, as it came in. -/
abbrev Pt := ByteArray × ByteArray × Bool
def encP (x : Pt) : List Value := [.string x.1, .string x.2.1, .bool x.2.2]
/-- What a round keeps. -/
def Rd (w : World) (bb nb k : Nat) (wr : World) : Prop := ∃ n D fs, n ≤ 2 * k ∧ Nw w bb nb n D fs D wr ∧ KeysOk D
/-- What a round's first half comes to. -/
def Rx (w : World) (bb nb k xb : Nat) (key s : ByteArray) (g : Bool) (wr : World) : Prop := ∃ n D fs, n ≤ 2 * k + 2 ∧ RS w bb nb n D fs D xb key s g wr ∧ KeysOk D

set_option maxHeartbeats 4000000 in
set_option maxRecDepth 100000 in
theorem once_some (bl ol L cap : Nat) (fs : List Int) (fv : Value) (X : Nat → Pt) (w : World) (h50 : L ≤ 50) (h30 : fs.length ≤ 30) (hbl : bl < w.heap.size) (hX : ∀ j, j < L → ∀ i u, (encP (X j))[i]? = some u → w.cell? ⟨bl, ol + j * 3 + i, none⟩ = some u) (hF : Fs w fv fs) (hg : EtB w) :
    Calls Tryd.prog 4 #[.slice (some ⟨bl, ol, none⟩) L cap, fv] w fun e w' => e = .returned (.bool true) ∧ Below w.heap.size w w' := by
  have HG : Hid (EtB w) := hg
  have HX : Hid (∀ j, j < L → ∀ i u, (encP (X j))[i]? = some u → w.cell? ⟨bl, ol + j * 3 + i, none⟩ = some u) := hX
  have HT : Hid (Calls Tryd.prog 15 #[] w fun e w' => e = .returned (.bool true) ∧ Below w.heap.size w w') := thrown_any w hg
  have hmm := @run_makeMap Tryd.prog
  have q1 := eql_err
  have q2 := guard_eql
  have q3 := neq_err
  have q4 := guard_neq
  have HF : Hid (∀ w1, Below w.heap.size w w1 → Calls Tryd.prog 14 #[.pointer (some ⟨w1.heap.size, 0, none⟩), fv] (w1.alloc (.cells #[.map none, .slice none 0 0] 26)) fun e w' => e = .returned (.tuple #[]) ∧ Hid (Rd w w1.heap.size w'.heap.size 0 (w'.alloc (.map #[] 0)))) := by
    intro w1 hb
    have hb1 : Below w.heap.size w (w1.alloc (.cells #[.map none, .slice none 0 0] 26)) := hb.alloc hb.size _
    refine (faults_any w1.heap.size 0 (.map []) [] fs _ _ _ _ (bu_new w1) (hF.keep fun p v _ hc => (hb1.cell (World.block_lt_of_cell? w p hc)).trans hc) (by omega)).mono ?_
    rintro e w' ⟨rfl, fv', hu', ho⟩
    refine ⟨rfl, 0, .map [], fs, Nat.le_refl _, ⟨_, fv', hu'.below ((Below.refl _ _).alloc (Nat.le_refl _) _), World.ownsMap_made w' _ _ _, (fun e => by cases e), ?_, hb.size, ?_, (fun k hk => by cases hk)⟩, keysOk_nil⟩
    · have := ho.below hb1 hb1.size (fun i e => by rw [e]; exact hb.size)
      exact this.alloc this.size _
    · have := hb.size
      have := ho.size
      simp at this
      omega
  obtain ⟨a, fc, rfl, _, _⟩ := hF
  clear hg hX
  go_enter Tryd.func4, Tryd.ntmps4
  go_wp2_with (first
    | (go_at_call 15; refine HT.out.mono ?_; rintro e w1 ⟨rfl, hb1⟩)
    | (go_at_call 14; refine (HF.out _ hb1).mono ?_; rintro e w2 ⟨rfl, hr2⟩))
  go_loopw [7] (fun s7 wr => ∃ k : Nat, k ≤ L ∧ s7 = .int .i64 k ∧ Hid (Rd w w1.heap.size w2.heap.size k wr)) (fun s7 _ => L - (intOf s7).toNat)
  case atStart => exact ⟨0, Nat.zero_le _, rfl, hr2⟩
  case round =>
    obtain ⟨k, hk, rfl, HR⟩ := hrel
    by_cases hlt : k < L
    · have hltz : (k : Int) < (L : Int) := by omega
      have hk0 : (0 : Int) ≤ (k : Int) := by omega
      have hq := HX.out k hlt
      generalize X k = x at hq
      obtain ⟨key, s, g⟩ := x
      obtain ⟨n, D, fs1, hn2, hnw, hok⟩ := HR.out
      have hlow := hnw.low
      have e0 : wr.cell? ⟨bl, ol + k * 3, none⟩ = some (.string key) := (hlow.cell (p := ⟨bl, ol + k * 3, none⟩) hbl).trans (hq 0 _ rfl)
      have e1 : wr.cell? ⟨bl, ol + k * 3 + 1, none⟩ = some (.string s) := (hlow.cell (p := ⟨bl, ol + k * 3 + 1, none⟩) hbl).trans (hq 1 _ rfl)
      have e2 : wr.cell? ⟨bl, ol + k * 3 + 2, none⟩ = some (.bool g) := (hlow.cell (p := ⟨bl, ol + k * 3 + 2, none⟩) hbl).trans (hq 2 _ rfl)
      have HNW : Hid (Nw w w1.heap.size w2.heap.size n D fs1 D wr) := hnw
      have HOK : Hid (KeysOk D) := hok
      clear hnw hok hlow hq HR
      go_upto_if 60 with (first
        | (at_lookup; refine wpList_looks _ rfl _ _ rfl w2.heap.size n D key rfl rfl (HNW.out.now.alloc _) (by unfold maxLen; omega) ?_; intro t hat))
      all_goals first
        | (go_ret; exact ⟨rfl, HNW.out.low.alloc HNW.out.low.size _⟩)
        | skip
      have zk : key.size ≤ maxLen := by unfold maxLen; omega
      have zs : s.size ≤ maxLen := by unfold maxLen; omega
      have zn : n < maxLen := by unfold maxLen; omega
      have HRS : Hid (RS w w1.heap.size w2.heap.size n D fs1 D wr.heap.size key s g (wr.alloc (.cells #[.string key, .string s, .bool g] 52))) := ⟨HNW.out.below ((Below.refl _ _).alloc (Nat.le_refl _) _), heap_alloc_new wr _⟩
      have HPS : Hid (Maps.has (D.put (lit key) (txt s)) (lit key) = true ∧ (D.put (lit key) (txt s)).atKey (lit key) (txt ByteArray.empty) = txt s) := ⟨has_put_same HNW.out.now.isMap (by unfold lit; trivial) _, atKey_put_same HNW.out.now.isMap (by unfold lit; trivial) _ _⟩
      clear e0 e1 e2
      go_cut [9, 10, 14] (fun _ _ _ wx => Hid (Rx w w1.heap.size w2.heap.size k wr.heap.size key s g wx))
      case first =>
        cases g with
        | true =>
          cases hh : Maps.has D (lit key) with
          | true =>
            have HD := HRS.out.del zk
            rw [hh] at HD
            have HD' : Hid (Calls Tryd.prog 10 #[.pointer (some ⟨w1.heap.size, 0, none⟩), .string key] (wr.alloc (.cells #[.string key, .string s, .bool true] 52)) fun e w' => e = .returned (errV 0) ∧ RS w w1.heap.size w2.heap.size n (D.del (lit key)) fs1 D wr.heap.size key s true w') := HD
            clear HD
            go_wp2_with (first
              | (go_at_call 10; refine HD'.out.mono ?_; rintro e w4 ⟨rfl, hr4⟩; have c0 := hr4.2.c0)
              | (at_delete; refine wpList_delete_own _ rfl _ _ 32 9 rfl 9 law9 Tryd.underlying32 _ w2.heap.size n D rfl hr4.1.now _ _ rfl (keyOf9 zk) ?_; intro w5 hown5 hturn5))
            simp only [Act.put]
            go_meet
            exact ⟨n, D.del (lit key), fs1, by omega, hr4.turn hturn5 hown5 (Nat.le_refl _), HOK.out.del key⟩
          | false =>
            have HD := HRS.out.del zk
            rw [hh] at HD
            have HD' : Hid (Calls Tryd.prog 10 #[.pointer (some ⟨w1.heap.size, 0, none⟩), .string key] (wr.alloc (.cells #[.string key, .string s, .bool true] 52)) fun e w' => e = .returned (errV 7) ∧ RS w w1.heap.size w2.heap.size n (D.del (lit key)) fs1 D wr.heap.size key s true w') := HD
            clear HD
            go_wp2_with (first
              | (go_at_call 10; refine HD'.out.mono ?_; rintro e w4 ⟨rfl, hr4⟩; have c0 := hr4.2.c0)
              | (at_delete; refine wpList_delete_own _ rfl _ _ 32 9 rfl 9 law9 Tryd.underlying32 _ w2.heap.size n D rfl hr4.1.now _ _ rfl (keyOf9 zk) ?_; intro w5 hown5 hturn5))
            simp only [Act.put]
            go_meet
            exact ⟨n, D.del (lit key), fs1, by omega, hr4.turn hturn5 hown5 (Nat.le_refl _), HOK.out.del key⟩
        | false =>
          have HP := HRS.out.put zn zk zs
          rcases putCases D fs1 key s HOK.out with ⟨hh, fs2, hr | hr⟩ | ⟨hh, fs2, hr⟩ | ⟨hkk, hh, fs2, hr | hr⟩
          · rw [hr] at HP
            have HP' : Hid (Calls Tryd.prog 7 #[.pointer (some ⟨w1.heap.size, 0, none⟩), .string key, .string s] (wr.alloc (.cells #[.string key, .string s, .bool false] 52)) fun e w' => e = .returned (errV 1) ∧ RS w w1.heap.size w2.heap.size (n + 1) D fs2 D wr.heap.size key s false w') := HP
            clear HP hr
            rw [hh]
            have HH : Hid (Maps.has D (lit key) = false) := hh
            clear hh
            go_wp2_with (first
              | (go_at_call 7; refine HP'.out.mono ?_; rintro e w4 ⟨rfl, hr4⟩)
              | (go_at_call 16; refine (hr4.1.tell HG.out _).mono ?_; rintro e w5 ⟨rfl, hb5⟩; have hr5 := hr4.below hb5; have c0 := hr5.2.c0; have c1 := hr5.2.c1)
              | (go_at_call 9; refine (hr5.1.get0 _ zk HH.out).mono ?_; rintro e w6 ⟨rfl, hb6⟩; have hr6 := hr5.below hb6; have c0' := hr6.2.c0; have c1' := hr6.2.c1))
            all_goals (go_meet; exact ⟨n + 1, D, fs2, by omega, hr6, HOK.out⟩)
          · rw [hr] at HP
            have HP' : Hid (Calls Tryd.prog 7 #[.pointer (some ⟨w1.heap.size, 0, none⟩), .string key, .string s] (wr.alloc (.cells #[.string key, .string s, .bool false] 52)) fun e w' => e = .returned (errV 14) ∧ RS w w1.heap.size w2.heap.size (n + 1) D fs2 D wr.heap.size key s false w') := HP
            clear HP hr
            rw [hh]
            have HH : Hid (Maps.has D (lit key) = false) := hh
            clear hh
            go_wp2_with (first
              | (go_at_call 7; refine HP'.out.mono ?_; rintro e w4 ⟨rfl, hr4⟩)
              | (go_at_call 16; refine (hr4.1.tell HG.out _).mono ?_; rintro e w5 ⟨rfl, hb5⟩; have hr5 := hr4.below hb5; have c0 := hr5.2.c0; have c1 := hr5.2.c1)
              | (go_at_call 9; refine (hr5.1.get0 _ zk HH.out).mono ?_; rintro e w6 ⟨rfl, hb6⟩; have hr6 := hr5.below hb6; have c0' := hr6.2.c0; have c1' := hr6.2.c1))
            all_goals (go_meet; exact ⟨n + 1, D, fs2, by omega, hr6, HOK.out⟩)
          · rw [hr] at HP
            have HP' : Hid (Calls Tryd.prog 7 #[.pointer (some ⟨w1.heap.size, 0, none⟩), .string key, .string s] (wr.alloc (.cells #[.string key, .string s, .bool false] 52)) fun e w' => e = .returned (errV 9) ∧ RS w w1.heap.size w2.heap.size (n + 1) D fs2 D wr.heap.size key s false w') := HP
            clear HP hr
            rw [hh]
            have HH : Hid (Maps.has D (lit key) = true) := hh
            clear hh
            go_wp2_with (first
              | (go_at_call 7; refine HP'.out.mono ?_; rintro e w4 ⟨rfl, hr4⟩)
              | (go_at_call 16; refine (hr4.1.tell HG.out _).mono ?_; rintro e w5 ⟨rfl, hb5⟩; have hr5 := hr4.below hb5; have c0 := hr5.2.c0; have c1 := hr5.2.c1)
              | (go_at_call 9; refine (hr5.1.get2 _ zk HH.out).mono ?_; rintro e w6 ⟨t6, rfl, hb6⟩; have hr6 := hr5.below hb6; have c0' := hr6.2.c0; have c1' := hr6.2.c1))
            all_goals (go_meet; exact ⟨n + 1, D, fs2, by omega, hr6, HOK.out⟩)
          · rw [hr] at HP
            have HP' : Hid (Calls Tryd.prog 7 #[.pointer (some ⟨w1.heap.size, 0, none⟩), .string key, .string s] (wr.alloc (.cells #[.string key, .string s, .bool false] 52)) fun e w' => e = .returned (errV 14) ∧ RS w w1.heap.size w2.heap.size (n + 1) (D.put (lit key) (txt s)) fs2 D wr.heap.size key s false w') := HP
            clear HP hr
            rw [hh]
            have HH : Hid (Maps.has D (lit key) = false) := hh
            clear hh
            go_wp2_with (first
              | (go_at_call 7; refine HP'.out.mono ?_; rintro e w4 ⟨rfl, hr4⟩)
              | (go_at_call 16; refine (hr4.1.tell HG.out _).mono ?_; rintro e w5 ⟨rfl, hb5⟩; have hr5 := hr4.below hb5; have c0 := hr5.2.c0; have c1 := hr5.2.c1)
              | (go_at_call 9; refine (hr5.1.get1 _ s zk HPS.out.1 HPS.out.2).mono ?_; rintro e w6 ⟨rfl, hb6⟩; have hr6 := hr5.below hb6; have c0' := hr6.2.c0; have c1' := hr6.2.c1)
              | (at_mapUpdate; refine wpList_mapUpdate_in _ rfl _ _ _ 32 rfl 9 9 law9 Tryd.underlying32 _ w2.heap.size (n + 1) D rfl hr6.1.now (by unfold maxLen; omega) _ _ _ rfl rfl (keyOf9 zk) _ [] (plainElem_string Tryd.underlying9 zs) ?_; intro w7 hown7 hturn7))
            go_meet
            exact ⟨n + 1 + 1, D.put (lit key) (txt s), fs2, by omega, hr6.turn hturn7 hown7 (Nat.le_succ _), HOK.out.put key _ hkk⟩
          · rw [hr] at HP
            have HP' : Hid (Calls Tryd.prog 7 #[.pointer (some ⟨w1.heap.size, 0, none⟩), .string key, .string s] (wr.alloc (.cells #[.string key, .string s, .bool false] 52)) fun e w' => e = .returned (errV 0) ∧ RS w w1.heap.size w2.heap.size (n + 1) (D.put (lit key) (txt s)) fs2 D wr.heap.size key s false w') := HP
            clear HP hr
            rw [hh]
            have HH : Hid (Maps.has D (lit key) = false) := hh
            clear hh
            go_wp2_with (first
              | (go_at_call 7; refine HP'.out.mono ?_; rintro e w4 ⟨rfl, hr4⟩)
              | (go_at_call 16; refine (hr4.1.tell HG.out _).mono ?_; rintro e w5 ⟨rfl, hb5⟩; have hr5 := hr4.below hb5; have c0 := hr5.2.c0; have c1 := hr5.2.c1)
              | (go_at_call 9; refine (hr5.1.get1 _ s zk HPS.out.1 HPS.out.2).mono ?_; rintro e w6 ⟨rfl, hb6⟩; have hr6 := hr5.below hb6; have c0' := hr6.2.c0; have c1' := hr6.2.c1)
              | (at_mapUpdate; refine wpList_mapUpdate_in _ rfl _ _ _ 32 rfl 9 9 law9 Tryd.underlying32 _ w2.heap.size (n + 1) D rfl hr6.1.now (by unfold maxLen; omega) _ _ _ rfl rfl (keyOf9 zk) _ [] (plainElem_string Tryd.underlying9 zs) ?_; intro w7 hown7 hturn7))
            go_meet
            exact ⟨n + 1 + 1, D.put (lit key) (txt s), fs2, by omega, hr6.turn hturn7 hown7 (Nat.le_succ _), HOK.out.put key _ hkk⟩
      case rest =>
        obtain ⟨n2, D2, fs2, hn3, hrs, hok2⟩ := hcut.out
        have HRS2 : Hid (Nw w w1.heap.size w2.heap.size n2 D2 fs2 D2 wc) := hrs.1
        have HOK2 : Hid (KeysOk D2) := hok2
        clear hcut hrs hok2 HRS
        go_wp2_with (first
          | (go_at_call 12; refine (HRS2.out.list (by omega)).mono ?_; rintro e w7 ⟨a7, c7, rfl, hb7⟩; have hn7 := HRS2.out.below hb7)
          | (at_len; refine wpList_len_own _ rfl _ 32 rfl 9 9 Tryd.underlying32 _ w2.heap.size n2 D2 rfl hn7.now ?_)
          | (at_range; refine wpList_range_own _ rfl _ 32 rfl 9 9 law9 Tryd.underlying32 _ w2.heap.size n2 D2 rfl hn7.now ?_; intro w8 hrg8 hg8 hs8))
        go_frame
        have hn7' : Hid (Nw w w1.heap.size w2.heap.size n2 D2 fs2 D2 w7) := hn7
        have HB8 : Hid (Below w7.heap.size w7 w8) := (Below.refl _ w7).grown hg8 (Nat.le_refl _) (fun j hj => by cases hj)
        clear hn7 hb7
        go_loopw [15] (fun _ wi => ∃ (left : Lit → Bool) (cnt : Nat), wi.ranges Tryd.prog 9 (plainElem Tryd.prog 9) w2.heap.size w7.heap.size n2 D2 left cnt ∧ Hid (Below w7.heap.size w7 wi)) (fun _ wi => wi.rangeLeft w2.heap.size w7.heap.size)
        case atStart => exact ⟨_, _, hrg8, HB8⟩
        case round =>
          obtain ⟨left, cnt, hrg, hbi⟩ := hrel
          go_wp2_with (first
            | (at_next; refine wpList_next_ss _ rfl _ rfl w2.heap.size w7.heap.size n2 D2 left cnt rfl hrg ?_ ?_))
          · intro _ _
            go_wp2
            go_roundw
            case rel => exact ⟨k + 1, by omega, by go_num, n2, D2, fs2, by omega, hn7'.out.below hbi.out, HOK2.out⟩
            case measure => simp [intOf]; omega
          · intro x c w9 cnt9 hwx hlx hat hrg9 hlt9 hg9 hs9 hen
            have hb9 : Below w7.heap.size w7 w9 := hbi.out.grown hg9 hbi.out.size (fun j hj => by cases hj; exact Nat.le_refl _)
            have HN9 : Hid (Nw w w1.heap.size w2.heap.size n2 D2 fs2 D2 w9) := hn7'.out.below hb9
            have HGET : Hid (Calls Tryd.prog 9 #[.pointer (some ⟨w1.heap.size, 0, none⟩), .string x] w9 fun e w' => e = .returned (.tuple #[.string c, errV 0]) ∧ Below w9.heap.size w9 w') := HN9.out.get1 x c hwx (has_true_of_atKey hat) (hat _)
            go_wp2_with (first
              | (go_at_call 9; refine HGET.out.mono ?_; rintro e w10 ⟨rfl, hb10⟩))
            go_roundw
            case rel => exact ⟨_, cnt9, hrg9.kept (row := none) ⟨hb10.os, hb10.tape, hb10.output, hb10.size, fun j hj _ => hb10.block j hj⟩ (by simp) (by simp), hb9.trans (hb10.mono hb9.size)⟩
            case measure =>
              rw [World.ranges.left_eq (hrg9.kept (row := none) ⟨hb10.os, hb10.tape, hb10.output, hb10.size, fun j hj _ => hb10.block j hj⟩ (by simp) (by simp)), hrg.left_eq]
              omega
    · have hkl : k = L := by omega
      subst hkl
      have HLOW : Hid (Below w.heap.size w wr) := by
        obtain ⟨n, D, fs1, _, hnw, _⟩ := HR.out
        exact hnw.low
      go_wp2
      go_ret
      exact ⟨rfl, HLOW.out⟩
end Go.Proofs.YtinpapenpinhdaaDoor
