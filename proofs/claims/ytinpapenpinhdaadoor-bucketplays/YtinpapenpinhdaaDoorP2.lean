/- The document's own bucket: what its Put and List do, said of every call; texts that are the same. -/
import Derived.Test.YtinpapenpinhdaaDoorP1
import Derived.Maps.AppendAt
namespace Go.Proofs.YtinpapenpinhdaaDoor
open Go.RowKit Go.Maps Go.Sort Go.Shelf Go.Lib

/-- What was put, as a map of texts. -/
abbrev Now (w : World) (nb n : Nat) (D : DataW Unit) : Prop := w.ownsMap Tryd.prog 9 (plainElem Tryd.prog 9) nb n D
/-- The document's bucket: its two cells. -/
def Rk (w : World) (rb rm : Nat) (rfv : Value) : Prop := w.heap[rb]? = some (.cells #[.map (some rm), rfv] 34 (0, 0))
theorem Rk.c0 {w : World} {rb rm : Nat} {rfv : Value} (h : Rk w rb rm rfv) : w.cell? ⟨rb, 0, none⟩ = some (.map (some rm)) := by unfold Rk at h; simp [World.cell?, h]
theorem Rk.c1 {w : World} {rb rm : Nat} {rfv : Value} (h : Rk w rb rm rfv) : w.cell? ⟨rb, 1, none⟩ = some rfv := by unfold Rk at h; simp [World.cell?, h]
theorem Rk.f {w : World} {rb rm : Nat} {rfv : Value} (h : Rk w rb rm rfv) (i : Nat) : w.frozen? ⟨rb, i, none⟩ = false := by unfold Rk at h; simp [World.frozen?, h]
theorem Rk.lt {w : World} {rb rm : Nat} {rfv : Value} (h : Rk w rb rm rfv) : rb < w.heap.size := World.block_lt_of_cell? w ⟨rb, 0, none⟩ h.c0
theorem Rk.keep {w w' : World} {rb rm : Nat} {rfv : Value} (h : Rk w rb rm rfv) (hb : w'.heap[rb]? = w.heap[rb]?) : Rk w' rb rm rfv := hb.trans h
theorem Rk.set1 {w : World} {rb rm : Nat} {rfv : Value} (h : Rk w rb rm rfv) (u : Value) : Rk (w.setCell ⟨rb, 1, none⟩ u) rb rm u := by
  unfold Rk at h ⊢
  simp [World.setCell, Array.getElem?_modify, h]
theorem Rk.alloc {w : World} {rb rm : Nat} {rfv : Value} (h : Rk w rb rm rfv) (o : Obj) : Rk (w.alloc o) rb rm rfv := h.keep (Below.heap_alloc _ _ _ h.lt)
theorem Rk.ne {w : World} {rb rm n : Nat} {rfv : Value} {D : DataW Unit} (h : Rk w rb rm rfv) (hm : Now w rm n D) : rm ≠ rb := by
  obtain ⟨es, clock, hb, _⟩ := hm
  intro e
  subst e
  unfold Rk at h
  rw [hb] at h
  cases h
theorem Rk.far {w : World} {rb rm : Nat} {rfv : Value} {fs : List Int} (h : Rk w rb rm rfv) (hF : Fs w rfv fs) {p : Addr} {x : Int} (hc : w.cell? p = some (.int .i64 x)) : p.block ≠ rb := by
  intro e
  unfold Rk at h
  obtain ⟨a, cap, rfl, _⟩ := hF
  obtain ⟨pb, po, ps⟩ := p
  have hs : ps = none := World.cell?_spot hc
  subst hs
  simp only at e
  subst e
  simp only [World.cell?, h] at hc
  match po with
  | 0 => simp at hc
  | 1 => simp at hc
  | k + 2 => simp at hc
theorem now_far {w : World} {rm n : Nat} {D : DataW Unit} (hm : Now w rm n D) {p : Addr} {v : Value} (hc : w.cell? p = some v) : p.block ≠ rm := by
  obtain ⟨es, clock, hb, _⟩ := hm
  intro e
  rw [← e] at hb
  simp [World.cell?, hb] at hc

theorem in_any (n : Int) (w : World) : Calls Tryd.prog 22 #[.int .i64 n, .int .i64 1, .int .i64 60] w fun e w' => e = .returned (.bool (decide (1 ≤ n) && decide (n ≤ 60))) ∧ w' = w := by
  by_cases h1 : 1 ≤ n <;> by_cases h2 : n ≤ 60
  all_goals
    have H : Hid ((decide (1 ≤ n) && decide (n ≤ 60)) = (decide (1 ≤ n) && decide (n ≤ 60))) := rfl
    go_enter Tryd.func22, Tryd.ntmps22
    go_wp2
    all_goals
      go_ret
      exact ⟨ret_bool (by simp [h1, h2]), rfl⟩

/-- What the document's Put comes to, and what it turns. -/
def RPost (rb rm n : Nat) (r : Int × DataW Unit × List Int) (w : World) (e : Ending) (w' : World) : Prop := e = .returned (.int .i64 r.1) ∧ ∃ rfv', Rk w' rb rm rfv' ∧ Now w' rm (n + 1) r.2.1 ∧ Fs w' rfv' r.2.2 ∧ Only (fun k => k = rb ∨ k = rm) w w'
set_option maxRecDepth 100000 in
theorem rput_any (rb rm n : Nat) (D : DataW Unit) (fs : List Int) (rfv : Value) (key s : ByteArray) (w : World) (hR : Rk w rb rm rfv) (hm : Now w rm n D) (hF : Fs w rfv fs) (hn : n < maxLen) (hk : key.size ≤ maxLen) (hs : s.size ≤ maxLen) :
    Calls Tryd.prog 8 #[.pointer (some ⟨rb, 0, none⟩), .string key, .string s] w (RPost rb rm n (putR D fs key s) w) := by
  have hi := in_any (key.size : Int) w
  have ek : (decide (1 ≤ (key.size : Int)) && decide ((key.size : Int) ≤ 60)) = okKey key := by
    unfold okKey
    congr 1 <;> (apply decide_eq_decide.2; omega)
  rw [ek] at hi
  have HR : Hid (Rk w rb rm rfv) := hR
  have HM : Hid (Now w rm n D) := hm
  have HF : Hid (Fs w rfv fs) := hF
  have c0 := hR.c0
  have c1 := hR.c1
  have f1 := hR.f 1
  have HP : Hid (putR D fs key s = if okKey key = false then (1, D, fs) else if Maps.has D (lit key) = true then (9, D, fs) else if fs.headD 0 = 1 then (14, D, fs.tail) else if fs.headD 0 = 2 then (14, D.put (lit key) (txt s), fs.tail) else (0, D.put (lit key) (txt s), fs.tail)) := rfl
  clear hR hm hF ek
  generalize putR D fs key s = r at HP ⊢
  cases hok : okKey key with
  | false =>
    rw [hok] at hi
    go_enter Tryd.func8, Tryd.ntmps8
    go_wp2_with (first
      | (go_at_call 22; refine hi.mono ?_; rintro e w1 ⟨rfl, rfl⟩))
    go_ret
    have hr : r = (1, D, fs) := by rw [HP.out, if_pos hok]
    rw [hr]
    exact ⟨rfl, rfv, HR.out, HM.out.mono (by omega), HF.out, Only.refl _ _⟩
  | true =>
    rw [hok] at hi
    cases hh : Maps.has D (lit key) with
    | true =>
      go_enter Tryd.func8, Tryd.ntmps8
      go_wp2_with (first
        | (go_at_call 22; refine hi.mono ?_; rintro e w1 ⟨rfl, rfl⟩)
        | (at_lookup; refine wpList_looks _ rfl _ _ rfl rm n D key rfl rfl HM.out hk ?_; intro t hat; rw [hh]))
      go_ret
      have hr : r = (9, D, fs) := by rw [HP.out, if_neg (by rw [hok]; simp), if_pos hh]
      rw [hr]
      exact ⟨rfl, rfv, HR.out, HM.out.mono (by omega), HF.out, Only.refl _ _⟩
    | false =>
      have hr : r = if fs.headD 0 = 1 then (14, D, fs.tail) else if fs.headD 0 = 2 then (14, D.put (lit key) (txt s), fs.tail) else (0, D.put (lit key) (txt s), fs.tail) := by rw [HP.out, if_neg (by rw [hok]; simp), if_neg (by rw [hh]; simp)]
      have HH : Hid (Maps.has D (lit key) = false) := hh
      clear HP
      cases fs with
      | nil =>
        have hr' : r = (0, D.put (lit key) (txt s), []) := hr
        have HFF : Hid (∀ w', Only (fun k => k = rb ∨ k = rm) w w' → Fs w' rfv []) := fun w' ho => HF.out.keep fun p v ⟨x, hx⟩ hc => ho.cell hc (by
          rintro (e | e)
          · exact HR.out.far HF.out (hx ▸ hc) e
          · exact now_far HM.out hc e)
        obtain ⟨a, cap, rfl, _, _⟩ := HF.out
        clear hr HF
        go_enter Tryd.func8, Tryd.ntmps8
        go_wp2_with (first
          | (go_at_call 22; refine hi.mono ?_; rintro e w1 ⟨rfl, rfl⟩)
          | (at_lookup; refine wpList_looks _ rfl _ _ rfl rm n D key rfl rfl HM.out hk ?_; intro t hat; rw [HH.out])
          | (at_mapUpdate; refine wpList_mapUpdate_in _ rfl _ _ _ 32 rfl 9 9 law9 Tryd.underlying32 _ rm n D rfl HM.out hn _ _ _ rfl rfl (keyOf9 hk) _ [] (plainElem_string Tryd.underlying9 hs) ?_; intro w2 hown2 hturn2))
        go_ret
        have ho : Only (fun k => k = rb ∨ k = rm) w1 w2 := (Only.refl _ w1).turned hturn2 (fun _ => .inr rfl)
        rw [hr']
        exact ⟨rfl, _, HR.out.keep (hturn2.grown.block rb HR.out.lt (fun e => HR.out.ne HM.out (Option.some.inj e).symm)), hown2, HFF.out _ ho, ho⟩
      | cons x fs =>
        have HNE : Hid (rm ≠ rb) := HR.out.ne HM.out
        have HFF : Hid (∀ a' c' w', Only (fun k => k = rb ∨ k = rm) w w' → (fs.length ≠ 0 → ∃ b off, rfv = .slice (some ⟨b, off, none⟩) (fs.length + 1) (c' + 1) ∧ a' = some ⟨b, off + 1, none⟩) → fs.length ≤ c' → Fs w' (.slice a' fs.length c') fs) := by
          intro a' c' w' ho hh hc'
          have hfar : ∀ p y, w.cell? p = some (.int .i64 y) → w'.cell? p = some (.int .i64 y) := fun p y hc => ho.cell hc (by
            rintro (e | e)
            · exact HR.out.far HF.out hc e
            · exact now_far HM.out hc e)
          obtain ⟨a, cap, e1, hc, hl⟩ := HF.out
          obtain ⟨b, off, e2, hcell⟩ := hl (by simp)
          refine ⟨a', c', rfl, hc', fun hn => ?_⟩
          obtain ⟨b2, off2, e3, e4⟩ := hh (by intro e; exact hn (List.length_eq_zero_iff.1 e))
          subst e2
          rw [e1] at e3
          cases e3
          refine ⟨b, off + 1, e4, fun j y hy => hfar _ _ ?_⟩
          have := hcell (j + 1) y (by simpa using hy)
          rwa [show off + 1 + j = off + (j + 1) by omega]
        have hF := HF.out
        obtain ⟨a, cap, rfl, hc, hl⟩ := hF
        obtain ⟨b, off, rfl, hcell⟩ := hl (by simp)
        have hx0 : w.cell? ⟨b, off, none⟩ = some (.int .i64 x) := by simpa using hcell 0 x rfl
        have hc' : fs.length + 1 ≤ cap := by simpa using hc
        have hr2 : r = if x = 1 then (14, D, fs) else if x = 2 then (14, D.put (lit key) (txt s), fs) else (0, D.put (lit key) (txt s), fs) := hr
        simp only [List.length_cons] at c1
        have HRs : Hid (∀ u, Rk (w.setCell ⟨rb, 1, none⟩ u) rb rm u) := fun u => HR.out.set1 u
        have HMs : Hid (∀ u, Now (w.setCell ⟨rb, 1, none⟩ u) rm n D) := fun u => HM.out.setCell HNE.out u
        have HOs : Hid (∀ u, Only (fun k => k = rb ∨ k = rm) w (w.setCell ⟨rb, 1, none⟩ u)) := fun u => (Only.refl (fun k => k = rb ∨ k = rm) w).setCell (p := ⟨rb, 1, none⟩) (fun _ => .inl rfl) u
        have HM' : Hid (Now w rm n D) := HM
        clear hr hl hcell hc HF HR
        generalize hfl : fs.length = nf at *
        by_cases h1 : x = 1
        · subst h1
          rw [if_pos rfl] at hr2
          go_enter Tryd.func8, Tryd.ntmps8
          go_wp2_with (first
            | (go_at_call 22; refine hi.mono ?_; rintro e w1 ⟨rfl, rfl⟩)
            | (at_lookup; refine wpList_looks _ rfl _ _ rfl rm n D key rfl rfl HM.out hk ?_; intro t hat; rw [HH.out]))
          go_region
          have ha : Hid (nf ≠ 0 → (if cap = 1 then some (⟨b, off, none⟩ : Addr) else some ⟨b, off + 1, none⟩) = some ⟨b, off + 1, none⟩) := fun h => if_neg (by omega)
          generalize (if cap = 1 then some (⟨b, off, none⟩ : Addr) else some ⟨b, off + 1, none⟩) = a' at ha ⊢
          have qd := (HRs.out (.slice a' nf (cap - 1))).c0
          go_wp2
          go_ret
          rw [hr2]
          exact ⟨rfl, _, HRs.out _, (HMs.out _).mono (by omega), HFF.out _ _ _ (HOs.out _).drew (fun h => ⟨b, off, by rw [show cap - 1 + 1 = cap by omega, ← hfl]; rfl, ha.out h⟩) (by omega), (HOs.out _).drew⟩
        · rw [if_neg h1] at hr2
          by_cases h2 : x = 2
          · subst h2
            rw [if_pos rfl] at hr2
            go_enter Tryd.func8, Tryd.ntmps8
            go_wp2_with (first
              | (go_at_call 22; refine hi.mono ?_; rintro e w1 ⟨rfl, rfl⟩)
              | (at_lookup; refine wpList_looks _ rfl _ _ rfl rm n D key rfl rfl HM.out hk ?_; intro t hat; rw [HH.out]))
            go_region
            have ha : Hid (nf ≠ 0 → (if cap = 1 then some (⟨b, off, none⟩ : Addr) else some ⟨b, off + 1, none⟩) = some ⟨b, off + 1, none⟩) := fun h => if_neg (by omega)
            generalize (if cap = 1 then some (⟨b, off, none⟩ : Addr) else some ⟨b, off + 1, none⟩) = a' at ha ⊢
            have qd := (HRs.out (.slice a' nf (cap - 1))).c0
            go_wp2_with (first
              | (at_mapUpdate; refine wpList_mapUpdate_in _ rfl _ _ _ 32 rfl 9 9 law9 Tryd.underlying32 _ rm n D rfl (HMs.out _) hn _ _ _ rfl rfl (keyOf9 hk) _ [] (plainElem_string Tryd.underlying9 hs) ?_; intro w2 hown2 hturn2))
            go_ret
            have ho : Only (fun k => k = rb ∨ k = rm) w1 w2 := (HOs.out _).drew.turned hturn2 (fun _ => .inr rfl)
            rw [hr2]
            exact ⟨rfl, _, (HRs.out _).keep (hturn2.grown.block rb (HRs.out _).lt (fun e => HNE.out (Option.some.inj e).symm)), hown2, HFF.out _ _ _ ho (fun h => ⟨b, off, by rw [show cap - 1 + 1 = cap by omega, ← hfl]; rfl, ha.out h⟩) (by omega), ho⟩
          · rw [if_neg h2] at hr2
            have b1 : (x == 1) = false := by simpa using h1
            have b2 : (x == 2) = false := by simpa using h2
            go_enter Tryd.func8, Tryd.ntmps8
            go_wp2_with (first
              | (go_at_call 22; refine hi.mono ?_; rintro e w1 ⟨rfl, rfl⟩)
              | (at_lookup; refine wpList_looks _ rfl _ _ rfl rm n D key rfl rfl HM.out hk ?_; intro t hat; rw [HH.out]))
            go_region
            have ha : Hid (nf ≠ 0 → (if cap = 1 then some (⟨b, off, none⟩ : Addr) else some ⟨b, off + 1, none⟩) = some ⟨b, off + 1, none⟩) := fun h => if_neg (by omega)
            generalize (if cap = 1 then some (⟨b, off, none⟩ : Addr) else some ⟨b, off + 1, none⟩) = a' at ha ⊢
            have qd := (HRs.out (.slice a' nf (cap - 1))).c0
            go_wp2_with (first
              | (at_mapUpdate; refine wpList_mapUpdate_in _ rfl _ _ _ 32 rfl 9 9 law9 Tryd.underlying32 _ rm n D rfl (HMs.out _) hn _ _ _ rfl rfl (keyOf9 hk) _ [] (plainElem_string Tryd.underlying9 hs) ?_; intro w2 hown2 hturn2))
            go_ret
            have ho : Only (fun k => k = rb ∨ k = rm) w1 w2 := (HOs.out _).drew.turned hturn2 (fun _ => .inr rfl)
            rw [hr2]
            exact ⟨rfl, _, (HRs.out _).keep (hturn2.grown.block rb (HRs.out _).lt (fun e => HNE.out (Option.some.inj e).symm)), hown2, HFF.out _ _ _ ho (fun h => ⟨b, off, by rw [show cap - 1 + 1 = cap by omega, ← hfl]; rfl, ha.out h⟩) (by omega), ho⟩

section
variable (w : World) {ops : Array Oper} {rest : List Oper} {o : Oper} {a : Act} {Q : Exit → Act → World → Prop}
/-- The step of a range over a map of texts, of which only keys are asked. -/
theorem wpList_next_sk (hg : o.guard = none) (it : Operand) (hop : o.op = Op.next it false) (b r n : Nat) (D : DataW Unit) (left : Lit → Bool) (cnt : Nat)
    (hit : a.eval it = .pointer (some ⟨r, 0, none⟩)) (h : w.ranges Tryd.prog 9 (plainElem Tryd.prog 9) b r n D left cnt)
    (hDone : cnt = 0 → (∀ kl, left kl = false) → wpList Tryd.prog ops Q rest (a.put o.dst (.tuple #[.bool false])) w)
    (hMore : ∀ (x c : ByteArray) (w' : World) (cnt' : Nat), x.size ≤ maxLen → left (lit x) = true → (∀ zd, D.atKey (lit x) zd = txt c) → w'.ranges Tryd.prog 9 (plainElem Tryd.prog 9) b r n D (fun z => left z && !z.sameKey (lit x)) cnt' → cnt' < cnt →
      w.grownBy w' (some r) → w'.heap.size = w.heap.size → (Instr.entry (.pointer (some ⟨r, 0, none⟩))).run Tryd.prog w' = .ok (.tuple #[.string x, .string c]) w' → wpList Tryd.prog ops Q rest (a.put o.dst (.tuple #[.bool true, .string x, .string c])) w') :
    wpList Tryd.prog ops Q (o :: rest) a w :=
  wpList_next_ranges w hg it hop _ law9 _ Value.string Value.string (fun key kl hkey => by obtain ⟨s, rfl, _, _⟩ := WideMaps.string_of_keyOf Tryd.underlying9 hkey; exact ⟨s, rfl⟩) (fun v y hv => by obtain ⟨c, rfl, _⟩ := plainElem_string_inv Tryd.underlying9 hv; exact ⟨c, rfl⟩)
    b r n D left cnt hit h hDone (fun x c kl y w' cnt' hkey hlk hv hat hrg hlt hgr hsz hen => by
      obtain ⟨x', ex, rfl, hwx⟩ := WideMaps.string_of_keyOf Tryd.underlying9 hkey
      cases ex
      obtain ⟨c', ec, rfl, hwc⟩ := plainElem_string_inv Tryd.underlying9 hv
      cases ec
      exact hMore x c w' cnt' hwx hlk hat hrg hlt hgr hsz hen)
end

theorem sortS_any (base : Nat) (v : Value) (ss : List (List UInt8)) (w : World) (hS : Ss w base v ss) (hbw : base ≤ w.heap.size) (hn : ss.length ≤ 1000) :
    Calls Tryd.prog 29 #[v] w fun e w' => e = .returned (.tuple #[]) ∧ Ss w' base v (ss.mergeSort leB) ∧ Below base w w' := by
  have HS : Hid (Calls Tryd.prog 28 #[v] w fun e w' => e = .returned (.tuple #[]) ∧ Ss w' base v (ss.mergeSort leB) ∧ Below base w w') := sort_any base v ss w hS hbw hn
  clear hS hbw hn
  go_enter Tryd.func29, Tryd.ntmps29
  go_wp2_with (first
    | (go_at_call 28; refine HS.out.mono ?_; rintro e w1 ⟨rfl, hS1, hb1⟩))
  go_end0
  exact ⟨rfl, hS1, hb1⟩

theorem info9 : (Tryd.prog.info? 9).map (fun i => (i.zero, i.size, i.bytes)) = some (some (.string ⟨#[]⟩), 1, 16) := by kernel_rfl
theorem encStr_self (x : ByteArray) : encStr x.data.toList = .string x := by
  cases x
  simp [encStr]
theorem filter_snoc (p : List UInt8 → Bool) (ss : List (List UInt8)) (x : List UInt8) : (ss ++ [x]).filter p = if p x = true then ss.filter p ++ [x] else ss.filter p := by
  rw [List.filter_append]
  cases h : p x <;> simp [h]

theorem ownsRow_next {w w' : World} {base : Nat} {v : Value} {k : Nat} {xs : List Value} {r : Nat} (h : w.ownsRow base 9 1 v k xs) (hg : w.grownBy w' (some r)) (hr : r < base) : w'.ownsRow base 9 1 v k xs := by
  refine ⟨h.1, ?_⟩
  rcases h.2 with h2 | ⟨g, cap, cur, hv, hb, hh, rest⟩
  · exact .inl h2
  · exact .inr ⟨g, cap, cur, hv, hb, (hg.block g (Nat.lt_of_not_le fun hl => by rw [Array.getElem?_eq_none hl] at hh; cases hh) (fun e => by have := Option.some.inj e; omega)).trans hh, rest⟩
set_option maxHeartbeats 1000000 in
set_option maxRecDepth 100000 in
theorem rlist_any (rb rm n : Nat) (D : DataW Unit) (rfv : Value) (p : ByteArray) (w : World) (hR : Rk w rb rm rfv) (hm : Now w rm n D) (hn : n ≤ 1000) :
    Calls Tryd.prog 13 #[.pointer (some ⟨rb, 0, none⟩), .string p] w (ListPost D p w) := by
  obtain ⟨i0, hi, hz0, hz1, hz2⟩ := info_parts info9
  have c0 := hR.c0
  have hlt := hm.lt
  have HM : Hid (Now w rm n D) := hm
  have HSZ : Hid (Maps.size D ≤ n) := hm.size_le
  have HHP : Hid (∀ x W, Calls Tryd.prog 27 #[.string x, .string p] W fun e w' => e = .returned (.bool (Lib.hasPrefix x.data.toList p.data.toList)) ∧ w' = W) := fun x W => hasPrefix_any x p W
  clear hm hR
  go_enter Tryd.func13, Tryd.ntmps13
  go_wp2_with (first
    | (at_range; refine wpList_range_own _ rfl _ 32 rfl 9 9 law9 Tryd.underlying32 _ rm n D rfl HM.out ?_; intro w0 hrg0 hg0 hs0))
  go_frame
  go_loopw [5] (fun s5 wi => ∃ (left : Lit → Bool) (cnt : Nat) (ss : List (List UInt8)), wi.ranges Tryd.prog 9 (plainElem Tryd.prog 9) rm w.heap.size n D left cnt ∧ Hid (Collected D left ss ∧ ss.length + cnt ≤ Maps.size D ∧ wi.ownsRow (w.heap.size + 1) 9 1 s5 (ss.filter fun x => Lib.hasPrefix x p.data.toList).length ((ss.filter fun x => Lib.hasPrefix x p.data.toList).map encStr) ∧ Below w.heap.size w wi ∧ w.heap.size + 1 ≤ wi.heap.size)) (fun _ wi => wi.rangeLeft rm w.heap.size)
  case atStart => exact ⟨_, _, [], hrg0, Collected.start D, by simp, World.ownsRow_nil _ _ _ _, (Below.refl _ w).grown hg0 (Nat.le_refl _) (fun j hj => by cases hj), by omega⟩
  case round =>
    obtain ⟨left, cnt, ss, hrg, HH⟩ := hrel
    go_wp2_with (first
      | (at_next; refine wpList_next_sk _ rfl _ rfl rm w.heap.size n D left cnt rfl hrg ?_ ?_))
    · intro _ hl0
      have hss : Ss wr (w.heap.size + 1) u5 (ss.filter fun x => Lib.hasPrefix x p.data.toList) := ss_of_row HH.out.2.2.1
      have hlen : (ss.filter fun x => Lib.hasPrefix x p.data.toList).length ≤ 1000 := by
        have h1 := List.length_filter_le (fun x => Lib.hasPrefix x p.data.toList) ss
        have h2 := HH.out.2.1
        have h3 := HSZ.out
        omega
      have HSRT : Hid (Calls Tryd.prog 29 #[u5] wr fun e w' => e = .returned (.tuple #[]) ∧ Ss w' (w.heap.size + 1) u5 (listR D p) ∧ Below (w.heap.size + 1) wr w') := by
        have hperm : ss.Perm (strKeys D) := HH.out.1.perm hrg.owns law9 Tryd.underlying9 hl0
        refine (sortS_any _ u5 _ wr hss HH.out.2.2.2.2 hlen).mono ?_
        rintro e w' ⟨rfl, h1, h2⟩
        refine ⟨rfl, ?_, h2⟩
        unfold listR
        rw [← mergeSort_of_perm (hperm.filter _)]
        exact h1
      clear hss hlen
      go_wp2_with (first
        | (go_at_call 29; refine HSRT.out.mono ?_; rintro e w4 ⟨rfl, hS4, hb4⟩))
      go_ret
      refine ⟨_, rfl, ?_, HH.out.2.2.2.1.trans (hb4.mono (by omega))⟩
      obtain ⟨a, c, e1, e2, h⟩ := hS4
      exact ⟨a, c, e1, e2, fun hn => by obtain ⟨b, x1, x2, x3⟩ := h hn; exact ⟨b, x1, by omega, x3⟩⟩
    · intro x c w1 cnt1 hwx hlx hat hrg1 hlt1 hg1 hs1 hen
      have HOWN : Hid (w1.ownsRow (w.heap.size + 1) 9 1 u5 (ss.filter fun x => Lib.hasPrefix x p.data.toList).length ((ss.filter fun x => Lib.hasPrefix x p.data.toList).map encStr)) := ownsRow_next HH.out.2.2.1 hg1 (by omega)
      have HB1 : Hid (Below w.heap.size w w1) := HH.out.2.2.2.1.grown hg1 (by have := HH.out.2.2.2.2; omega) (fun j hj => by cases hj; exact Nat.le_refl _)
      have HS1 : Hid (w.heap.size + 1 ≤ w1.heap.size) := by rw [show (w1.heap.size) = wr.heap.size from hs1]; exact HH.out.2.2.2.2
      have HCO : Hid (Collected D (fun z => left z && !z.sameKey (lit x)) (ss ++ [x.data.toList])) := HH.out.1.step hlx hat
      have HLN : Hid ((ss.filter fun x => Lib.hasPrefix x p.data.toList).length ≤ 1000) := by
        have h1 := List.length_filter_le (fun x => Lib.hasPrefix x p.data.toList) ss
        have h2 := HH.out.2.1
        have h3 := HSZ.out
        show _ ≤ _
        omega
      have HFS := filter_snoc (fun x => Lib.hasPrefix x p.data.toList) ss x.data.toList
      have HSM : Hid ((ss ++ [x.data.toList]).length + cnt1 ≤ Maps.size D) := by
        have h2 := HH.out.2.1
        show _ ≤ _
        simp
        omega
      clear hs1
      generalize hfl : (ss.filter fun x => Lib.hasPrefix x p.data.toList) = fl at HOWN HLN HFS
      cases hp : Lib.hasPrefix x.data.toList p.data.toList with
      | true =>
        rw [if_pos hp] at HFS
        have HFS' : Hid ((ss ++ [x.data.toList]).filter (fun x => Lib.hasPrefix x p.data.toList) = fl ++ [x.data.toList]) := HFS
        clear HFS hfl
        go_wp2_with (first
          | (go_at_call 27; refine (HHP.out _ _).mono ?_; rw [hp]; rintro e w2 ⟨rfl, rfl⟩)
          | (at_builtin; refine wpList_append_own _ rfl _ _ 45 rfl (w.heap.size + 1) 9 i0 (.string ⟨#[]⟩) 1 16 Tryd.underlying45 hi hz0 hz1 hz2 rfl (by decide) _ _ _ rfl (HOWN.out.alloc _) ⟨_, 0, none⟩ 1 1 [.string x] rfl rfl (cell_one_new _ _ _) (by simp [Value.oneCell']) (by have := HLN.out; unfold maxLen; omega) (by have := HLN.out; omega) (by have := HS1.out; simp; omega) ?_; intro v3 w3 hown3 hgrow3 hnil3))
        go_roundw
        case rel =>
          refine ⟨_, cnt1, ss ++ [x.data.toList], (hrg1.alloc _).kept hgrow3 (fun e => ?_) (fun e => ?_), HCO.out, HSM.out, ?_, (HB1.out.alloc (by have := HS1.out; omega) _).grown hgrow3 (by have := HS1.out; simp; omega) (fun j hj => by have := (HOWN.out.lt j hj).1; omega), by have := hgrow3.size; have := HS1.out; simp at *; omega⟩
          · have := (HOWN.out.lt rm e.symm).1; omega
          · have := (HOWN.out.lt w.heap.size e.symm).1; omega
          · rw [HFS'.out, List.map_append, List.length_append]
            simpa [encStr_self] using hown3
        case measure =>
          rw [World.ranges.left_eq ((hrg1.alloc _).kept hgrow3 (fun e => by have := (HOWN.out.lt rm e.symm).1; omega) (fun e => by have := (HOWN.out.lt w.heap.size e.symm).1; omega)), hrg.left_eq]
          omega
      | false =>
        rw [if_neg (by rw [hp]; simp)] at HFS
        have HFS' : Hid ((ss ++ [x.data.toList]).filter (fun x => Lib.hasPrefix x p.data.toList) = fl) := HFS
        clear HFS hfl
        go_wp2_with (first
          | (go_at_call 27; refine (HHP.out _ _).mono ?_; rw [hp]; rintro e w2 ⟨rfl, rfl⟩))
        go_roundw
        case rel =>
          refine ⟨_, cnt1, ss ++ [x.data.toList], hrg1, HCO.out, HSM.out, ?_, HB1.out, HS1.out⟩
          rw [HFS'.out]
          exact HOWN.out
        case measure =>
          rw [hrg1.left_eq, hrg.left_eq]
          omega

set_option maxRecDepth 100000 in
theorem same_zero (a1 a2 : Option Addr) (c1 c2 : Nat) (w : World) : Calls Tryd.prog 11 #[.slice a1 0 c1, .slice a2 0 c2] w fun e w' => e = .returned (.bool true) ∧ Below w.heap.size w w' := by
  go_enter Tryd.func11, Tryd.ntmps11
  go_wp2
  refine wp_loop_rounds 1 ?_
  rw [rounds_succ]
  go_wp2
  go_ret
  exact ⟨rfl, Below.refl _ _⟩
set_option maxRecDepth 100000 in
theorem same_some (g1 g2 n c1 c2 : Nat) (X : Nat → ByteArray) (w : World) (hn : n ≤ 1000) (h1 : ∀ j, j < n → w.cell? ⟨g1, j, none⟩ = some (.string (X j))) (h2 : ∀ j, j < n → w.cell? ⟨g2, j, none⟩ = some (.string (X j))) :
    Calls Tryd.prog 11 #[.slice (some ⟨g1, 0, none⟩) n c1, .slice (some ⟨g2, 0, none⟩) n c2] w fun e w' => e = .returned (.bool true) ∧ Below w.heap.size w w' := by
  have H1 : Hid (∀ j, j < n → w.cell? ⟨g1, j, none⟩ = some (.string (X j))) := h1
  have H2 : Hid (∀ j, j < n → w.cell? ⟨g2, j, none⟩ = some (.string (X j))) := h2
  clear h1 h2
  go_enter Tryd.func11, Tryd.ntmps11
  go_wp2
  go_loopw [5] (fun s3 wr => ∃ k : Nat, k ≤ n ∧ s3 = .int .i64 k ∧ Hid (Below w.heap.size w wr)) (fun s3 _ => n - (intOf s3).toNat)
  case atStart => exact ⟨0, Nat.zero_le _, rfl, Below.refl _ _⟩
  case round =>
    obtain ⟨k, hk, rfl, HB⟩ := hrel
    by_cases hlt : k < n
    · have hltz : (k : Int) < (n : Int) := by omega
      have hk0 : (0 : Int) ≤ (k : Int) := by omega
      have e1 : wr.cell? ⟨g1, k, none⟩ = some (.string (X k)) := (HB.out.cell (p := ⟨g1, k, none⟩) (World.block_lt_of_cell? w ⟨g1, k, none⟩ (H1.out k hlt))).trans (H1.out k hlt)
      have e2 : wr.cell? ⟨g2, k, none⟩ = some (.string (X k)) := (HB.out.cell (p := ⟨g2, k, none⟩) (World.block_lt_of_cell? w ⟨g2, k, none⟩ (H2.out k hlt))).trans (H2.out k hlt)
      go_wp2
      go_region
      go_wp2
      go_roundw
      case rel => exact ⟨k + 1, by omega, by go_num, HB.out.drew⟩
      case measure => simp [intOf]; omega
    · have hkl : k = n := by omega
      subst hkl
      go_wp2
      go_ret
      exact ⟨rfl, HB.out⟩
theorem same_any (b1 b2 : Nat) (v1 v2 : Value) (L : List (List UInt8)) (w : World) (h1 : Ss w b1 v1 L) (h2 : Ss w b2 v2 L) (hn : L.length ≤ 1000) :
    Calls Tryd.prog 11 #[v1, v2] w fun e w' => e = .returned (.bool true) ∧ Below w.heap.size w w' := by
  obtain ⟨a1, c1, rfl, _, k1⟩ := h1
  obtain ⟨a2, c2, rfl, _, k2⟩ := h2
  by_cases hL : L = []
  · subst hL
    exact same_zero a1 a2 c1 c2 w
  · obtain ⟨g1, rfl, _, _, H1⟩ := k1 hL
    obtain ⟨g2, rfl, _, _, H2⟩ := k2 hL
    refine same_some g1 g2 L.length c1 c2 (fun j => ⟨(L.toArray[j]!).toArray⟩) w hn (fun j hj => ?_) (fun j hj => ?_)
    · have := (H1 j (by simpa using hj)).1
      rwa [Nat.zero_add] at this
    · have := (H2 j (by simpa using hj)).1
      rwa [Nat.zero_add] at this
end Go.Proofs.YtinpapenpinhdaaDoor
