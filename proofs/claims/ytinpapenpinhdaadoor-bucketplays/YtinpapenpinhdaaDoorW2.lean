/- What Put, Get and Delete do, said of every call. -/
import Derived.Test.YtinpapenpinhdaaDoorW1
namespace Go.Proofs.YtinpapenpinhdaaDoor
open Go.RowKit Go.Maps

/-- A key has 1 to 60 bytes. -/
def okKey (key : ByteArray) : Bool := decide (1 ≤ key.size) && decide (key.size ≤ 60)
/-- What a Put comes to: its error's number, the things, the faults that are left. -/
def putR (D : DataW Unit) (fs : List Int) (key s : ByteArray) : Int × DataW Unit × List Int :=
  if okKey key = false then (1, D, fs) else if Maps.has D (lit key) = true then (9, D, fs) else if fs.headD 0 = 1 then (14, D, fs.tail) else if fs.headD 0 = 2 then (14, D.put (lit key) (txt s), fs.tail) else (0, D.put (lit key) (txt s), fs.tail)

/-- An error that is a number; 0: none. -/
def errV (x : Int) : Value := if x = 0 then .nilIface else .iface 35 (.int .i64 x)

/-- What a Get comes to. -/
def GetPost (D : DataW Unit) (key : ByteArray) (w : World) (e : Ending) (w' : World) : Prop := ∃ t : ByteArray, e = .returned (.tuple #[.string t, errV (if Maps.has D (lit key) = true then 0 else 7)]) ∧ (Maps.has D (lit key) = true → D.atKey (lit key) (txt ByteArray.empty) = txt t) ∧ (Maps.has D (lit key) = false → t = ByteArray.empty) ∧ Below w.heap.size w w'
set_option maxRecDepth 100000 in
theorem get_any (bb n : Nat) (D : DataW Unit) (mv : Value) (key : ByteArray) (w : World) (h0 : w.cell? ⟨bb, 0, none⟩ = some mv) (hT : Th w mv n D) (hk : key.size ≤ maxLen) :
    Calls Tryd.prog 9 #[.pointer (some ⟨bb, 0, none⟩), .string key] w (GetPost D key w) := by
  have hall := all_any bb mv w h0
  have HT : Hid (Th w mv n D) := hT
  clear hT
  go_enter Tryd.func9, Tryd.ntmps9
  go_wp2_with (first
    | (go_at_call 19; refine hall.mono ?_; rintro e w1 ⟨rfl, rfl⟩)
    | (at_lookup; refine wpList_look _ rfl _ _ rfl n D mv key rfl rfl HT.out hk ?_; intro t hat))
  · rename_i hh
    have hf := nt hh
    go_ret2
    exact ⟨ByteArray.empty, by rw [hf]; rfl, fun h => (by rw [hf] at h; cases h), fun _ => rfl, (Below.refl _ _).alloc (Nat.le_refl _) _⟩
  · rename_i hh
    have hf := nf hh
    go_ret2
    exact ⟨t, by rw [hf]; rfl, fun _ => hat, fun h => (by rw [hf] at h; cases h), (Below.refl _ _).alloc (Nat.le_refl _) _⟩

/-- A bucket keeps what it is where none of its blocks turns. -/
theorem Bu.only {S : Nat → Prop} {w w' : World} {bb n : Nat} {D : DataW Unit} {fs : List Int} {mv fv : Value} (h : Bu w bb n D fs mv fv) (ho : Only S w w') (hS : ¬ S bb) (hm : ∀ m, mv = .map (some m) → ¬ S m) (hf : ∀ p x, w.cell? p = some (.int .i64 x) → ¬ S p.block) : Bu w' bb n D fs mv fv := by
  obtain ⟨hB, hT, hF⟩ := h
  exact ⟨hB.keep (ho.block bb hB.lt hS), hT.keep fun m e => ho.block m (hT.lt e) (hm m e), hF.keep fun p v ⟨x, hx⟩ hc => ho.cell hc (hf p x (hx ▸ hc))⟩
theorem Bu.below {w w' : World} {bb n : Nat} {D : DataW Unit} {fs : List Int} {mv fv : Value} (h : Bu w bb n D fs mv fv) (hb : Below w.heap.size w w') : Bu w' bb n D fs mv fv :=
  h.only (S := fun _ => False) (Only.of_below hb) (fun h => h) (fun _ _ h => h) (fun _ _ _ h => h)
theorem Bu.mono {w : World} {bb n n' : Nat} {D : DataW Unit} {fs : List Int} {mv fv : Value} (h : Bu w bb n D fs mv fv) (hn : n ≤ n') : Bu w bb n' D fs mv fv := ⟨h.1, h.2.1.mono hn, h.2.2⟩

/-- What a Put comes to, and what it turns. -/
def PutPost (bb n : Nat) (r : Int × DataW Unit × List Int) (mv : Value) (w : World) (e : Ending) (w' : World) : Prop := e = .returned (errV r.1) ∧ ∃ mv' fv', Bu w' bb (n + 1) r.2.1 r.2.2 mv' fv' ∧ Only (Own bb mv) w w' ∧ ∀ k, mv' = .map (some k) → mv = .map (some k) ∨ w.heap.size ≤ k
set_option maxRecDepth 100000 in
theorem put_any (bb n : Nat) (D : DataW Unit) (fs : List Int) (mv fv : Value) (key s : ByteArray) (w : World) (h : Bu w bb n D fs mv fv) (hn : n < maxLen) (hk : key.size ≤ maxLen) (hs : s.size ≤ maxLen) :
    Calls Tryd.prog 7 #[.pointer (some ⟨bb, 0, none⟩), .string key, .string s] w (PutPost bb n (putR D fs key s) mv w) := by
  have H : Hid (Bu w bb n D fs mv fv) := h
  have c0 := h.1.c0
  have hall := all_any bb mv w c0
  have HN : Hid (∀ o, Calls Tryd.prog 20 #[.pointer (some ⟨bb, 0, none⟩)] (w.alloc o) fun e w' => e = .returned (.int .i64 (fs.headD 0)) ∧ ∃ fv', Bu w' bb n D fs.tail mv fv' ∧ Only (fun k => k = bb) (w.alloc o) w') := fun o => next_any bb n D fs mv fv _ (h.1.alloc _) (h.2.1.alloc _) (h.2.2.alloc _)
  have HL : Hid (∀ w1 fv', Bu w1 bb n D fs.tail mv fv' → Calls Tryd.prog 21 #[.pointer (some ⟨bb, 0, none⟩), .string key, .string s] w1 fun e w' => e = .returned (.tuple #[]) ∧ ∃ mv', Bu w' bb (n + 1) (D.put (lit key) (txt s)) fs.tail mv' fv' ∧ Only (Own bb mv) w1 w' ∧ ∀ k, mv' = .map (some k) → mv = .map (some k) ∨ w1.heap.size ≤ k) := fun w1 fv' hb => lay_any bb n D fs.tail mv fv' key s w1 hb hn hk hs
  have HR : Hid (putR D fs key s = if okKey key = false then (1, D, fs) else if Maps.has D (lit key) = true then (9, D, fs) else if fs.headD 0 = 1 then (14, D, fs.tail) else if fs.headD 0 = 2 then (14, D.put (lit key) (txt s), fs.tail) else (0, D.put (lit key) (txt s), fs.tail)) := rfl
  have HK : Hid (okKey key = (decide (1 ≤ key.size) && decide (key.size ≤ 60))) := rfl
  clear h c0 hn
  generalize putR D fs key s = r at HR ⊢
  generalize fs.headD 0 = f at HN HR
  generalize fs.tail = tl at HN HR HL
  rcases Nat.lt_or_ge 0 key.size with h1 | h1
  · rcases Nat.lt_or_ge 60 key.size with h2 | h2
    · go_enter Tryd.func7, Tryd.ntmps7
      go_wp2
      go_ret
      have hr : r = (1, D, fs) := by rw [HR.out, if_pos (by rw [HK.out]; simp only [Bool.and_eq_false_iff, decide_eq_false_iff_not]; omega)]
      rw [hr]
      exact ⟨rfl, mv, fv, H.out.mono (by omega), Only.refl _ _, fun k hk => .inl hk⟩
    · have h1' : 1 ≤ key.size := h1
      have HKo : Hid (okKey key = true) := mkH (by rw [HK.out]; simp only [Bool.and_eq_true, decide_eq_true_eq]; omega)
      go_enter Tryd.func7, Tryd.ntmps7
      go_wp2_with (first
        | (go_at_call 19; refine hall.mono ?_; rintro e w1 ⟨rfl, rfl⟩)
        | (at_lookup; refine wpList_look _ rfl _ _ rfl n D mv key rfl rfl H.out.2.1 hk ?_; intro t hat)
        | (go_at_call 20; refine (HN.out _).mono ?_; rintro e w2 ⟨rfl, fv2, hu2, ho2⟩)
        | (go_at_call 21; refine (HL.out _ _ hu2).mono ?_; rintro e w3 ⟨rfl, mv3, hu3, ho3, hm3⟩))
      all_goals clear HN HL hall
      · rename_i hh
        go_ret
        have hr : r = (9, D, fs) := by rw [HR.out, if_neg (by rw [HKo.out]; simp), if_pos hh]
        rw [hr]
        exact ⟨rfl, mv, fv, (H.out.below ((Below.refl _ _).alloc (Nat.le_refl _) _)).mono (by omega), (Only.refl _ _).alloc _, fun k hk => .inl hk⟩
      · have hh : Maps.has D (lit key) = false := by assumption
        have h1 : (f == 1) = true := by assumption
        go_ret
        have hr : r = (14, D, tl) := by rw [HR.out, if_neg (by rw [HKo.out]; simp), if_neg (by rw [hh]; simp), if_pos (by simpa using h1)]
        rw [hr]
        exact ⟨rfl, mv, fv2, hu2.mono (by omega), ((Only.refl _ _).alloc _).trans ho2 (fun i _ e => .inl e), fun k hk => .inl hk⟩
      · have hh : Maps.has D (lit key) = false := by assumption
        have h1 : (f == 1) = false := by assumption
        have h2 : (f == 2) = true := by assumption
        go_ret
        have hr : r = (14, D.put (lit key) (txt s), tl) := by rw [HR.out, if_neg (by rw [HKo.out]; simp), if_neg (by rw [hh]; simp), if_neg (by simpa using h1), if_pos (by simpa using h2)]
        rw [hr]
        exact ⟨rfl, mv3, fv2, hu3, (((Only.refl _ _).alloc _).trans ho2 (fun i _ e => .inl e)).trans ho3 (fun i _ e => e), fun k hk => (hm3 k hk).imp id (fun h => Nat.le_trans (Nat.le_trans (by simp) ho2.size) h)⟩
      · have hh : Maps.has D (lit key) = false := by assumption
        have h1 : (f == 1) = false := by assumption
        have h2 : (f == 2) = false := by assumption
        go_ret
        have hr : r = (0, D.put (lit key) (txt s), tl) := by rw [HR.out, if_neg (by rw [HKo.out]; simp), if_neg (by rw [hh]; simp), if_neg (by simpa using h1), if_neg (by simpa using h2)]
        rw [hr]
        exact ⟨rfl, mv3, fv2, hu3, (((Only.refl _ _).alloc _).trans ho2 (fun i _ e => .inl e)).trans ho3 (fun i _ e => e), fun k hk => (hm3 k hk).imp id (fun h => Nat.le_trans (Nat.le_trans (by simp) ho2.size) h)⟩
  · go_enter Tryd.func7, Tryd.ntmps7
    go_wp2
    go_ret
    have hr : r = (1, D, fs) := by rw [HR.out, if_pos (by rw [HK.out]; simp only [Bool.and_eq_false_iff, decide_eq_false_iff_not]; omega)]
    rw [hr]
    exact ⟨rfl, mv, fv, H.out.mono (by omega), Only.refl _ _, fun k hk => .inl hk⟩

/-- What a Delete comes to, and what it turns. -/
def DelPost (bb n : Nat) (D : DataW Unit) (fs : List Int) (key : ByteArray) (mv fv : Value) (w : World) (e : Ending) (w' : World) : Prop := e = .returned (errV (if Maps.has D (lit key) = true then 0 else 7)) ∧ Bu w' bb n (D.del (lit key)) fs mv fv ∧ Only (Own bb mv) w w'
set_option maxRecDepth 100000 in
theorem delete_any (bb n : Nat) (D : DataW Unit) (fs : List Int) (mv fv : Value) (key : ByteArray) (w : World) (h : Bu w bb n D fs mv fv) (hk : key.size ≤ maxLen) :
    Calls Tryd.prog 10 #[.pointer (some ⟨bb, 0, none⟩), .string key] w (DelPost bb n D fs key mv fv w) := by
  have H : Hid (Bu w bb n D fs mv fv) := h
  have HF : Hid (∀ p x, w.cell? p = some (.int .i64 x) → p.block ≠ bb) := fun p x hc => Fs.far h.1 h.2.1 h.2.2 hc
  have hall := all_any bb mv w h.1.c0
  rcases h.2.1 with ⟨rfl, rfl⟩ | ⟨m, rfl, hm⟩
  · clear h
    go_enter Tryd.func10, Tryd.ntmps10
    go_wp2_with (first
      | (go_at_call 19; refine hall.mono ?_; rintro e w1 ⟨rfl, rfl⟩)
      | (at_lookup; refine wpList_look _ rfl _ _ rfl n (.map []) (.map none) key rfl rfl H.out.2.1 hk ?_; intro t hat))
    · rename_i hh
      have hf := nt hh
      go_ret
      refine ⟨by rw [hf]; rfl, ?_, (Only.refl _ _).alloc _⟩
      rw [del_of_not_has hf]
      exact H.out.below ((Below.refl _ _).alloc (Nat.le_refl _) _)
  · clear h
    go_enter Tryd.func10, Tryd.ntmps10
    go_wp2_with (first
      | (go_at_call 19; refine hall.mono ?_; rintro e w1 ⟨rfl, rfl⟩)
      | (at_lookup; refine wpList_look _ rfl _ _ rfl n D (.map (some m)) key rfl rfl H.out.2.1 hk ?_; intro t hat)
      | (at_delete; refine wpList_delete_own _ rfl _ _ 23 9 rfl 61 law9 Tryd.underlying23 _ m n D rfl (hm.alloc _) _ _ rfl (keyOf9 hk) ?_; intro w2 hown2 hturn2))
    · rename_i hh
      have hf := nt hh
      go_ret
      refine ⟨by rw [hf]; rfl, ?_, (Only.refl _ _).alloc _⟩
      rw [del_of_not_has hf]
      exact H.out.below ((Below.refl _ _).alloc (Nat.le_refl _) _)
    · have hh : (!Maps.has D (lit key)) = false := by assumption
      have hf := nf hh
      go_ret
      have ho : Only (Own bb (.map (some m))) w1 w2 := ((Only.refl _ w1).alloc _).turned hturn2 (fun _ => .inr rfl)
      have hne : m ≠ bb := fun e => by
        have := H.out.2.1.ne H.out.1.c0
        rw [e] at this
        exact this rfl
      have hlt := H.out.1.lt
      refine ⟨by rw [hf]; rfl, ⟨H.out.1.keep ?_, .inr ⟨m, rfl, hown2⟩, H.out.2.2.keep fun p v ⟨x, hx⟩ hc => ho.cell hc ?_⟩, ho⟩
      · rw [hturn2.grown.block bb (by simp; omega) (fun e => hne (Option.some.inj e).symm)]
        exact Below.heap_alloc _ _ _ hlt
      · rintro (e | e)
        · exact HF.out p x (hx ▸ hc) e
        · exact H.out.2.1.ne hc e
end Go.Proofs.YtinpapenpinhdaaDoor
