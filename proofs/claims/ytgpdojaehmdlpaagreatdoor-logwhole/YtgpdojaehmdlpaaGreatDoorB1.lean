/- What log.do does, said of every call. -/
import Derived.Test.YtgpdojaehmdlpaaGreatDoorA9
namespace Go.Proofs.YtgpdojaehmdlpaaGreatDoor
open Go.RowKit Go.Proofs Go.Lib Go.Joins

def DoesL (s : Snap) (a : Actn) (t : Snap) : Prop := Does nameB colB fitB s a t
def DoPost (base b : Nat) (w : World) (s : Snap) (a : Actn) (e : Ending) (w' : World) : Prop :=
  ∃ c : Int, e = .returned (.int .i64 c) ∧ Below base w w' ∧ ((c = 0 ∧ ∃ t, DoesL s a t ∧ SnapAt base b w' t) ∨ (c ≠ 0 ∧ ∀ t, ¬ DoesL s a t))
theorem DoPost.of {base b : Nat} {w w0 w' : World} {s : Snap} {a : Actn} {ok : Prop} {t : Snap} {e : Ending} (h : StPost base b w0 ok t e w') (hb : Below base w w0) (h1 : ok → DoesL s a t) (h2 : ∀ u, DoesL s a u → ok) : ∃ c : Int, e = .returned (.int .i64 c) ∧ DoPost base b w s a (.returned (.int .i64 c)) w' := by
  obtain ⟨c, rfl, hb', hh⟩ := h
  refine ⟨c, rfl, c, rfl, hb.trans hb', ?_⟩
  rcases hh with ⟨h0, hok, hs⟩ | ⟨h0, hok⟩
  · exact .inl ⟨h0, t, h1 hok, hs⟩
  · exact .inr ⟨h0, fun u hu => hok (h2 u hu)⟩

/-- What is known of an action's parts in memory. -/
structure ActAt (W : World) (a : Actn) (ma : Option Addr) (mn mc : Nat) (ca : Option Addr) (cn cc : Nat) : Prop where
  mask : LiI W (.slice ma mn mc) a.2.2.2.1
  cols : LiC W (.slice ca cn cc) a.2.2.2.2.1
  path : a.2.1.size ≤ maxLen
  few : a.2.2.2.1.length ≤ 900
  texts : ∀ x ∈ a.2.2.2.2.1, x.2.1.size ≤ maxLen ∧ x.2.2.2.2.2.2.size ≤ maxLen
theorem ActAt.below {w W : World} {a : Actn} {ma : Option Addr} {mn mc : Nat} {ca : Option Addr} {cn cc : Nat} (h : ActAt w a ma mn mc ca cn cc) (hb : Below w.heap.size w W) : ActAt W a ma mn mc ca cn cc :=
  ⟨h.mask.below hb, h.cols.below hb, h.path, h.few, h.texts⟩

set_option maxHeartbeats 4000000 in
set_option maxRecDepth 100000 in
theorem do_any (base b : Nat) (s : Snap) (k : Int) (p : ByteArray) (r : Int) (m : List Int) (cl : List Col) (nx : Int) (ma : Option Addr) (mn mc : Nat) (ca : Option Addr) (cn cc : Nat) (w : World) (h : SnapAt base b w s)
    (ha : ActAt w (k, p, r, m, cl, nx) ma mn mc ca cn cc) (hw : NcB w) (hg : Good colB fitB s) :
    Calls Tryz.prog 37 #[.pointer (some ⟨b, 0, none⟩), .agg #[.int .i64 k, .string p, .int .i64 r, .slice ma mn mc, .slice ca cn cc, .int .i64 nx]] w (DoPost base b w s (k, p, r, m, cl, nx)) := by
  have HB0 : Hid (Below w.heap.size w (w.alloc (.cells #[.int .i64 k, .string p, .int .i64 r, .slice ma mn mc, .slice ca cn cc, .int .i64 nx] 75))) := (Below.refl _ _).alloc (Nat.le_refl _) _
  obtain ⟨cv, fv, L, hI⟩ := h
  have hbase := hI.size
  have h0 : SnapAt base b (w.alloc (.cells #[.int .i64 k, .string p, .int .i64 r, .slice ma mn mc, .slice ca cn cc, .int .i64 nx] 75)) s := ⟨cv, fv, L, hI.up HB0.out⟩
  have ha0 := ha.below HB0.out
  have hw0 := hw.below HB0.out
  have hb0 : Below base w (w.alloc (.cells #[.int .i64 k, .string p, .int .i64 r, .slice ma mn mc, .slice ca cn cc, .int .i64 nx] 75)) := HB0.out.mono hbase
  have H1 := mkH (add_any base b s k p r m cl nx ma mn mc ca cn cc _ h0 ha0.path hg.few)
  have H2 := mkH (remove_any base b s k p r m cl nx ma mn mc ca cn cc _ h0 hg.few)
  have H3 := mkH (mask_any base b s k p r m cl nx ma mn mc ca cn cc _ h0 ha0.mask ha0.few (fun e he => good_mask_len hg he))
  have H4 := mkH (change_any base b s k p r m cl nx ma mn mc ca cn cc _ h0 ha0.cols ha0.texts hw0)
  have HBB := mkH hb0
  clear h0 ha0 hw0 hb0 ha hw hg hI
  by_cases k1 : k = 1
  · subst k1
    have HP : Hid (∀ e w', StPost base b _ _ _ e w' → _) := fun e w' hh => DoPost.of (s := s) (a := (1, p, r, m, cl, nx)) (ok := addOk nameB s (1, p, r, m, cl, nx)) (t := addS s (1, p, r, m, cl, nx)) hh HBB.out (fun ok => .inl ⟨rfl, ok, rfl⟩) (fun u hu => by
      rcases hu with ⟨_, h, _⟩ | ⟨e, _⟩ | ⟨e, _⟩ | ⟨e, _⟩
      · exact h
      all_goals simp at e)
    clear H2 H3 H4
    go_enter Tryz.func37, Tryz.ntmps37
    go_wp2_with (go_at_call 67; refine H1.out.mono ?_; intro e w1 hh; obtain ⟨c, rfl, hp⟩ := HP.out _ _ hh; have HPP := mkH hp; clear hh hp)
    go_ret
    exact HPP.out
  · by_cases k2 : k = 2
    · subst k2
      have HP : Hid (∀ e w', StPost base b _ _ _ e w' → _) := fun e w' hh => DoPost.of (s := s) (a := (2, p, r, m, cl, nx)) (ok := 0 ≤ whereF s.files p) (t := remS s (2, p, r, m, cl, nx)) hh HBB.out (fun ok => .inr (.inl ⟨rfl, ok, rfl⟩)) (fun u hu => by
        rcases hu with ⟨e, _⟩ | ⟨_, h, _⟩ | ⟨e, _⟩ | ⟨e, _⟩
        · simp at e
        · exact h
        all_goals simp at e)
      clear H1 H3 H4
      go_enter Tryz.func37, Tryz.ntmps37
      go_wp2_with (go_at_call 68; refine H2.out.mono ?_; intro e w1 hh; obtain ⟨c, rfl, hp⟩ := HP.out _ _ hh; have HPP := mkH hp; clear hh hp)
      go_ret
      exact HPP.out
    · by_cases k3 : k = 3
      · subst k3
        have HP : Hid (∀ e w', StPost base b _ _ _ e w' → _) := fun e w' hh => DoPost.of (s := s) (a := (3, p, r, m, cl, nx)) (ok := mskOk s (3, p, r, m, cl, nx)) (t := mskS s (3, p, r, m, cl, nx)) hh HBB.out (fun ok => .inr (.inr (.inl ⟨rfl, ok, rfl⟩))) (fun u hu => by
          rcases hu with ⟨e, _⟩ | ⟨e, _⟩ | ⟨_, h, _⟩ | ⟨e, _⟩
          · simp at e
          · simp at e
          · exact h
          · simp at e)
        clear H1 H2 H4
        go_enter Tryz.func37, Tryz.ntmps37
        go_wp2_with (go_at_call 69; refine H3.out.mono ?_; intro e w1 hh; obtain ⟨c, rfl, hp⟩ := HP.out _ _ hh; have HPP := mkH hp; clear hh hp)
        go_ret
        exact HPP.out
      · by_cases k4 : k = 4
        · subst k4
          have HP : Hid (∀ e w', StPost base b _ _ _ e w' → _) := fun e w' hh => DoPost.of (s := s) (a := (4, p, r, m, cl, nx)) (ok := schOk colB fitB s (4, p, r, m, cl, nx)) (t := schS s (4, p, r, m, cl, nx)) hh HBB.out (fun ok => .inr (.inr (.inr ⟨rfl, ok, rfl⟩))) (fun u hu => by
            rcases hu with ⟨e, _⟩ | ⟨e, _⟩ | ⟨e, _⟩ | ⟨_, h, _⟩
            · simp at e
            · simp at e
            · simp at e
            · exact h)
          clear H1 H2 H3
          go_enter Tryz.func37, Tryz.ntmps37
          go_wp2_with (go_at_call 70; refine H4.out.mono ?_; intro e w1 hh; obtain ⟨c, rfl, hp⟩ := HP.out _ _ hh; have HPP := mkH hp; clear hh hp)
          go_ret
          exact HPP.out
        · have HN : Hid (∀ t, ¬ DoesL s (k, p, r, m, cl, nx) t) := fun t hu => by
            rcases hu with ⟨e, _⟩ | ⟨e, _⟩ | ⟨e, _⟩ | ⟨e, _⟩
            · exact k1 e
            · exact k2 e
            · exact k3 e
            · exact k4 e
          clear H1 H2 H3 H4
          go_enter Tryz.func37, Tryz.ntmps37
          go_wp2
          go_ret
          exact ⟨1, rfl, HBB.out, .inr ⟨by decide, HN.out⟩⟩
end Go.Proofs.YtgpdojaehmdlpaaGreatDoor
