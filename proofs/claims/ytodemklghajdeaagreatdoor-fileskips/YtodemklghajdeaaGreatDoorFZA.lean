/- What the law's small functions do: columns, rows, pick, num; said of every call. -/
import Derived.Test.YtodemklghajdeaaGreatDoorFW5
namespace Go.Proofs.YtodemklghajdeaaGreatDoor
open Go.RowKit Go.Proofs Go.Shelf Go.Joins

def TellPost (P : Prop) (w : World) (e : Ending) (w' : World) : Prop := ∃ b, e = .returned (.bool b) ∧ (b = true → P) ∧ Below w.heap.size w w'
def ColsFit (l : List Col) : Prop := l.length ≤ 20 ∧ ∀ c ∈ l, c.2.1.size ≤ 60 ∧ c.2.2.2.2.2.2.size ≤ 100
def RowsFit (l : List (List V)) : Prop := l.length ≤ 70 ∧ ∀ r ∈ l, r.length ≤ 20 ∧ ∀ v ∈ r, v.2.2.size ≤ 100
theorem take_fit {α : Type} {P : α → Prop} {l : List α} {k : Nat} (h : ∀ x ∈ l.take k, P x) (hk : l.length ≤ k) : ∀ x ∈ l, P x := by rwa [List.take_of_length_le hk] at h
theorem take_step {α : Type} {P : α → Prop} {l : List α} {k : Nat} {x : α} (h : ∀ x ∈ l.take k, P x) (hx : l[k]? = some x) (hp : P x) : ∀ x ∈ l.take (k + 1), P x := by
  rw [E.take_next hx]
  intro y hy
  rcases List.mem_append.1 hy with hy | hy
  · exact h y hy
  · simp at hy; subst hy; exact hp
set_option maxHeartbeats 4000000 in
set_option maxRecDepth 100000 in
theorem columns_any (lv : Value) (l : List Col) (w : World) (hl : SlE 7 C.encC w lv l) (hms : ∀ c ∈ l, c.2.1.size ≤ maxLen ∧ c.2.2.2.2.2.2.size ≤ maxLen) :
    Calls Tryz.prog 6 #[lv] w (TellPost (ColsFit l) w) := by
  have HL := mkH hl
  obtain ⟨la, lc, rfl, _⟩ := hl.slice
  have HMS := mkH hms
  clear hl hms
  by_cases h20 : l.length ≤ 20
  · have h20' : ¬ (20 : Int) < (l.length : Int) := by omega
    go_enter Tryz.func6, Tryz.ntmps6
    go_wp2
    go_loopw [3] (fun vi wr => ∃ k : Nat, k ≤ l.length ∧ vi = .int .i64 k ∧ Hid (∀ c ∈ l.take k, c.2.1.size ≤ 60 ∧ c.2.2.2.2.2.2.size ≤ 100) ∧ Hid (Below w.heap.size w wr)) (fun vi _ => l.length - (intOf vi).toNat)
    case atStart => exact ⟨0, Nat.zero_le _, rfl, mkH (by simp), mkH (Below.refl _ _)⟩
    case round =>
      obtain ⟨k, hk, rfl, hok, hbR⟩ := hrel
      by_cases hlt : k < l.length
      · obtain ⟨⟨c1, c2, c3, c4, c5, c6, c7⟩, hc⟩ : ∃ c, l[k]? = some c := ⟨_, List.getElem?_eq_getElem hlt⟩
        obtain ⟨lb, lo, lc', el, _, hlb, hlcell⟩ := (HL.out.up hbR.out).cons (by omega)
        injection el with el1 _ el2
        subst el1 el2
        obtain ⟨q0, q1, q2, q3, q4, q5, q6⟩ := cells7 hlcell hc
        obtain ⟨m1, m2⟩ := HMS.out _ (List.mem_of_getElem? hc)
        dsimp only at m1 m2
        have hkl : (k : Int) < (l.length : Int) := by omega
        have HC := mkH hc
        clear hlcell hc
        by_cases a1 : c2.size ≤ 60
        · have a1' : ¬ (60 : Int) < (c2.size : Int) := by omega
          by_cases a2 : c7.size ≤ 100
          · have a2' : ¬ (100 : Int) < (c7.size : Int) := by omega
            have HOK := mkH (take_step hok.out HC.out ⟨a1, a2⟩)
            go_wp2
            exact ⟨⟨k + 1, by omega, by go_num, HOK, hbR⟩, by simp [intOf]; omega⟩
          · have a2' : (100 : Int) < (c7.size : Int) := by omega
            go_wp2
            go_ret
            exact ⟨_, rfl, by simp, hbR.out⟩
        · have a1' : (60 : Int) < (c2.size : Int) := by omega
          go_wp2
          go_ret
          exact ⟨_, rfl, by simp, hbR.out⟩
      · have hkl : ¬ (k : Int) < (l.length : Int) := by omega
        have HR := mkH (take_fit hok.out (by omega))
        go_wp2
        go_ret
        exact ⟨_, rfl, fun _ => ⟨h20, HR.out⟩, hbR.out⟩
  · have h20' : (20 : Int) < (l.length : Int) := by omega
    go_enter Tryz.func6, Tryz.ntmps6
    go_wp2
    go_ret
    exact ⟨_, rfl, by simp, Below.refl _ _⟩
set_option maxHeartbeats 4000000 in
set_option maxRecDepth 100000 in
theorem keepRows_any (rv : Value) (l : List (List V)) (w : World) (hl : SlR w rv l) (hms : ∀ r ∈ l, ∀ v ∈ r, v.2.2.size ≤ maxLen) :
    Calls Tryz.prog 7 #[rv] w (TellPost (RowsFit l) w) := by
  have HL := mkH hl
  obtain ⟨la, lc, rfl, _⟩ := hl.slice
  have HMS := mkH hms
  clear hl hms
  by_cases h70 : l.length ≤ 70
  · have h70' : ¬ (70 : Int) < (l.length : Int) := by omega
    go_enter Tryz.func7, Tryz.ntmps7
    go_wp2
    go_loopw [3] (fun vi wr => ∃ k : Nat, k ≤ l.length ∧ vi = .int .i64 k ∧ Hid (∀ r ∈ l.take k, r.length ≤ 20 ∧ ∀ v ∈ r, v.2.2.size ≤ 100) ∧ Hid (Below w.heap.size w wr)) (fun vi _ => l.length - (intOf vi).toNat)
    case atStart => exact ⟨0, Nat.zero_le _, rfl, mkH (by simp), mkH (Below.refl _ _)⟩
    case round =>
      obtain ⟨k, hk, rfl, hok, hbR⟩ := hrel
      by_cases hlt : k < l.length
      · obtain ⟨r, hr⟩ : ∃ r, l[k]? = some r := ⟨_, List.getElem?_eq_getElem hlt⟩
        obtain ⟨rb, ro, rc', xv, er, hrb, hcell, hSl⟩ := (HL.out.up hbR.out).at hr
        injection er with er1 _ er2
        subst er1 er2
        obtain ⟨xa, xc, rfl, _, hxc⟩ := hSl
        have HXC := mkH hxc
        have hrt := HMS.out r (List.mem_of_getElem? hr)
        have HRT := mkH hrt
        have HR := mkH hr
        have hkl : (k : Int) < (l.length : Int) := by omega
        clear hxc hrt hr
        by_cases a1 : r.length ≤ 20
        · have a1' : ¬ (20 : Int) < (r.length : Int) := by omega
          go_wp2
          rename World => wo
          go_loopw [4] (fun vi wi => ∃ j : Nat, j ≤ r.length ∧ vi = .int .i64 j ∧ Hid (∀ v ∈ r.take j, v.2.2.size ≤ 100) ∧ Hid (Below wo.heap.size wo wi)) (fun vi _ => r.length - (intOf vi).toNat)
          case atStart => exact ⟨0, Nat.zero_le _, rfl, mkH (by simp), mkH (Below.refl _ _)⟩
          case round =>
            obtain ⟨j, hj, rfl, hjk, hbi⟩ := hrel
            have hcell' := cell_up hbi.out hcell
            by_cases hjl : j < r.length
            · obtain ⟨⟨vk, vn, vt⟩, hv⟩ : ∃ x, r[j]? = some x := ⟨_, List.getElem?_eq_getElem hjl⟩
              obtain ⟨xb, xo, rfl, hxb, hxcell⟩ := HXC.out (by intro e; rw [e] at hjl; simp at hjl)
              obtain ⟨y0, y1, y2⟩ := hxcell j _ hv
              replace y0 := cell_up hbi.out y0
              replace y1 := cell_up hbi.out y1
              replace y2 := cell_up hbi.out y2
              have m1 := HRT.out _ (List.mem_of_getElem? hv)
              dsimp only at m1
              have hjr : (j : Int) < (r.length : Int) := by omega
              have HV := mkH hv
              clear hxcell hv
              by_cases a2 : vt.size ≤ 100
              · have a2' : ¬ (100 : Int) < (vt.size : Int) := by omega
                have HOK := mkH (take_step (P := fun v : V => v.2.2.size ≤ 100) hjk.out HV.out a2)
                go_wp2
                exact ⟨⟨j + 1, by omega, by go_num, HOK, hbi⟩, by simp [intOf]; omega⟩
              · have a2' : (100 : Int) < (vt.size : Int) := by omega
                go_wp2
                go_ret
                exact ⟨_, rfl, by simp, ups hbR.out hbi.out⟩
            · have hjr : ¬ (j : Int) < (r.length : Int) := by omega
              have HOK := mkH (take_step (P := fun r : List V => r.length ≤ 20 ∧ ∀ v ∈ r, v.2.2.size ≤ 100) hok.out HR.out ⟨a1, take_fit (P := fun v : V => v.2.2.size ≤ 100) hjk.out (by omega)⟩)
              have HBF := mkH (ups hbR.out hbi.out)
              go_wp2
              exact ⟨⟨k + 1, by omega, by go_num, HOK, HBF⟩, by simp [intOf]; omega⟩
        · have a1' : (20 : Int) < (r.length : Int) := by omega
          go_wp2
          go_ret
          exact ⟨_, rfl, by simp, hbR.out⟩
      · have hkl : ¬ (k : Int) < (l.length : Int) := by omega
        have HR := mkH (take_fit (P := fun r : List V => r.length ≤ 20 ∧ ∀ v ∈ r, v.2.2.size ≤ 100) hok.out (by omega))
        go_wp2
        go_ret
        exact ⟨_, rfl, fun _ => ⟨h70, HR.out⟩, hbR.out⟩
  · have h70' : (70 : Int) < (l.length : Int) := by omega
    go_enter Tryz.func7, Tryz.ntmps7
    go_wp2
    go_ret
    exact ⟨_, rfl, by simp, Below.refl _ _⟩
end Go.Proofs.YtodemklghajdeaaGreatDoor
