/- What log.column does, said of every call. -/
import Derived.Test.YtgpdojaehmdlpaaGreatDoorP4
import Derived.Deep.RegionHeld3
namespace Go.Proofs.YtgpdojaehmdlpaaGreatDoor
open Go.RowKit Go.Proofs Go.Lib Go.Joins

def mustW : ByteArray := ⟨#[109, 117, 115, 116]⟩
def mayW : ByteArray := ⟨#[109, 97, 121]⟩
def columnB (c : Col) : ByteArray := joinB [itoaB c.1, c.2.1, itoaB c.2.2.1, eitherB c.2.2.2.1 mustW mayW, printV c.2.2.2.2.1 c.2.2.2.2.2.1 c.2.2.2.2.2.2] ⟨#[32]⟩
theorem bsize_app (a b : ByteArray) : (a ++ b).size = a.size + b.size := by simp
theorem printV_size {k n : Int} {t : ByteArray} (hn : I64 n) (ht : t.size ≤ 100) : (printV k n t).size ≤ 102 := by
  unfold printV
  split
  · decide
  split
  · have := itoaB_size hn; omega
  split
  · rw [bsize_app, bsize_app]; have : (⟨#[39]⟩ : ByteArray).size = 1 := rfl; omega
  · decide
theorem eitherB_size (b : Bool) : (eitherB b mustW mayW).size ≤ 4 := by cases b <;> decide
theorem columnB_size {c : Col} (h1 : I64 c.1) (h2 : c.2.1.size ≤ 100) (h3 : I64 c.2.2.1) (h4 : I64 c.2.2.2.2.2.1) (h5 : c.2.2.2.2.2.2.size ≤ 100) : (columnB c).size ≤ 600 := by
  have := joinB_size (b := 102) (xs := [itoaB c.1, c.2.1, itoaB c.2.2.1, eitherB c.2.2.2.1 mustW mayW, printV c.2.2.2.2.1 c.2.2.2.2.2.1 c.2.2.2.2.2.2]) (sep := ⟨#[32]⟩) (by
    intro x hx
    simp only [List.mem_cons, List.not_mem_nil, or_false] at hx
    rcases hx with rfl | rfl | rfl | rfl | rfl
    · have := itoaB_size h1; omega
    · omega
    · have := itoaB_size h3; omega
    · have := eitherB_size c.2.2.2.1; omega
    · exact printV_size h4 h5)
  have e : (⟨#[32]⟩ : ByteArray).size = 1 := rfl
  rw [e] at this
  simp only [List.length_cons, List.length_nil] at this
  unfold columnB
  omega

set_option maxHeartbeats 4000000 in
set_option maxRecDepth 100000 in
theorem column_any (i : Int) (nm : ByteArray) (k : Int) (mu : Bool) (dk dn : Int) (dt : ByteArray) (w : World) (hi : I64 i) (hk : I64 k) (hd : I64 dn) (hnm : nm.size ≤ 100) (hdt : dt.size ≤ 100) (ht : TabB w) :
    Calls Tryz.prog 64 #[.agg #[.int .i64 i, .string nm, .int .i64 k, .bool mu, .int .i64 dk, .int .i64 dn, .string dt]] w fun e w' => e = .returned (.string (columnB (i, nm, k, mu, dk, dn, dt))) ∧ Below w.heap.size w w' := by
  have HB0 : Hid (Below w.heap.size w (w.alloc (.cells #[.int .i64 i, .string nm, .int .i64 k, .bool mu, .int .i64 dk, .int .i64 dn, .string dt] 80))) := (Below.refl _ _).alloc (Nat.le_refl _) _
  have HIT : Hid (∀ n, I64 n → ∀ W, Below w.heap.size w W → Calls Tryz.prog 48 #[.int .i64 n] W fun e w' => e = .returned (.string (itoaB n)) ∧ Below W.heap.size W w') := fun n hn W hW => itoa_any n W hn (ht.below hW)
  have HEI : Hid (∀ W, Calls Tryz.prog 31 #[.bool mu, .string ⟨#[109, 117, 115, 116]⟩, .string ⟨#[109, 97, 121]⟩] W fun e w' => e = .returned (.string (eitherB mu mustW mayW)) ∧ w' = W) := fun W => either_any mu mustW mayW W
  have HPR : Hid (∀ W, Below w.heap.size w W → Calls Tryz.prog 99 #[.agg #[.int .i64 dk, .int .i64 dn, .string dt]] W fun e w' => e = .returned (.string (printV dk dn dt)) ∧ Below W.heap.size W w') := fun W hW => printV_any dk dn dt W (by omega) hd (ht.below hW)
  have HJO : Hid (∀ (W : World) (g : Nat), W.heap[g]? = some (.cells #[.string (itoaB i), .string nm, .string (itoaB k), .string (eitherB mu mustW mayW), .string (printV dk dn dt)] 9) → Calls Tryz.prog 98 #[.slice (some ⟨g, 0, none⟩) 5 5, .string ⟨#[32]⟩] W fun e w' => e = .returned (.string (columnB (i, nm, k, mu, dk, dn, dt))) ∧ Below W.heap.size W w') := fun W g hg => by
    have ho : W.ownsRow 0 9 1 (.slice (some ⟨g, 0, none⟩) 5 5) 5 [.string (itoaB i), .string nm, .string (itoaB k), .string (eitherB mu mustW mayW), .string (printV dk dn dt)] := ⟨rfl, .inr ⟨g, 5, _, rfl, Nat.zero_le _, hg, Nat.le_refl _, by decide, rfl, rfl⟩⟩
    exact join_own 0 _ [itoaB i, nm, itoaB k, eitherB mu mustW mayW, printV dk dn dt] ⟨#[32]⟩ W ho (by simp) (by have := columnB_size (c := (i, nm, k, mu, dk, dn, dt)) hi hnm hk hd hdt; unfold columnB at this; simp only at this; omega)
  have e48 : ∀ args w, (callFunc 48 args).run Tryz.prog w = .ok (.enter 48 args) w := enters_of Tryz.func48 (by kernel_rfl) rfl
  have e24 : ∀ args w, (callFunc 31 args).run Tryz.prog w = .ok (.enter 31 args) w := enters_of Tryz.func31 (by kernel_rfl) rfl
  have e78 : ∀ args w, (callFunc 99 args).run Tryz.prog w = .ok (.enter 99 args) w := enters_of Tryz.func99 (by kernel_rfl) rfl
  have e77 : ∀ args w, (callFunc 98 args).run Tryz.prog w = .ok (.enter 98 args) w := enters_of Tryz.func98 (by kernel_rfl) rfl
  have HE48 := mkH e48
  have HE24 := mkH e24
  have HE78 := mkH e78
  have HE77 := mkH e77
  have HI := mkH hi
  have HK := mkH hk
  obtain ⟨d0, d1, d2, d3, d4, d5, d6⟩ := new7 w (.int .i64 i) (.string nm) (.int .i64 k) (.bool mu) (.int .i64 dk) (.int .i64 dn) (.string dt)
  have hsz : w.heap.size < (w.alloc (.cells #[.int .i64 i, .string nm, .int .i64 k, .bool mu, .int .i64 dk, .int .i64 dn, .string dt] 80)).heap.size := by simp
  have HSZ := mkH hsz
  clear e48 e24 e78 e77 hi hk hd hnm hdt ht hsz
  generalize columnB (i, nm, k, mu, dk, dn, dt) = res at *
  have HI1 := mkH (HIT.out i HI.out)
  have HI3 := mkH (HIT.out k HK.out)
  clear HIT HI HK
  generalize itoaB i = s1 at *
  generalize itoaB k = s3 at *
  generalize eitherB mu mustW mayW = s4 at *
  generalize printV dk dn dt = s5 at *
  go_enter Tryz.func64, Tryz.ntmps64
  go_wp2_with fail
  generalize w.alloc (.cells #[.int .i64 i, .string nm, .int .i64 k, .bool mu, .int .i64 dk, .int .i64 dn, .string dt] 80) = wq at *
  have HKD : Hid (∀ W, Below wq.heap.size wq W → W.cell? ⟨w.heap.size, 0, none⟩ = some (.int .i64 i) ∧ W.cell? ⟨w.heap.size, 1, none⟩ = some (.string nm) ∧ W.cell? ⟨w.heap.size, 2, none⟩ = some (.int .i64 k) ∧ W.cell? ⟨w.heap.size, 3, none⟩ = some (.bool mu) ∧ W.cell? ⟨w.heap.size, 4, none⟩ = some (.int .i64 dk) ∧ W.cell? ⟨w.heap.size, 5, none⟩ = some (.int .i64 dn) ∧ W.cell? ⟨w.heap.size, 6, none⟩ = some (.string dt)) := mkH (fun W hW =>
    ⟨(hW.cell (p := ⟨w.heap.size, 0, none⟩) HSZ.out).trans d0, (hW.cell (p := ⟨w.heap.size, 1, none⟩) HSZ.out).trans d1, (hW.cell (p := ⟨w.heap.size, 2, none⟩) HSZ.out).trans d2, (hW.cell (p := ⟨w.heap.size, 3, none⟩) HSZ.out).trans d3, (hW.cell (p := ⟨w.heap.size, 4, none⟩) HSZ.out).trans d4, (hW.cell (p := ⟨w.heap.size, 5, none⟩) HSZ.out).trans d5, (hW.cell (p := ⟨w.heap.size, 6, none⟩) HSZ.out).trans d6⟩)
  have HBL : Hid (Below wq.heap.size wq wq.drew) := mkH (Below.refl _ _).drew
  go_region_held3 (fun w' => w'.cell? ⟨w.heap.size, 0, none⟩ = some (.int .i64 i) ∧ w'.cell? ⟨w.heap.size, 1, none⟩ = some (.string nm) ∧ w'.cell? ⟨w.heap.size, 2, none⟩ = some (.int .i64 k) ∧ w'.cell? ⟨w.heap.size, 3, none⟩ = some (.bool mu) ∧ w'.cell? ⟨w.heap.size, 4, none⟩ = some (.int .i64 dk) ∧ w'.cell? ⟨w.heap.size, 5, none⟩ = some (.int .i64 dn) ∧ w'.cell? ⟨w.heap.size, 6, none⟩ = some (.string dt))
    (first
      | exact HKD.out _ HBL.out
      | exact HKD.out _ (HBL.out.alloc HBL.out.size _)
      | exact HKD.out _ HB5.out
      | (go_keep; done)
      | fail)
    (first
      | (go_at_call_of 48 (#[.int .i64 i] : Array Value); refine (HI1.out _ (Below.ups HB0.out HBL.out)).mono ?_; rintro e w4 ⟨rfl, hb4⟩; replace HBL := mkH (Below.ups HBL.out hb4); clear hb4)
      | (go_at_call_of 48 (#[.int .i64 k] : Array Value); refine (HI3.out _ (Below.ups HB0.out HBL.out)).mono ?_; rintro e w4 ⟨rfl, hb4⟩; replace HBL := mkH (Below.ups HBL.out hb4); clear hb4)
      | (go_at_call 31; refine (HEI.out _).mono ?_; rintro e w4 ⟨rfl, rfl⟩)
      | (go_at_call 99; refine (HPR.out _ (Below.ups HB0.out HBL.out)).mono ?_; rintro e w4 ⟨rfl, hb4⟩; replace HBL := mkH (Below.ups HBL.out hb4); clear hb4)
      | (go_at_call 98; refine (HJO.out _ _ (heap_alloc_new _ _)).mono ?_; rintro e w4 ⟨rfl, hb4⟩; have HB5 := mkH (Below.ups (HBL.out.alloc HBL.out.size _) hb4); clear hb4)
      | fail)
  all_goals
    go_wp2
    go_ret
    exact ⟨rfl, Below.ups HB0.out HB5.out⟩
end Go.Proofs.YtgpdojaehmdlpaaGreatDoor
