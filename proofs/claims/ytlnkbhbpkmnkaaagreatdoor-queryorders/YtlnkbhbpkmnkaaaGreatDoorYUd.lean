/- What the law's answered does, said of every call. -/
import Derived.Test.YtlnkbhbpkmnkaaaGreatDoorFX0
namespace Go.Proofs.YtlnkbhbpkmnkaaaGreatDoor
open Go.RowKit Go.Proofs Go.Lib Go.Joins Go.Proofs.YtlnkbhbpkmnkaaaGreatDoor.Ask
open Go.Proofs.YtlnkbhbpkmnkaaaGreatDoor.Stb (ss)

def qA : QQ := ⟨(.no, some [97]), [(.count, none), (.sum, some [97])], some [97], some (0, true), some 1⟩
def sA : ByteArray := ⟨#[115, 101, 108, 101, 99, 116, 32, 97, 44, 32, 99, 111, 117, 110, 116, 40, 42, 41, 44, 32, 115, 117, 109, 40, 97, 41, 32, 98, 121, 32, 97, 32, 111, 114, 100, 101, 114, 32, 49, 32, 100, 101, 115, 99, 32, 108, 105, 109, 105, 116, 32, 49]⟩
theorem sA_q : sA = bA (qX qA) := by
  show _ = bA _
  rfl
def rowsA : List (List F.V) := [[F.numV 1], [F.numV 2], [F.numV 2]]
theorem toldA : F.limR 1 (ss (F.ltB [(0, true)]) (F.toldQ [(.no, 0), (.count, -1), (.sum, 0)] (F.cutA (F.stC [(0, false)]) [] (ss (F.ltB [(0, false)]) rowsA)))) = [[F.numV 2, F.numV 2, F.numV 4]] := by
  kernel_rfl
theorem run_q (lv rv iv bv ov : Value) (cols : List F.Col) (q : QQ) (sv : Bool) (P : List (List (List F.V))) (w : World) (hA : QAt w q iv bv ov) (hq : QOk q)
    (hc : F.SlE 7 C.encC w lv cols) (h1 : 0 < cols.length) (h8 : cols.length ≤ 8) (hrv : ∃ a n c, rv = .slice a n c) (hf : F.FineQ cols (itsF q) (namesF q) sv) (hp : PartsDo w lv rv q sv P)
    (hP : P.length ≤ 1000) (hok : ∀ g ∈ P, F.PsOk (psF cols q) g ∧ g.length ≤ 900) :
    Calls Tryz.prog 17 #[lv, rv, .agg #[iv, .pointer none, bv, ov, .int .i64 (limN q.lim)]] w (F.RunPost (F.limR (limN q.lim) (ss (F.ltB q.ord.toList) (F.toldQ (psF cols q) P))) w) := by
  have h0 : 0 ≤ limN q.lim := by unfold limN; cases q.lim <;> simp
  have hlm : limN q.lim ≤ 1000000 := by
    unfold limN
    cases hl : q.lim with
    | none => simp
    | some n => have := (hq.lim n hl).2; simp; omega
  have hil : (itsF q).length ≤ 1000 := by have := hq.few; unfold itsF; simp; omega
  have hnl : (namesF q).length ≤ 1000 := by unfold namesF; cases q.byn <;> simp
  have hol : q.ord.toList.length ≤ 1000 := by cases q.ord <;> simp
  have hop : ∀ x ∈ q.ord.toList, x.1 ≤ 1000000 := fun x hx => by
    cases ho : q.ord with
    | none => rw [ho] at hx; cases hx
    | some y =>
      rw [ho] at hx
      simp at hx
      subst hx
      have := (hq.ord _ ho).1
      omega
  exact F.run_any lv rv iv bv ov cols (itsF q) (namesF q) q.ord.toList sv (limN q.lim) P w hc h1 h8 hrv hA.its hil hA.2.1 hnl hA.2.2 hop hol h0 hlm hf (fun V hV => (hp iv bv ov V hV (hA.its.up hV) (hA.2.1.up hV) (hA.2.2.up hV)).1) (fun V hV => (hp iv bv ov V hV (hA.its.up hV) (hA.2.1.up hV) (hA.2.2.up hV)).2) hP hok
theorem numA_any (n : Int) (w : World) :
    Calls Tryz.prog 18 #[.int .i64 n] w fun e w' => e = .returned (.agg #[.int .i64 1, .int .i64 n, .string ⟨#[]⟩]) ∧ Below w.heap.size w w' := by
  go_enter Tryz.func18, Tryz.ntmps18
  go_wp2
  exact bodyPost_ret (v := .agg #[.int .i64 1, .int .i64 n, .string ⟨#[]⟩]) (by simp [results, Tryz.results18, go_sem]) rfl ⟨rfl, (Below.refl _ _).alloc (Nat.le_refl _) _⟩
theorem blk_lt' {W : World} {i : Nat} {o : Obj} (h : W.heap[i]? = some o) : i < W.heap.size := (Array.getElem?_eq_some_iff.mp h).1
theorem bel_alloc {w W : World} (h : Below w.heap.size w W) (o : Obj) : Below w.heap.size w (W.alloc o) := h.alloc h.size o
theorem blk_up {W V : World} {a : Nat} {o : Obj} (hb : Below W.heap.size W V) (h : W.heap[a]? = some o) : V.heap[a]? = some o := (hb.block a (blk_lt' h)).trans h
theorem blk_al {W : World} {a : Nat} {o : Obj} (h : W.heap[a]? = some o) (x : Obj) : (W.alloc x).heap[a]? = some o := blk_up ((Below.refl _ _).alloc (Nat.le_refl _) _) h
theorem blk_new {W : World} {o : Obj} : (W.alloc o).heap[W.heap.size]? = some o := heap_alloc_new _ _
theorem blk_new1 {W : World} {o x : Obj} : ((W.alloc x).alloc o).heap[W.heap.size + 1]? = some o := by have := heap_alloc_new (W.alloc x) o; rwa [World.size_alloc] at this
theorem blk_new2 {W : World} {o x y : Obj} : (((W.alloc x).alloc y).alloc o).heap[W.heap.size + 1 + 1]? = some o := by have := heap_alloc_new ((W.alloc x).alloc y) o; rwa [World.size_alloc, World.size_alloc] at this
theorem blk_new3 {W : World} {o x y z : Obj} : ((((W.alloc x).alloc y).alloc z).alloc o).heap[W.heap.size + 1 + 1 + 1]? = some o := by have := heap_alloc_new (((W.alloc x).alloc y).alloc z) o; rwa [World.size_alloc, World.size_alloc, World.size_alloc] at this
theorem sle_oneA {α : Type} {k : Nat} {en : α → List Value} {W : World} {b : Nat} {cs : Array Value} {T : TypeId} {x : α} (h : W.heap[b]? = some (.cells cs T)) (hen : en x = cs.toList) : F.SlE k en W (.slice (some ⟨b, 0, none⟩) 1 1) [x] := by
  refine ⟨some ⟨b, 0, none⟩, 1, rfl, Nat.le_refl _, fun _ => ⟨b, 0, rfl, blk_lt h, fun j y hj i u hu => ?_⟩⟩
  cases j with
  | succ j => simp at hj
  | zero =>
    have hy : x = y := by simpa using hj
    subst hy
    rw [hen] at hu
    have := cell_of_block h i
    rw [show 0 + 0 * k + i = i by omega]
    rw [this]
    simpa using hu
theorem slN {W : World} {b : Nat} {n : Int} {T : TypeId} (h : W.heap[b]? = some (.cells #[.int .i64 1, .int .i64 n, .string ⟨#[]⟩] T)) : E.Sl W (.slice (some ⟨b, 0, none⟩) 1 1) [F.numV n] := by
  refine ⟨some ⟨b, 0, none⟩, 1, rfl, Nat.le_refl _, fun _ => ⟨b, 0, rfl, blk_lt h, fun j y hj => ?_⟩⟩
  cases j with
  | succ j => simp at hj
  | zero =>
    have hy : F.numV n = y := by simpa using hj
    subst hy
    exact ⟨cell_of_block h 0, cell_of_block h 1, cell_of_block h 2⟩
theorem sl3A {W : World} {b : Nat} {x y z : Int} {T : TypeId} (h : W.heap[b]? = some (.cells #[.int .i64 1, .int .i64 x, .string ⟨#[]⟩, .int .i64 1, .int .i64 y, .string ⟨#[]⟩, .int .i64 1, .int .i64 z, .string ⟨#[]⟩] T)) : E.Sl W (.slice (some ⟨b, 0, none⟩) 3 3) [F.numV x, F.numV y, F.numV z] := by
  refine ⟨some ⟨b, 0, none⟩, 3, rfl, Nat.le_refl _, fun _ => ⟨b, 0, rfl, blk_lt h, fun j u hj => ?_⟩⟩
  rcases j with _ | _ | _ | j
  · have hy : F.numV x = u := by simpa using hj
    subst hy
    exact ⟨cell_of_block h 0, cell_of_block h 1, cell_of_block h 2⟩
  · have hy : F.numV y = u := by simpa using hj
    subst hy
    exact ⟨cell_of_block h 3, cell_of_block h 4, cell_of_block h 5⟩
  · have hy : F.numV z = u := by simpa using hj
    subst hy
    exact ⟨cell_of_block h 6, cell_of_block h 7, cell_of_block h 8⟩
  · simp at hj
theorem slRA {W : World} {g a b c : Nat} {x y z : Int} {S T : TypeId} (hg : W.heap[g]? = some (.cells #[.slice (some ⟨a, 0, none⟩) 1 1, .slice (some ⟨b, 0, none⟩) 1 1, .slice (some ⟨c, 0, none⟩) 1 1] S))
    (ha : W.heap[a]? = some (.cells #[.int .i64 1, .int .i64 x, .string ⟨#[]⟩] T)) (hb : W.heap[b]? = some (.cells #[.int .i64 1, .int .i64 y, .string ⟨#[]⟩] T)) (hc : W.heap[c]? = some (.cells #[.int .i64 1, .int .i64 z, .string ⟨#[]⟩] T)) :
    F.SlR W (.slice (some ⟨g, 0, none⟩) 3 3) [[F.numV x], [F.numV y], [F.numV z]] := by
  refine ⟨[.slice (some ⟨a, 0, none⟩) 1 1, .slice (some ⟨b, 0, none⟩) 1 1, .slice (some ⟨c, 0, none⟩) 1 1], ⟨some ⟨g, 0, none⟩, 3, rfl, Nat.le_refl _, fun _ => ⟨g, 0, rfl, blk_lt hg, fun j v hj i u hu => ?_⟩⟩, rfl, fun j v r hv hr => ?_⟩
  · rcases j with _ | _ | _ | j
    all_goals first
      | (simp at hj; done)
      | (simp at hj
         subst hj
         cases i with
         | succ i => simp [F.encR] at hu
         | zero =>
           simp [F.encR] at hu
           subst hu
           rw [cell_of_block hg]
           rfl)
  · rcases j with _ | _ | _ | j
    all_goals first
      | (simp at hv; done)
      | (simp at hv hr
         subst hv hr
         first | exact slN ha | exact slN hb | exact slN hc)
theorem cutA_is : F.cutA (F.stC [(0, false)]) [] (ss (F.ltB [(0, false)]) rowsA) = [[[F.numV 1]], [[F.numV 2], [F.numV 2]]] := by kernel_rfl
def colA : F.Col := (1, ⟨#[97]⟩, 1, false, 0, 0, ⟨#[]⟩)
theorem okA : QOk qA where
  its y hy := by
    have hn : nmL [97] = true := by kernel_rfl
    have h1 : ItOk (.no, some [97]) := ⟨fun n e => by injection e with e; subst e; exact ⟨hn, by simp⟩, fun e => by cases e⟩
    have h2 : ItOk (.count, none) := ⟨(fun n e => by cases e), fun _ => rfl⟩
    have h3 : ItOk (.sum, some [97]) := ⟨fun n e => by injection e with e; subst e; exact ⟨hn, by simp⟩, fun e => by cases e⟩
    simp [qA] at hy
    rcases hy with rfl | rfl | rfl <;> assumption
  few := by simp [qA]
  byn n e := by simp [qA] at e; subst e; exact ⟨by kernel_rfl, by simp⟩
  ord x e := by simp [qA] at e; subst e; exact ⟨by decide, by simp [qA]⟩
  lim n e := by simp [qA] at e; subst e; exact ⟨by decide, by decide⟩
theorem findA : C.findC [colA] ⟨#[97]⟩ = 0 := by kernel_rfl
theorem fineA : F.FineQ [colA] (itsF qA) (namesF qA) true where
  nms nm h := by
    have : nm = ⟨#[97]⟩ := by simpa [namesF, qA, bA] using h
    subst this
    exact ⟨0, findA⟩
  its x hx := by
    have h1 : F.FineI [colA] (.no, ⟨#[97]⟩) := .inr ⟨by decide, 0, colA, findA, rfl, fun e => by cases e⟩
    have h2 : F.FineI [colA] (.count, ⟨#[42]⟩) := .inl ⟨rfl, rfl⟩
    have h3 : F.FineI [colA] (.sum, ⟨#[97]⟩) := .inr ⟨by decide, 0, colA, findA, rfl, fun _ => by decide⟩
    have : x = (.no, ⟨#[97]⟩) ∨ x = (.count, ⟨#[42]⟩) ∨ x = (.sum, ⟨#[97]⟩) := by simpa [itsF, qA, inB, bA] using hx
    rcases this with rfl | rfl | rfl
    · exact ⟨h1, .inr (.inr (by simp [namesF, qA, bA]))⟩
    · exact ⟨h2, .inl (by decide)⟩
    · exact ⟨h3, .inl (by decide)⟩
theorem psA : psF [colA] qA = [(.no, 0), (.count, -1), (.sum, 0)] := by
  have : C.findC [colA] ⟨#[42]⟩ = -1 := by kernel_rfl
  show [(F.Fn.no, C.findC [colA] ⟨#[97]⟩), (F.Fn.count, C.findC [colA] ⟨#[42]⟩), (F.Fn.sum, C.findC [colA] ⟨#[97]⟩)] = _
  rw [this, findA]
theorem cutA_few : (F.cutA (F.stC [(0, false)]) [] (ss (F.ltB [(0, false)]) rowsA)).length ≤ 1000 := by rw [cutA_is]; decide
theorem cutA_ok : ∀ g ∈ F.cutA (F.stC [(0, false)]) [] (ss (F.ltB [(0, false)]) rowsA), F.PsOk (psF [colA] qA) g ∧ g.length ≤ 900 := by
  rw [cutA_is, psA]
  intro g hg
  have : g ≠ [] ∧ g.length ≤ 900 := by
    rcases List.mem_cons.1 hg with rfl | hg
    · exact ⟨by simp, by decide⟩
    · rcases List.mem_cons.1 hg with rfl | hg
      · exact ⟨by simp, by decide⟩
      · cases hg
  refine ⟨fun x hx => ?_, this.2⟩
  rcases List.mem_cons.1 hx with rfl | hx
  · exact ⟨fun _ => ⟨this.1, by decide⟩, by decide⟩
  · rcases List.mem_cons.1 hx with rfl | hx
    · exact ⟨(fun e => by cases e), by decide⟩
    · rcases List.mem_cons.1 hx with rfl | hx
      · exact ⟨(fun e => by cases e), by decide⟩
      · cases hx
theorem slRB {W : World} {g a b c : Nat} (hg : W.heap[g]? = some (.cells #[.slice (some ⟨a, 0, none⟩) 1 1, .slice (some ⟨b, 0, none⟩) 1 1, .slice (some ⟨c, 0, none⟩) 1 1] 35))
    (ha : W.heap[a]? = some (.cells #[.int .i64 1, .int .i64 1, .string ⟨#[]⟩] 29)) (hb : W.heap[b]? = some (.cells #[.int .i64 1, .int .i64 2, .string ⟨#[]⟩] 29)) (hc : W.heap[c]? = some (.cells #[.int .i64 1, .int .i64 2, .string ⟨#[]⟩] 29)) :
    F.SlR W (.slice (some ⟨g, 0, none⟩) 3 3) rowsA := slRA hg ha hb hc
set_option maxHeartbeats 8000000 in
set_option maxRecDepth 100000 in
theorem answered_any (w : World) (hm : MkB w) (hg : GB w) (hw : 10 ≤ w.heap.size) :
    Calls Tryz.prog 7 #[] w fun e w' => e = .returned (.bool true) ∧ Below w.heap.size w w' := by
  have HPA := mkH (fun o => qparse_any sA qA (w.alloc o) (by decide) (by rw [sA_q, bA_toList]; exact qX_toks qA okA (by decide)) okA (hm.below ((Below.refl _ _).alloc (Nat.le_refl _) _)) (hg.below ((Below.refl _ _).alloc (Nat.le_refl _) _)) (Nat.le_trans hw ((Below.refl w.heap.size w).alloc (Nat.le_refl _) o).size))
  unfold sA at HPA
  rw [show limN qA.lim = 1 from rfl] at HPA
  clear hm hg
  go_enter Tryz.func7, Tryz.ntmps7
  go_wp2_with fail
  with_reducible refine (HPA.out _).mono ?_
  rintro e w1 ⟨iv, bv, ov, rfl, hA, hb1⟩
  have HA := mkH hA
  have HB1 : Hid (Below w.heap.size w w1) := mkH (F.ups ((Below.refl _ _).alloc (Nat.le_refl _) _) hb1)
  have hcol := (hb1.block w.heap.size (by simp)).trans (heap_alloc_new w _)
  have hsl : (∃ a n c, iv = .slice a n c) ∧ (∃ a n c, bv = .slice a n c) ∧ ∃ a n c, ov = .slice a n c := by
    refine ⟨?_, ?_, ?_⟩
    · obtain ⟨a, c, e, _⟩ := hA.1; exact ⟨a, _, c, e⟩
    · obtain ⟨a, c, e, _⟩ := hA.2.1; exact ⟨a, _, c, e⟩
    · obtain ⟨a, c, e, _⟩ := hA.2.2; exact ⟨a, _, c, e⟩
  have HN := mkH numA_any
  clear HPA hA hb1
  obtain ⟨⟨ia, im, ic, rfl⟩, ⟨ba, bn, bc, rfl⟩, ⟨oa, on, oc, rfl⟩⟩ := hsl
  go_wp2_with fail
  obtain ⟨wb, hwb⟩ : ∃ wb, w1.alloc (.cells #[.slice ia im ic, .pointer none, .slice ba bn bc, .slice oa on oc, .int .i64 1] 49) = wb := ⟨_, rfl⟩
  have hq1 : wb.heap[w1.heap.size]? = some (.cells #[.slice ia im ic, .pointer none, .slice ba bn bc, .slice oa on oc, .int .i64 1] 49) := by rw [← hwb]; exact heap_alloc_new _ _
  have HBW : Hid (Below w1.heap.size w1 wb) := mkH (by rw [← hwb]; exact (Below.refl _ _).alloc (Nat.le_refl _) _)
  rw [hwb]
  clear hwb
  have s1 : w1.heap.size < wb.heap.size := (Array.getElem?_eq_some_iff.mp hq1).1
  have c0 : wb.cell? ⟨w1.heap.size, 0, none⟩ = some (.slice ia im ic) := cell_of_block hq1 0
  have c1 : wb.cell? ⟨w1.heap.size, 1, none⟩ = some (.pointer none) := cell_of_block hq1 1
  have c2 : wb.cell? ⟨w1.heap.size, 2, none⟩ = some (.slice ba bn bc) := cell_of_block hq1 2
  have c3 : wb.cell? ⟨w1.heap.size, 3, none⟩ = some (.slice oa on oc) := cell_of_block hq1 3
  have c4 : wb.cell? ⟨w1.heap.size, 4, none⟩ = some (.int .i64 1) := cell_of_block hq1 4
  clear hq1
  have HRU : Hid (∀ rv W, Below wb.heap.size wb W → F.SlR W rv rowsA → Calls Tryz.prog 17 #[.slice (some ⟨w.heap.size, 0, none⟩) 1 1, rv, .agg #[.slice ia im ic, .pointer none, .slice ba bn bc, .slice oa on oc, .int .i64 1]] W (F.RunPost [[F.numV 2, F.numV 2, F.numV 4]] W)) := mkH (by
    intro rv W hW hr
    have hWW := F.ups HBW.out hW
    have hcs : F.SlE 7 C.encC W (.slice (some ⟨w.heap.size, 0, none⟩) 1 1) [colA] := (sle_oneA (k := 7) (en := C.encC) (x := colA) hcol rfl).up hWW
    have hAA : QAt W qA (.slice ia im ic) (.slice ba bn bc) (.slice oa on oc) := ⟨HA.out.1.up hWW, HA.out.2.1.up hWW, HA.out.2.2.up hWW⟩
    have hsl2 : ∃ a n c, rv = .slice a n c := by obtain ⟨a, c, e, _⟩ := hr.slice; exact ⟨a, _, c, e⟩
    have := run_q _ rv _ _ _ [colA] qA true (F.cutA (F.stC [(0, false)]) [] (ss (F.ltB [(0, false)]) rowsA)) W hAA okA hcs (by decide) (by decide) hsl2 fineA (parts_do_by W _ rv qA [colA] rowsA [97] 0 rfl findA (by decide) hcs (by decide) (by decide) hr (by decide)) cutA_few cutA_ok
    rw [psA] at this
    rw [show limN qA.lim = 1 from rfl, show qA.ord.toList = [(0, true)] from rfl, toldA] at this
    exact this)
  clear HA hcol
  rename_i K hK
  have HKK : Hid (∀ (x16 x18 x20 x21 : Value) (w9 : World) (xa : Option Addr) (xc : Nat), F.SlR w9 (.slice xa 1 xc) [[F.numV 2, F.numV 2, F.numV 4]] → Below w.heap.size w w9 → K
    { tmps :=
        #[.bool false, .slice (some ⟨w.heap.size, 0, none⟩) 1 1, .pointer (some ⟨w1.heap.size, 0, none⟩), .nilIface, .slice xa 1 xc,
          .agg #[.int .i64 1, .string ⟨#[97]⟩, .int .i64 1, .bool false, .int .i64 0, .int .i64 0, .string ⟨#[]⟩],
          .slice (some ⟨w.heap.size, 0, none⟩) 1 1,
          .tuple #[.agg #[.slice ia im ic, .pointer none, .slice ba bn bc, .slice oa on oc, .int .i64 1], .nilIface],
          .tuple #[.agg #[.slice ia im ic, .pointer none, .slice ba bn bc, .slice oa on oc, .int .i64 1], .nilIface],
          .agg #[.slice ia im ic, .pointer none, .slice ba bn bc, .slice oa on oc, .int .i64 1],
          .nilIface, .nilIface, .bool false, .tuple #[.slice xa 1 xc, .nilIface],
          .slice (some ⟨w.heap.size, 0, none⟩) 1 1,
          .agg #[.int .i64 1, .int .i64 1, .string ⟨#[]⟩], x16,
          .agg #[.int .i64 1, .int .i64 2, .string ⟨#[]⟩], x18,
          .agg #[.int .i64 1, .int .i64 2, .string ⟨#[]⟩], x20, x21,
          .agg #[.slice ia im ic, .pointer none, .slice ba bn bc, .slice oa on oc, .int .i64 1],
          .tuple #[.slice xa 1 xc, .nilIface], .slice xa 1 xc, .nilIface, undef, undef, undef,
          undef, undef, undef, undef, undef, undef, undef, undef, undef, undef, undef, undef, undef, undef],
      defers := [] } w9) := mkH (by
    intro x16 x18 x20 x21 w9 xa xc hr9 hb9
    refine hK _ _ ?_
    clear hK HRU
    obtain ⟨rb, ro, rv, rfl, hrb, hcell, hsl⟩ : ∃ b o rv, xa = some ⟨b, o, none⟩ ∧ b < w9.heap.size ∧ w9.cell? ⟨b, o, none⟩ = some rv ∧ E.Sl w9 rv [F.numV 2, F.numV 2, F.numV 4] := by
      obtain ⟨vs, ⟨a, c, e, hcp, hl⟩, hlen, he⟩ := hr9
      match vs, hlen with
      | [rv], _ =>
        injection e with e1 _ _
        obtain ⟨b, o, e2, hb, hc⟩ := hl (by simp)
        refine ⟨b, o, rv, e1.trans e2, hb, ?_, he 0 rv _ rfl rfl⟩
        have := hc 0 rv rfl 0 rv rfl
        simpa using this
    obtain ⟨ra, rc, rfl, _⟩ : ∃ a c, rv = .slice a 3 c ∧ 3 ≤ c := by obtain ⟨a, c, e, hc, _⟩ := hsl; exact ⟨a, c, e, hc⟩
    have HSL := mkH hsl
    have HB9 := mkH hb9
    have hxc : 0 < xc := by
      obtain ⟨a, c, e, hc⟩ := hr9.slice
      injection e with _ _ e3
      rw [e3]; exact hc
    clear hsl hb9 hr9
    have HEQ := mkH (fun v2 W (hb : Below w9.heap.size w9 W) (h2 : E.Sl W v2 [F.numV 2, F.numV 2, F.numV 4]) => E.equal_any (.slice ra 3 rc) v2 [F.numV 2, F.numV 2, F.numV 4] [F.numV 2, F.numV 2, F.numV 4] W (HSL.out.up hb) h2 (by simp) (by simp))
    simp only [decide_true] at HEQ
    clear HSL
    go_wp2_with fail
    go_region_held3 (fun W => W.cell? ⟨rb, ro, none⟩ = some (.slice ra 3 rc))
      (first
        | (go_keep; done)
        | fail)
      (first
        | (go_at_call 18
           with_reducible refine (HN.out 4 _).mono ?_
           rintro e y7 ⟨rfl, hc7'⟩
           have hc7 : Below w9.heap.size w9 y7 := F.ups hc5 hc7'
           have j7 : y7.cell? ⟨rb, ro, none⟩ = some (.slice ra 3 rc) := (hc7.cell (p := ⟨rb, ro, none⟩) hrb).trans hcell)
        | (go_at_call 18
           have hz := hc3
           clear hz
           with_reducible refine (HN.out 2 _).mono ?_
           rintro e y5 ⟨rfl, hc5'⟩
           have hc5 : Below w9.heap.size w9 y5 := F.ups hc3 hc5'
           have j5 : y5.cell? ⟨rb, ro, none⟩ = some (.slice ra 3 rc) := (hc5.cell (p := ⟨rb, ro, none⟩) hrb).trans hcell)
        | (go_at_call 18
           with_reducible refine (HN.out 2 _).mono ?_
           rintro e y3 ⟨rfl, hc3'⟩
           have hc3 : Below w9.heap.size w9 y3 := F.ups (by first | exact (Below.refl _ _).drew | exact Below.refl _ _) hc3'
           have j3 : y3.cell? ⟨rb, ro, none⟩ = some (.slice ra 3 rc) := (hc3.cell (p := ⟨rb, ro, none⟩) hrb).trans hcell)
        | (go_at_call 19
           with_reducible refine (HEQ.out _ _ (bel_alloc hc7 _) (sl3A blk_new)).mono ?_
           rintro e y9 ⟨rfl, hc9'⟩
           have hc9 : Below w9.heap.size w9 y9 := F.ups (bel_alloc hc7 _) hc9'
           have j9 : y9.cell? ⟨rb, ro, none⟩ = some (.slice ra 3 rc) := (hc9.cell (p := ⟨rb, ro, none⟩) hrb).trans hcell)
        | fail)
    all_goals
      have hbf := F.ups HB9.out hc9
      go_wp2
      go_ret
      exact ⟨rfl, hbf⟩)
  clear hK
  go_region_held3 (fun W => W.cell? ⟨w1.heap.size, 0, none⟩ = some (.slice ia im ic) ∧ W.cell? ⟨w1.heap.size, 1, none⟩ = some (.pointer none) ∧ W.cell? ⟨w1.heap.size, 2, none⟩ = some (.slice ba bn bc) ∧ W.cell? ⟨w1.heap.size, 3, none⟩ = some (.slice oa on oc) ∧ W.cell? ⟨w1.heap.size, 4, none⟩ = some (.int .i64 1))
    (first
      | (go_keep; done)
      | fail)
    (first
      | (go_at_call 18
         have hz := hb5
         clear hz
         with_reducible refine (HN.out 2 _).mono ?_
         rintro e w7 ⟨rfl, hb7'⟩
         have hb7 : Below wb.heap.size wb w7 := F.ups (by repeat (first | with_reducible exact hb5 | with_reducible exact hb3 | with_reducible exact Below.refl _ _ | with_reducible exact (Below.refl _ _).drew | with_reducible refine bel_alloc ?_ _)) hb7'
         have m0 : w7.cell? ⟨w1.heap.size, 0, none⟩ = some (.slice ia im ic) := (hb7.cell (p := ⟨w1.heap.size, 0, none⟩) s1).trans c0
         have m1 : w7.cell? ⟨w1.heap.size, 1, none⟩ = some (.pointer none) := (hb7.cell (p := ⟨w1.heap.size, 1, none⟩) s1).trans c1
         have m2 : w7.cell? ⟨w1.heap.size, 2, none⟩ = some (.slice ba bn bc) := (hb7.cell (p := ⟨w1.heap.size, 2, none⟩) s1).trans c2
         have m3 : w7.cell? ⟨w1.heap.size, 3, none⟩ = some (.slice oa on oc) := (hb7.cell (p := ⟨w1.heap.size, 3, none⟩) s1).trans c3
         have m4 : w7.cell? ⟨w1.heap.size, 4, none⟩ = some (.int .i64 1) := (hb7.cell (p := ⟨w1.heap.size, 4, none⟩) s1).trans c4)
      | (go_at_call 18
         have hz := hb3
         clear hz
         with_reducible refine (HN.out 2 _).mono ?_
         rintro e w5 ⟨rfl, hb5'⟩
         have hb5 : Below wb.heap.size wb w5 := F.ups (by repeat (first | with_reducible exact hb3 | with_reducible exact Below.refl _ _ | with_reducible exact (Below.refl _ _).drew | with_reducible refine bel_alloc ?_ _)) hb5'
         have k0 : w5.cell? ⟨w1.heap.size, 0, none⟩ = some (.slice ia im ic) := (hb5.cell (p := ⟨w1.heap.size, 0, none⟩) s1).trans c0
         have k1 : w5.cell? ⟨w1.heap.size, 1, none⟩ = some (.pointer none) := (hb5.cell (p := ⟨w1.heap.size, 1, none⟩) s1).trans c1
         have k2 : w5.cell? ⟨w1.heap.size, 2, none⟩ = some (.slice ba bn bc) := (hb5.cell (p := ⟨w1.heap.size, 2, none⟩) s1).trans c2
         have k3 : w5.cell? ⟨w1.heap.size, 3, none⟩ = some (.slice oa on oc) := (hb5.cell (p := ⟨w1.heap.size, 3, none⟩) s1).trans c3
         have k4 : w5.cell? ⟨w1.heap.size, 4, none⟩ = some (.int .i64 1) := (hb5.cell (p := ⟨w1.heap.size, 4, none⟩) s1).trans c4)
      | (go_at_call 18
         with_reducible refine (HN.out 1 _).mono ?_
         rintro e w3 ⟨rfl, hb3'⟩
         have hb3 : Below wb.heap.size wb w3 := F.ups (by first | exact (Below.refl _ _).drew | exact Below.refl _ _) hb3'
         have g0 : w3.cell? ⟨w1.heap.size, 0, none⟩ = some (.slice ia im ic) := (hb3.cell (p := ⟨w1.heap.size, 0, none⟩) s1).trans c0
         have g1 : w3.cell? ⟨w1.heap.size, 1, none⟩ = some (.pointer none) := (hb3.cell (p := ⟨w1.heap.size, 1, none⟩) s1).trans c1
         have g2 : w3.cell? ⟨w1.heap.size, 2, none⟩ = some (.slice ba bn bc) := (hb3.cell (p := ⟨w1.heap.size, 2, none⟩) s1).trans c2
         have g3 : w3.cell? ⟨w1.heap.size, 3, none⟩ = some (.slice oa on oc) := (hb3.cell (p := ⟨w1.heap.size, 3, none⟩) s1).trans c3
         have g4 : w3.cell? ⟨w1.heap.size, 4, none⟩ = some (.int .i64 1) := (hb3.cell (p := ⟨w1.heap.size, 4, none⟩) s1).trans c4)
      | (go_at_call 17
         with_reducible refine (HRU.out _ _ (by repeat (first | with_reducible exact hb7 | with_reducible exact hb5 | with_reducible exact hb3 | with_reducible exact Below.refl _ _ | with_reducible exact (Below.refl _ _).drew | with_reducible refine bel_alloc ?_ _)) (slRB (by repeat (first | with_reducible exact blk_new | with_reducible exact blk_new1 | with_reducible exact blk_new2 | with_reducible exact blk_new3 | with_reducible refine blk_al ?_ _ | with_reducible refine blk_up hb7' ?_ | with_reducible refine blk_up hb5' ?_)) (by repeat (first | with_reducible exact blk_new | with_reducible exact blk_new1 | with_reducible exact blk_new2 | with_reducible exact blk_new3 | with_reducible refine blk_al ?_ _ | with_reducible refine blk_up hb7' ?_ | with_reducible refine blk_up hb5' ?_)) (by repeat (first | with_reducible exact blk_new | with_reducible exact blk_new1 | with_reducible exact blk_new2 | with_reducible exact blk_new3 | with_reducible refine blk_al ?_ _ | with_reducible refine blk_up hb7' ?_ | with_reducible refine blk_up hb5' ?_)) (by repeat (first | with_reducible exact blk_new | with_reducible exact blk_new1 | with_reducible exact blk_new2 | with_reducible exact blk_new3 | with_reducible refine blk_al ?_ _ | with_reducible refine blk_up hb7' ?_ | with_reducible refine blk_up hb5' ?_)))).mono ?_
         rintro e w9 ⟨xa, xc, rfl, hr9, hb9'⟩
         have hb9 : Below wb.heap.size wb w9 := F.ups (by repeat (first | with_reducible exact hb7 | with_reducible exact hb5 | with_reducible exact hb3 | with_reducible exact Below.refl _ _ | with_reducible exact (Below.refl _ _).drew | with_reducible refine bel_alloc ?_ _)) hb9'
         have n0 : w9.cell? ⟨w1.heap.size, 0, none⟩ = some (.slice ia im ic) := (hb9.cell (p := ⟨w1.heap.size, 0, none⟩) s1).trans c0
         have n1 : w9.cell? ⟨w1.heap.size, 1, none⟩ = some (.pointer none) := (hb9.cell (p := ⟨w1.heap.size, 1, none⟩) s1).trans c1
         have n2 : w9.cell? ⟨w1.heap.size, 2, none⟩ = some (.slice ba bn bc) := (hb9.cell (p := ⟨w1.heap.size, 2, none⟩) s1).trans c2
         have n3 : w9.cell? ⟨w1.heap.size, 3, none⟩ = some (.slice oa on oc) := (hb9.cell (p := ⟨w1.heap.size, 3, none⟩) s1).trans c3
         have n4 : w9.cell? ⟨w1.heap.size, 4, none⟩ = some (.int .i64 1) := (hb9.cell (p := ⟨w1.heap.size, 4, none⟩) s1).trans c4)
      | fail)
  all_goals exact HKK.out _ _ _ _ _ _ _ hr9 (F.ups HB1.out (F.ups HBW.out hb9))
end Go.Proofs.YtlnkbhbpkmnkaaaGreatDoor
