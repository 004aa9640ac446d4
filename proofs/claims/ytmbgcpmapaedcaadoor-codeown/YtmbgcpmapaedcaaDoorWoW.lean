/- The chapter's example: works. -/
import Derived.Test.YtmbgcpmapaedcaaDoorMg12
import Derived.Test.YtmbgcpmapaedcaaDoorMg13
namespace Go.Proofs.YtmbgcpmapaedcaaDoor
open Go.RowKit
def exC1 : List Ins := [⟨1, 2, 0, 5⟩, ⟨3, 0, 0, 0⟩, ⟨12, 0, 0, 0⟩]
def exC2 : List Ins := [⟨1, 2, 0, 5⟩, ⟨2, 1, 0, 0⟩, ⟨12, 0, 0, 0⟩]
def exI (c : List Ins) : Img := ⟨[80], [2], [0], [], [], c⟩
theorem ex_one : chkP (exI exC1) = (0, 0) := by decide +kernel
theorem ex_two : chkP (exI exC2) = (1, 130) := by decide +kernel
theorem ex_show : shI ⟨1, 2, 0, -5⟩ = [80, 85, 83, 72, 32, 50, 32, 48, 32, 45, 53] := by decide +kernel
theorem ex_im (W : World) (g0 g1 g2 : Nat) (c : List Ins) (hc : c.length = 3) (h0 : W.heap[g0]? = some (.cells #[.int .i64 2] 3 (0, 0))) (h1 : W.heap[g1]? = some (.cells #[.int .i64 0] 2 (0, 0)))
    (h2 : W.heap[g2]? = some (.cells (c.flatMap fun i => [.int .i64 i.op, .int .i64 i.a, .int .i64 i.b, .int .i64 i.n]).toArray 23 (0, 0))) :
    Im W (.string ⟨#[80]⟩) (.slice (some ⟨g0, 0, none⟩) 1 1) (.slice (some ⟨g1, 0, none⟩) 1 1) (.slice none 0 0) (.slice none 0 0) (.slice (some ⟨g2, 0, none⟩) 3 3) (exI c) := by
  obtain ⟨i, j, k, rfl⟩ : ∃ i j k, c = [i, j, k] := by match c, hc with | [i, j, k], _ => exact ⟨i, j, k, rfl⟩
  refine ⟨rfl, ⟨_, g0, 0, 1, rfl, fun _ => ⟨(Array.getElem?_eq_some_iff.1 h0).1, rfl⟩, fun i x hx => ?_⟩, ⟨_, g1, 0, 1, rfl, fun _ => ⟨(Array.getElem?_eq_some_iff.1 h1).1, rfl⟩, fun i x hx => ?_⟩, ILst.nil W 0, ILst.nil W 0, ⟨_, g2, 0, 3, rfl, fun _ => ⟨(Array.getElem?_eq_some_iff.1 h2).1, rfl⟩, fun t q hq => ?_⟩⟩
  · match i, hx with
    | 0, hx => obtain rfl := Option.some.inj hx; rw [Lib.cell_of_heap h0]; rfl
  · match i, hx with
    | 0, hx => obtain rfl := Option.some.inj hx; rw [Lib.cell_of_heap h1]; rfl
  · match t, hq with
    | 0, hq => obtain rfl := Option.some.inj hq; exact ⟨by rw [Lib.cell_of_heap h2]; rfl, by rw [Lib.cell_of_heap h2]; rfl, by rw [Lib.cell_of_heap h2]; rfl, by rw [Lib.cell_of_heap h2]; rfl⟩
    | 1, hq => obtain rfl := Option.some.inj hq; exact ⟨by rw [Lib.cell_of_heap h2]; rfl, by rw [Lib.cell_of_heap h2]; rfl, by rw [Lib.cell_of_heap h2]; rfl, by rw [Lib.cell_of_heap h2]; rfl⟩
    | 2, hq => obtain rfl := Option.some.inj hq; exact ⟨by rw [Lib.cell_of_heap h2]; rfl, by rw [Lib.cell_of_heap h2]; rfl, by rw [Lib.cell_of_heap h2]; rfl, by rw [Lib.cell_of_heap h2]; rfl⟩
theorem ex_l (c : List Ins) (hc : c.length = 3) : ImL (exI c) := ⟨by show 1 ≤ _; omega, by show 1 ≤ _; omega, by show 0 ≤ _; omega, by show 0 ≤ _; omega, by show c.length ≤ _; omega⟩
set_option maxRecDepth 100000 in
set_option maxHeartbeats 1600000 in
theorem works_any (w : World) (hg : GlC w) (hp : Pow w) : Calls Tryd.prog 8 #[] w fun e w' => e = .returned (.bool true) ∧ Below w.heap.size w w' := by
  have m1 : Hid (∀ W g0 g1 g2, Below w.heap.size w W → W.heap[g0]? = some (.cells #[.int .i64 2] 3 (0, 0)) → W.heap[g1]? = some (.cells #[.int .i64 0] 2 (0, 0)) → W.heap[g2]? = some (.cells #[.int .i64 1, .int .i64 2, .int .i64 0, .int .i64 5, .int .i64 3, .int .i64 0, .int .i64 0, .int .i64 0, .int .i64 12, .int .i64 0, .int .i64 0, .int .i64 0] 23 (0, 0)) → Calls Tryd.prog 9 #[.agg #[.string ⟨#[80]⟩, .slice (some ⟨g0, 0, none⟩) 1 1, .slice (some ⟨g1, 0, none⟩) 1 1, .slice none 0 0, .slice none 0 0, .slice (some ⟨g2, 0, none⟩) 3 3]] W fun e w' => e = .returned (.tuple #[.int .i64 0, .int .i64 0]) ∧ Below W.heap.size W w') := fun W g0 g1 g2 hb h0 h1 h2 => by
    have h := check_any _ _ _ _ _ _ (exI exC1) W (hg.on hb hg.lt) (ex_im W g0 g1 g2 exC1 rfl h0 h1 h2) (fun a n c e => by cases e; decide) (ex_l _ rfl)
    rw [ex_one] at h
    exact h
  have m2 : Hid (∀ W g0 g1 g2, Below w.heap.size w W → W.heap[g0]? = some (.cells #[.int .i64 2] 3 (0, 0)) → W.heap[g1]? = some (.cells #[.int .i64 0] 2 (0, 0)) → W.heap[g2]? = some (.cells #[.int .i64 1, .int .i64 2, .int .i64 0, .int .i64 5, .int .i64 2, .int .i64 1, .int .i64 0, .int .i64 0, .int .i64 12, .int .i64 0, .int .i64 0, .int .i64 0] 23 (0, 0)) → Calls Tryd.prog 9 #[.agg #[.string ⟨#[80]⟩, .slice (some ⟨g0, 0, none⟩) 1 1, .slice (some ⟨g1, 0, none⟩) 1 1, .slice none 0 0, .slice none 0 0, .slice (some ⟨g2, 0, none⟩) 3 3]] W fun e w' => e = .returned (.tuple #[.int .i64 1, .int .i64 130]) ∧ Below W.heap.size W w') := fun W g0 g1 g2 hb h0 h1 h2 => by
    have h := check_any _ _ _ _ _ _ (exI exC2) W (hg.on hb hg.lt) (ex_im W g0 g1 g2 exC2 rfl h0 h1 h2) (fun a n c e => by cases e; decide) (ex_l _ rfl)
    rw [ex_two] at h
    exact h
  have m3 : Hid (∀ W, Below w.heap.size w W → Calls Tryd.prog 6 #[.agg #[.int .i64 1, .int .i64 2, .int .i64 0, .int .i64 (-5)]] W fun e w' => e = .returned (.string ⟨#[80, 85, 83, 72, 32, 50, 32, 48, 32, 45, 53]⟩) ∧ Below W.heap.size W w') := fun W hb => by
    have h := show_any ⟨1, 2, 0, -5⟩ ⟨by decide, by decide, by decide, by decide, by decide, by decide⟩ W (hp.on hb)
    rw [ex_show] at h
    exact h
  clear hg hp
  go_enter Tryd.func8, Tryd.ntmps8
  go_wp2_with fail
  have a0 : ∀ A B C D : Obj, ((((w.alloc A).alloc B).alloc C).alloc D).heap[w.heap.size]? = some A := fun A B C D => by rw [heap_alloc_old _ _ (by simp <;> omega), heap_alloc_old _ _ (by simp <;> omega), heap_alloc_old _ _ (by simp <;> omega), heap_alloc_new]
  have a1 : ∀ A B C D : Obj, ((((w.alloc A).alloc B).alloc C).alloc D).heap[w.heap.size + 1]? = some B := fun A B C D => by rw [heap_alloc_old _ _ (by simp <;> omega), heap_alloc_old _ _ (by simp <;> omega), show w.heap.size + 1 = (w.alloc A).heap.size from by simp, heap_alloc_new]
  have a2 : ∀ A B C D : Obj, ((((w.alloc A).alloc B).alloc C).alloc D).heap[w.heap.size + 2]? = some C := fun A B C D => by rw [heap_alloc_old _ _ (by simp <;> omega), show w.heap.size + 2 = ((w.alloc A).alloc B).heap.size from by simp, heap_alloc_new]
  have a3 : ∀ A B C D : Obj, ((((w.alloc A).alloc B).alloc C).alloc D).heap[w.heap.size + 3]? = some D := fun A B C D => by rw [show w.heap.size + 3 = (((w.alloc A).alloc B).alloc C).heap.size from by simp, heap_alloc_new]
  have a4 : ∀ A B C D : Obj, Below w.heap.size w ((((w.alloc A).alloc B).alloc C).alloc D) := fun A B C D => ((((Below.refl _ _).alloc (Nat.le_refl _) _).alloc (by simp <;> omega) _).alloc (by simp <;> omega) _).alloc (by simp <;> omega) _
  refine (m1.out _ _ _ _ (a4 _ _ _ _) (a0 _ _ _ _) (a1 _ _ _ _) (a2 _ _ _ _)).mono ?_
  rintro e w1 ⟨rfl, b1⟩
  have H0 := (b1.block _ (by simp <;> omega)).trans (a0 _ _ _ _)
  have H1 := (b1.block _ (by simp <;> omega)).trans (a1 _ _ _ _)
  have H2 := (b1.block _ (by simp <;> omega)).trans (a2 _ _ _ _)
  have H3 := (b1.block _ (by simp <;> omega)).trans (a3 _ _ _ _)
  have B1 := hide ((a4 _ _ _ _).trans (b1.mono (by simp <;> omega)))
  clear b1 a0 a1 a2 a3 a4
  have c30 : w1.cell? ⟨w.heap.size + 3, 0, none⟩ = some (.string ⟨#[80]⟩) := (Lib.cell_of_heap (j := 0) H3).trans rfl
  have c31 : w1.cell? ⟨w.heap.size + 3, 1, none⟩ = some (.slice (some ⟨w.heap.size, 0, none⟩) 1 1) := (Lib.cell_of_heap (j := 1) H3).trans rfl
  have c32 : w1.cell? ⟨w.heap.size + 3, 2, none⟩ = some (.slice (some ⟨w.heap.size + 1, 0, none⟩) 1 1) := (Lib.cell_of_heap (j := 2) H3).trans rfl
  have c33 : w1.cell? ⟨w.heap.size + 3, 3, none⟩ = some (.slice none 0 0) := (Lib.cell_of_heap (j := 3) H3).trans rfl
  have c34 : w1.cell? ⟨w.heap.size + 3, 4, none⟩ = some (.slice none 0 0) := (Lib.cell_of_heap (j := 4) H3).trans rfl
  have c35 : w1.cell? ⟨w.heap.size + 3, 5, none⟩ = some (.slice (some ⟨w.heap.size + 2, 0, none⟩) 3 3) := (Lib.cell_of_heap (j := 5) H3).trans rfl
  have c24 : w1.cell? ⟨w.heap.size + 2, 4, none⟩ = some (.int .i64 3) := (Lib.cell_of_heap (j := 4) H2).trans rfl
  have f24 : w1.frozen? ⟨w.heap.size + 2, 4, none⟩ = false := Lib.frozen_of_heap H2 4
  have c25 : w1.cell? ⟨w.heap.size + 2, 5, none⟩ = some (.int .i64 0) := (Lib.cell_of_heap (j := 5) H2).trans rfl
  have f25 : w1.frozen? ⟨w.heap.size + 2, 5, none⟩ = false := Lib.frozen_of_heap H2 5
  have c26 : w1.cell? ⟨w.heap.size + 2, 6, none⟩ = some (.int .i64 0) := (Lib.cell_of_heap (j := 6) H2).trans rfl
  have f26 : w1.frozen? ⟨w.heap.size + 2, 6, none⟩ = false := Lib.frozen_of_heap H2 6
  have c27 : w1.cell? ⟨w.heap.size + 2, 7, none⟩ = some (.int .i64 0) := (Lib.cell_of_heap (j := 7) H2).trans rfl
  have f27 : w1.frozen? ⟨w.heap.size + 2, 7, none⟩ = false := Lib.frozen_of_heap H2 7
  have HH0 := hide H0
  have HH1 := hide H1
  have HH2 := hide H2
  clear H0 H1 H2 H3
  go_wp2_with fail
  refine (m2.out _ (w.heap.size) (w.heap.size + 1) (w.heap.size + 2) ?_ ?_ ?_ ?_).mono ?_
  · exact below_set (below_set (below_set (below_set B1.out (by omega) _ _) (by omega) _ _) (by omega) _ _) (by omega) _ _
  · rw [heap_setCell_other _ _ _ _ (by show w.heap.size ≠ w.heap.size + 2; omega), heap_setCell_other _ _ _ _ (by show w.heap.size ≠ w.heap.size + 2; omega), heap_setCell_other _ _ _ _ (by show w.heap.size ≠ w.heap.size + 2; omega), heap_setCell_other _ _ _ _ (by show w.heap.size ≠ w.heap.size + 2; omega)]
    exact HH0.out
  · rw [heap_setCell_other _ _ _ _ (by show w.heap.size + 1 ≠ w.heap.size + 2; omega), heap_setCell_other _ _ _ _ (by show w.heap.size + 1 ≠ w.heap.size + 2; omega), heap_setCell_other _ _ _ _ (by show w.heap.size + 1 ≠ w.heap.size + 2; omega), heap_setCell_other _ _ _ _ (by show w.heap.size + 1 ≠ w.heap.size + 2; omega)]
    exact HH1.out
  · exact (Lib.heap_setCell_same (Lib.heap_setCell_same (Lib.heap_setCell_same (Lib.heap_setCell_same HH2.out _) _) _) _).trans rfl
  · rintro e w2 ⟨rfl, b2⟩
    have B3 := below_set (below_set (below_set (below_set B1.out (g := w.heap.size + 2) (by omega) 4 (.int .i64 2)) (g := w.heap.size + 2) (by omega) 5 (.int .i64 1)) (g := w.heap.size + 2) (by omega) 6 (.int .i64 0)) (g := w.heap.size + 2) (by omega) 7 (.int .i64 0)
    have B2 := hide (B3.trans (b2.mono B3.size))
    clear b2 B3 c30 c31 c32 c33 c34 c35 c24 c25 c26 c27 f24 f25 f26 f27
    go_wp2_with (go_at_call 6; refine (m3.out _ B2.out).mono ?_; rintro e w3 ⟨rfl, b3⟩; have B4 := hide (B2.out.trans (b3.mono B2.out.size)); clear b3)
    go_ret
    exact ⟨rfl, B4.out⟩
end Go.Proofs.YtmbgcpmapaedcaaDoor
