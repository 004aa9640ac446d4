/- The contract of the law's works. -/
import Derived.Test.YtfcnbiikjopajaaDoorExP
namespace Go.Proofs.YtfcnbiikjopajaaDoor
open Go.RowKit
theorem owns_cell {w : World} {base : Nat} {v : Value} {n : Nat} {xs : List Value} (h : w.ownsRow base 41 5 v n xs) (hn : 0 < n) : ∃ g cap, v = .slice (some ⟨g, 0, none⟩) n cap ∧ n ≤ cap ∧ g < w.heap.size ∧ ∀ j x, xs[j]? = some x → w.cell? ⟨g, j, none⟩ = some x := by
  obtain ⟨hx, h1 | ⟨g, cap, cur, rfl, hb, hg, hc, hm, hs, ht⟩⟩ := h
  · omega
  · refine ⟨g, cap, rfl, hc, (Array.getElem?_eq_some_iff.1 hg).1, fun j x hj => ?_⟩
    rw [cell_of_row w g j cur 41 (0, 0) hg]
    rw [← ht, List.getElem?_take] at hj
    split at hj
    · simpa using hj
    · cases hj
set_option maxRecDepth 100000 in
set_option maxHeartbeats 6400000 in
theorem works_any (w : World) (hg : Glo w) : Calls Tryd.prog 14 #[] w fun e w' => e = .returned (.bool true) ∧ Below w.heap.size w w' := by
  have HG := hide hg
  have c1 := fun W h => tokens_any ex1 W h
  have c2 := fun W h => tokens_any ex2 W h
  unfold TksOut at c1 c2
  rw [toks_ex1] at c1
  rw [toks_ex2] at c2
  have e1 : (⟨ex1.toArray⟩ : ByteArray) = ⟨#[120, 58, 61, 73, 78, 84, 35, 45, 53, 43, 49, 54, 35, 49, 102, 59, 32, 40, 42, 32, 110, 111, 116, 101, 32, 42, 41]⟩ := rfl
  have e2 : (⟨ex2.toArray⟩ : ByteArray) = ⟨#[84, 35, 49, 109, 50, 115, 53, 109, 115]⟩ := rfl
  rw [e1] at c1
  rw [e2] at c2
  clear e1 e2 hg
  go_enter Tryd.func14, Tryd.ntmps14
  go_wp2_with fail
  refine (c1 _ HG.out).mono ?_
  rintro e w1 ⟨⟨v, rfl, ho1⟩, hb1⟩
  obtain ⟨g1, cap1, rfl, hcap1, hg1, cells1⟩ := owns_cell ho1 (by simp)
  have B1 := hb1.alloc hb1.size (.cells #[.int .i64 0, .int .i64 0] 25)
  have G1 := HG.out.below B1 HG.out.lt
  clear c1
  go_wp2_with fail
  refine (c2 _ G1).mono ?_
  rintro e w2 ⟨⟨v, rfl, ho2⟩, hb2⟩
  obtain ⟨g2, cap2, rfl, hcap2, hg2, cells2⟩ := owns_cell ho2 (by simp)
  have B2 := hide (B1.trans (hb2.mono B1.size))
  have b2 := fun j x (h : (tksC ex1.length [(wordT [88], 27), (signT [58, 61], 26), (numT (-5) 2, 24), (signT [43], 18), (numT 31 0, 17), (signT [59], 12), (endT, 0)])[j]? = some x) => (hb2.cell (p := ⟨g1, j, none⟩) (by simp; omega)).trans ((World.cell?_alloc_lt _ _ _ hg1).trans (cells1 j x h))
  have lg1 : g1 < w2.heap.size := by have := hb2.size; rw [World.size_alloc] at this; omega
  have lz1 : w1.heap.size < w2.heap.size := by have := hb2.size; rw [World.size_alloc] at this; omega
  have fz : ∀ o, (w2.alloc o).cell? ⟨w1.heap.size, 0, none⟩ = some (.int .i64 0) := fun o => (World.cell?_alloc_lt _ _ _ lz1).trans ((hb2.cell (p := ⟨w1.heap.size, 0, none⟩) (by simp)).trans (by simp))
  have fz1 : ∀ o, (w2.alloc o).cell? ⟨w1.heap.size, 1, none⟩ = some (.int .i64 0) := fun o => (World.cell?_alloc_lt _ _ _ lz1).trans ((hb2.cell (p := ⟨w1.heap.size, 1, none⟩) (by simp)).trans (by simp))
  have q1 : ∀ o, (w2.alloc o).cell? ⟨g1, 1, none⟩ = some (.string ⟨#[88]⟩) := fun o => (World.cell?_alloc_lt _ _ _ lg1).trans (b2 1 _ rfl)
  have q6 : ∀ o, (w2.alloc o).cell? ⟨g1, 6, none⟩ = some (.string ⟨#[58, 61]⟩) := fun o => (World.cell?_alloc_lt _ _ _ lg1).trans (b2 6 _ rfl)
  have q10 : ∀ o, (w2.alloc o).cell? ⟨g1, 10, none⟩ = some (.int .i64 2) := fun o => (World.cell?_alloc_lt _ _ _ lg1).trans (b2 10 _ rfl)
  have q11 : ∀ o, (w2.alloc o).cell? ⟨g1, 11, none⟩ = some (.string ⟨#[]⟩) := fun o => (World.cell?_alloc_lt _ _ _ lg1).trans (b2 11 _ rfl)
  have q12 : ∀ o, (w2.alloc o).cell? ⟨g1, 12, none⟩ = some (.int .i64 (-5)) := fun o => (World.cell?_alloc_lt _ _ _ lg1).trans (b2 12 _ rfl)
  have q13 : ∀ o, (w2.alloc o).cell? ⟨g1, 13, none⟩ = some (.int .i64 2) := fun o => (World.cell?_alloc_lt _ _ _ lg1).trans (b2 13 _ rfl)
  have q14 : ∀ o, (w2.alloc o).cell? ⟨g1, 14, none⟩ = some (.int .i64 3) := fun o => (World.cell?_alloc_lt _ _ _ lg1).trans (b2 14 _ rfl)
  have q22 : ∀ o, (w2.alloc o).cell? ⟨g1, 22, none⟩ = some (.int .i64 31) := fun o => (World.cell?_alloc_lt _ _ _ lg1).trans (b2 22 _ rfl)
  have q30 : ∀ o, (w2.alloc o).cell? ⟨g1, 30, none⟩ = some (.int .i64 4) := fun o => (World.cell?_alloc_lt _ _ _ lg1).trans (b2 30 _ rfl)
  have q31 : ∀ o, (w2.alloc o).cell? ⟨g1, 31, none⟩ = some (.string ⟨#[]⟩) := fun o => (World.cell?_alloc_lt _ _ _ lg1).trans (b2 31 _ rfl)
  have q32 : ∀ o, (w2.alloc o).cell? ⟨g1, 32, none⟩ = some (.int .i64 0) := fun o => (World.cell?_alloc_lt _ _ _ lg1).trans (b2 32 _ rfl)
  have q33 : ∀ o, (w2.alloc o).cell? ⟨g1, 33, none⟩ = some (.int .i64 0) := fun o => (World.cell?_alloc_lt _ _ _ lg1).trans (b2 33 _ rfl)
  have q34 : ∀ o, (w2.alloc o).cell? ⟨g1, 34, none⟩ = some (.int .i64 27) := fun o => (World.cell?_alloc_lt _ _ _ lg1).trans (b2 34 _ rfl)
  have p2 : ∀ o, (w2.alloc o).cell? ⟨g2, 2, none⟩ = some (.int .i64 62005) := fun o => (World.cell?_alloc_lt _ _ _ hg2).trans (cells2 2 _ rfl)
  have p3 : ∀ o, (w2.alloc o).cell? ⟨g2, 3, none⟩ = some (.int .i64 4) := fun o => (World.cell?_alloc_lt _ _ _ hg2).trans (cells2 3 _ rfl)
  have l1 : (7 : Nat) ≤ cap1 := by simpa using hcap1
  have l2 : (2 : Nat) ≤ cap2 := by simpa using hcap2
  have z2 := B2.out.size
  have zz := hb2.size
  rw [World.size_alloc] at zz
  clear ho1 ho2 hb1 B1 G1 hb2 b2 cells1 cells2 c2 hcap1 hcap2 HG
  go_wp2
  go_ret
  exact ⟨rfl, B2.out.alloc z2 _⟩
end Go.Proofs.YtfcnbiikjopajaaDoor
