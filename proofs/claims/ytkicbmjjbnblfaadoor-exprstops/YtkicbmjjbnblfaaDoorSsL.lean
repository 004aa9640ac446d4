/- What the walk of ExprStops leans on: append within a statement whose order is left open. -/
import Derived.Test.YtkicbmjjbnblfaaDoorWoW
import Derived.Test.YtkicbmjjbnblfaaDoorStP
import Derived.Test.YtkicbmjjbnblfaaDoorShA
namespace Go.Proofs.YtkicbmjjbnblfaaDoor
open Go.RowKit
theorem mod5 (a : Int) : ∃ I : Nat, (IntKind.u64.wrap a).tmod 5 = (I : Int) ∧ I < 5 := by
  have h0 : 0 ≤ IntKind.u64.wrap a := by
    have e : IntKind.u64.wrap a = a % (2 ^ 64 : Int) := rfl
    rw [e]
    exact Int.emod_nonneg _ (by decide)
  have h1 := Int.tmod_nonneg 5 h0
  have h2 := Int.tmod_lt_of_pos (IntKind.u64.wrap a) (b := 5) (by decide)
  exact ⟨((IntKind.u64.wrap a).tmod 5).toNat, by omega, by omega⟩
theorem five_lit : (tvsC five5).toArray = #[.int .i64 3, .string ⟨#[59]⟩, .int .i64 0, .int .i64 0, .int .i64 0, .int .i64 1, .string ⟨#[84, 72, 69, 78]⟩, .int .i64 0, .int .i64 0, .int .i64 0, .int .i64 3, .string ⟨#[41]⟩, .int .i64 0, .int .i64 0, .int .i64 0, .int .i64 2, .string ⟨#[]⟩, .int .i64 5, .int .i64 0, .int .i64 0, .int .i64 4, .string ⟨#[]⟩, .int .i64 0, .int .i64 0, .int .i64 0] := rfl
theorem five_cell (w : World) (o : Obj) (I j : Nat) (hI : I < 5) (hj : j < 5) : ((w.alloc o).alloc (.cells #[.int .i64 3, .string ⟨#[59]⟩, .int .i64 0, .int .i64 0, .int .i64 0, .int .i64 1, .string ⟨#[84, 72, 69, 78]⟩, .int .i64 0, .int .i64 0, .int .i64 0, .int .i64 3, .string ⟨#[41]⟩, .int .i64 0, .int .i64 0, .int .i64 0, .int .i64 2, .string ⟨#[]⟩, .int .i64 5, .int .i64 0, .int .i64 0, .int .i64 4, .string ⟨#[]⟩, .int .i64 0, .int .i64 0, .int .i64 0] 44)).cell? ⟨w.heap.size + 1, I * 5 + j, none⟩ = (tvC (five5[I]'hI))[j]? := by
  rw [Lib.cell_of_heap (alloc2_z w _ _), ← five_lit, List.getElem?_toArray, tvsC_get five5 I j hI hj]
theorem step_first {ops : Array Oper} {o : Oper} {a : Act} {W : World} {K : Act → World → Prop} {Q : Exit → Act → World → Prop} {E : Prop} (hgd : o.guard = none) (s x : Operand)
    (ho : o.op = .call { callee := .builtin .append, args := #[s, x], argTypes := #[22, 22] }) (X : World) (g : Nat) (la : Addr) (M lcap : Nat) (l : List Tv)
    (hs : a.eval s = .slice (some ⟨g, 0, none⟩) 0 0) (hx : a.eval x = .slice (some la) M lcap) (hL : Lst X (.slice (some la) M lcap) l) (hM : M = l.length) (h0 : 0 < M) (hb : M ≤ 3000000000000) (hH : Held X W)
    (h : ∀ g' cap' w', w'.ownsRow X.heap.size 44 5 (.slice (some ⟨g', 0, none⟩) M cap') M (tvsC l) → Below W.heap.size W w' → Held X w' → g' = W.heap.size → g' < w'.heap.size → K (a.put o.dst (.slice (some ⟨g', 0, none⟩) M cap')) w') :
    if Region.wanted o (yielded ops a.tmps) = true then Oper.wp Tryd.prog o a W K Q else E := by
  have hw : Region.wanted o (yielded ops a.tmps) = true := by simp [Region.wanted, hgd]
  rw [if_pos hw]
  obtain ⟨i0, hi, hz0, hz1, hz2⟩ := info_parts in41L
  have hLW := hL.below hH (Nat.le_refl _)
  obtain ⟨a2, b2, off2, cap2, hv2, hA, hT⟩ := hLW
  injection hv2 with e1 e2 e3
  obtain ⟨hb2, e4⟩ := hA (by omega)
  rw [e4] at e1
  injection e1 with e1
  subst e1 e3
  have hzs : (i0.size) = 5 := hz1
  have hr := run_append_grow (P := Tryd.prog) W 22 o.type 44 i0 _ Tryd.underlying22 hi hz0 ⟨g, 0, none⟩ 0 0 [] (by simp) (fun j v h => by cases h) ⟨b2, off2, none⟩ M lcap (tvsC l) (by rw [tvsC_length, hzs, hM]) (tv_cells hT) (by omega) (by omega) (by rw [Nat.zero_add, nextslicecap_zero h0, hz2]; omega)
  rw [Nat.zero_add] at hr
  have hG : M ≤ grownCap W M 0 44 := grownCap_ge W _ _ _
  have hGm := grownCap_le_maxLen W M 0 44 (by unfold maxLen; omega)
  unfold Oper.wp execOp
  simp only [ho, resolve, invoke, builtin, Sem.run_bind, Sem.run_pure, Result.andThen_ok, List.map_toArray, List.map_cons, List.map_nil, hs, hx, hr]
  refine h _ _ _ ⟨by rw [tvsC_length, hM], .inr ⟨W.heap.size, grownCap W M 0 44, _, rfl, hH.size, heap_alloc_new W.drew _, hG, hGm, ?_, ?_⟩⟩ ?_ ?_ rfl (by rw [World.size_alloc]; exact Nat.lt_succ_self _)
  · have h5 : (Value.agg #[.int .i64 0, .string ⟨#[]⟩, .int .i64 0, .int .i64 0, .int .i64 0]).cells.size = 5 := rfl
    simp only [Array.size_append, List.size_toArray, size_zeroCells, h5, List.length_nil, tvsC_length, ← hM]
    omega
  · rw [Array.toList_append, Array.toList_append]
    rw [List.append_assoc, List.nil_append, List.take_append_of_le_length (by rw [tvsC_length, hM]; exact Nat.le_refl _), List.take_of_length_le (by rw [tvsC_length, hM]; exact Nat.le_refl _)]
  · exact ((⟨rfl, rfl, rfl, Nat.le_refl _, fun _ _ => rfl⟩ : Below W.heap.size W W.drew)).alloc (Nat.le_refl _) _
  · exact Held.alloc (Held.drew hH) _
theorem step_second {ops : Array Oper} {o : Oper} {a : Act} {W : World} {K : Act → World → Prop} {Q : Exit → Act → World → Prop} {E : Prop} (hgd : o.guard = none) (s x : Operand)
    (ho : o.op = .call { callee := .builtin .append, args := #[s, x], argTypes := #[22, 22] }) (X : World) (g M cap : Nat) (l : List Tv) (bY : Nat) (y : Tv)
    (hs : a.eval s = .slice (some ⟨g, 0, none⟩) M cap) (hx : a.eval x = .slice (some ⟨bY, 0, none⟩) 1 1) (hown : W.ownsRow X.heap.size 44 5 (.slice (some ⟨g, 0, none⟩) M cap) M (tvsC l)) (hu : Lst W (.slice (some ⟨bY, 0, none⟩) 1 1) [y]) (hM : M = l.length) (hb : M ≤ 2932031007403) (hH : Held X W)
    (h : ∀ g' cap' w', w'.ownsRow X.heap.size 44 5 (.slice (some ⟨g', 0, none⟩) (M + 1) cap') (M + 1) (tvsC (l ++ [y])) → Held X w' → (∀ b, b ≠ g → b < W.heap.size → w'.heap[b]? = W.heap[b]?) → K (a.put o.dst (.slice (some ⟨g', 0, none⟩) (M + 1) cap')) w') :
    if Region.wanted o (yielded ops a.tmps) = true then Oper.wp Tryd.prog o a W K Q else E := by
  have hw : Region.wanted o (yielded ops a.tmps) = true := by simp [Region.wanted, hgd]
  rw [if_pos hw]
  obtain ⟨i0, hi, hz0, hz1, hz2⟩ := info_parts in41L
  obtain ⟨a2, b2, off2, cap2, hv2, hA, hT⟩ := hu
  obtain ⟨_, e4⟩ := hA Nat.one_pos
  injection hv2 with e1 _ e3
  rw [e4] at e1
  injection e1 with e1
  subst e3
  obtain ⟨v', w', hr, h2, h3, _⟩ := run_append_own_wide (P := Tryd.prog) W X.heap.size 22 o.type 44 i0 _ 5 48 Tryd.underlying22 hi hz0 hz1 hz2 rfl (by omega) _ M (tvsC l) hown ⟨bY, 0, none⟩ 1 1 (tvsC [y]) (tvsC_length [y]) (by rw [e1]; exact tv_cells hT) (tvsC_one [y]) (by unfold maxLen; omega) (by omega) hH.size
  unfold Oper.wp execOp
  simp only [ho, resolve, invoke, builtin, Sem.run_bind, Sem.run_pure, Result.andThen_ok, List.map_toArray, List.map_cons, List.map_nil, hs, hx, hr]
  rcases h2.2 with ⟨_, h0⟩ | ⟨g', cap', cur, rfl, _⟩
  · omega
  · refine h g' cap' w' (by rw [tvsC_append]; exact h2) ?_ ?_
    · exact Below.grown hH h3 hH.size (fun r hr => (hown.lt r hr).1)
    · intro b hb hlt
      exact h3.block b hlt (fun e => hb (by have e2 : some b = some g := e; injection e2))
theorem lk_new {W : World} {b : Nat} {o : Obj} (h : b = W.heap.size) : (W.alloc o).heap[b]? = some o := by rw [h]; exact heap_alloc_new W o
theorem lk_alloc {W : World} {b : Nat} {o o' : Obj} (h : W.heap[b]? = some o) : (W.alloc o').heap[b]? = some o := by
  have hlt := (Array.getElem?_eq_some_iff.1 h).1
  rw [((Below.refl W.heap.size W).alloc (Nat.le_refl _) o').block b hlt]
  exact h
theorem lk_drew {W : World} {b : Nat} {o : Obj} (h : W.heap[b]? = some o) : W.drew.heap[b]? = some o := h
theorem lk_call {W W' : World} {b : Nat} {o : Obj} (hb : Below W.heap.size W W') (h : W.heap[b]? = some o) : W'.heap[b]? = some o := by
  rw [hb.block b (Array.getElem?_eq_some_iff.1 h).1]; exact h
theorem lk_grow {W W' : World} {g b : Nat} {o : Obj} (hg : ∀ b, b ≠ g → b < W.heap.size → W'.heap[b]? = W.heap[b]?) (hne : b ≠ g) (h : W.heap[b]? = some o) : W'.heap[b]? = some o := by
  rw [hg b hne (Array.getElem?_eq_some_iff.1 h).1]; exact h
def Flt (W : World) (b : Nat) : Prop := W.cell? ⟨b, 0, none⟩ = some (.int .i64 0) ∧ W.cell? ⟨b, 1, none⟩ = some (.int .i64 0) ∧ W.frozen? ⟨b, 0, none⟩ = false ∧ W.frozen? ⟨b, 1, none⟩ = false
theorem flt_of {W : World} {b : Nat} (h : W.heap[b]? = some (.cells #[.int .i64 0, .int .i64 0] 27)) : Flt W b :=
  ⟨by rw [Lib.cell_of_heap h]; rfl, by rw [Lib.cell_of_heap h]; rfl, Lib.frozen_of_heap h 0, Lib.frozen_of_heap h 1⟩
theorem kept27 {W W' : World} {b : Nat} {G : Prop} (hb : Below W.heap.size W W') (h : W.heap[b]? = some (.cells #[.int .i64 0, .int .i64 0] 27)) (k : W'.cell? ⟨b, 0, none⟩ = some (.int .i64 0) → W'.cell? ⟨b, 1, none⟩ = some (.int .i64 0) → W'.frozen? ⟨b, 0, none⟩ = false → W'.frozen? ⟨b, 1, none⟩ = false → b < W.heap.size → G) : G :=
  have f := flt_of (lk_call hb h)
  k f.1 f.2.1 f.2.2.1 f.2.2.2 (Array.getElem?_eq_some_iff.1 h).1
theorem Held.set1 {X W : World} {b j : Nat} {u : Value} (hb : X.heap.size ≤ b) (h : Held X W) : Held X (W.setCell ⟨b, j, none⟩ u) := Below.setCell h (p := ⟨b, j, none⟩) hb u
theorem Held.big {X W : World} (h : Held X W) : X.heap.size ≤ W.heap.size := h.size
theorem own_set1 {w : World} {base e size n b j : Nat} {v u : Value} {xs : List Value} (hb : b < base) (h : w.ownsRow base e size v n xs) : (w.setCell ⟨b, j, none⟩ u).ownsRow base e size v n xs := ownsRow_setCell_below h (a := ⟨b, j, none⟩) hb u
end Go.Proofs.YtkicbmjjbnblfaaDoor
