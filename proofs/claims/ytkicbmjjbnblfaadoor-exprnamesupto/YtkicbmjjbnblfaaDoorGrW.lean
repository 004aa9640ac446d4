/- The contract of slices.Grow of tokens, at the nil slice; lists of tokens put together by append. -/
import Derived.Test.YtkicbmjjbnblfaaDoorSwW
import Derived.Lib.SliceRun
import Derived.Lib.AppendZerosOnto
namespace Go.Proofs.YtkicbmjjbnblfaaDoor
open Go.RowKit Go.Lib
theorem in41 : (Tryd.prog.info? 44).map (fun i => (i.zero, i.size, i.bytes)) = some (some (.agg zTok), 5, 48) := by kernel_rfl
/-- an empty slice of one's own is answered -/
def GrowPost (w : World) (e : Ending) (w' : World) : Prop := ∃ v, e = .returned v ∧ w'.ownsRow w.heap.size 44 5 v 0 [] ∧ Below w.heap.size w w'
set_option maxRecDepth 100000 in
set_option maxHeartbeats 1600000 in
theorem grow_any (n : Nat) (hn : n ≤ 1000000000000) (w : World) :
    Calls Tryd.prog 63 #[.slice none 0 0, .int .i64 (n : Int)] w (GrowPost w) := by
  by_cases h0 : n = 0
  · subst h0
    have HF : Hid (GrowPost w (.returned (.slice none 0 0)) w) := ⟨_, rfl, World.ownsRow_nil _ _ _ _, Below.refl _ _⟩
    go_enter Tryd.func63, Tryd.ntmps63
    go_wp2
    go_ret
    exact HF.out
  · obtain ⟨i0, hi, hz0, hz1, hz2⟩ := info_parts in41
    have hrz : ∀ ty, (Builtin.append_ #[22, 3] ty #[.slice none 0 0, .int .i64 (n : Int)]).run Tryd.prog w =
        .ok (.slice (some ⟨w.heap.size, 0, none⟩) n (grownCap w n 0 44)) (w.drew.alloc (.cells (([] : List Value).toArray ++ Builtin.zeroCells (Value.agg zTok).cells n ++ Builtin.zeroCells (Value.agg zTok).cells (grownCap w n 0 44 - n)) 44)) := fun ty => by
      have h := Lib.run_append_grow_zeros w 22 3 ty 44 i0 (.agg zTok) .i64 .i64 Tryd.underlying22 Tryd.underlying3 hi hz0 none 0 0 [] (run_firstCells_none w.drew i0.size 0 0 0) n (by omega) (by omega) (by omega) (by omega) (by rw [hz2]; omega)
        (growslice_fits (by omega) (by rw [hz2]; omega))
      rw [Nat.zero_add] at h
      exact h
    have hG : n ≤ grownCap w n 0 44 := grownCap_ge w _ _ _
    have hGm := grownCap_le_maxLen w n 0 44 (by unfold maxLen; omega)
    have hsz : (([] : List Value).toArray ++ Builtin.zeroCells (Value.agg zTok).cells n ++ Builtin.zeroCells (Value.agg zTok).cells (grownCap w n 0 44 - n)).size = grownCap w n 0 44 * 5 := by
      have h5 : (Value.agg zTok).cells.size = 5 := rfl
      simp only [Array.size_append, List.size_toArray, size_zeroCells, h5, List.length_nil]
      omega
    generalize grownCap w n 0 44 = G at *
    generalize (([] : List Value).toArray ++ Builtin.zeroCells (Value.agg zTok).cells n ++ Builtin.zeroCells (Value.agg zTok).cells (G - n)) = C at *
    have HF : Hid (GrowPost w (.returned (.slice (some ⟨w.heap.size, 0, none⟩) 0 G)) (w.drew.alloc (.cells C 44))) := by
      refine ⟨_, rfl, ⟨rfl, .inr ⟨w.heap.size, G, C, rfl, Nat.le_refl _, heap_alloc_new w.drew _, Nat.zero_le _, hGm, hsz, ?_⟩⟩, ?_⟩
      · rw [Nat.zero_mul, List.take_zero]
      · exact ((⟨rfl, rfl, rfl, Nat.le_refl _, fun _ _ => rfl⟩ : Below w.heap.size w w.drew)).alloc (Nat.le_refl _) _
    unfold maxLen at hGm
    have i1 : (0 : Int) < (n : Int) := by omega
    have i2 : ¬ ((n : Int) < 0) := by omega
    have i3 : (n : Int) ≤ 1000000000000 := by omega
    have i4 : (G : Int) ≤ 9223372036854775807 := by omega
    clear hsz hi h0 hn hGm
    go_enter Tryd.func63, Tryd.ntmps63
    go_wp2_with (at_builtin; refine Lib.wpList_append_run _ rfl _ _ _ _ rfl _ _ rfl rfl _ _ (hrz _) ?_)
    all_goals
      go_ret
      exact HF.out
theorem run_append_nils (ty : Nat) (v : Value) (hv : ∃ a n cap, v = .slice a n cap ∧ n ≤ cap) (c : Nat) (W : World) : (Builtin.append_ #[22, 22] ty #[v, .slice none 0 c]).run Tryd.prog W = .ok v W := by
  obtain ⟨a, n, cap, rfl, hn⟩ := hv
  cases a <;> simp [Builtin.append_, go_sem, hn]
theorem owns_slice {w : World} {base n : Nat} {v : Value} {xs : List Value} (h : w.ownsRow base 44 5 v n xs) : ∃ a n cap, v = .slice a n cap ∧ n ≤ cap := by
  rcases h.2 with ⟨hv, _⟩ | ⟨g', cap', cur, hv, hb, hg, hn, hm, hc, ht⟩
  · exact ⟨_, _, _, hv, Nat.le_refl _⟩
  · exact ⟨_, _, _, hv, hn⟩
theorem run_append_toks (w : World) (base ty n : Nat) (v : Value) (xs : List Value) (hown : w.ownsRow base 44 5 v n xs) (u : Value) (l : List Tv) (hL : Lst w u l) (hbytes : n + l.length ≤ 1000000000000) (hbase : base ≤ w.heap.size) :
    ∃ v' w', (Builtin.append_ #[22, 22] ty #[v, u]).run Tryd.prog w = .ok v' w' ∧ w'.ownsRow base 44 5 v' (n + l.length) (xs ++ tvsC l) ∧ w.grownBy w' v.ownBlock := by
  obtain ⟨i0, hi, hz0, hz1, hz2⟩ := info_parts in41
  obtain ⟨a, b, off, c, rfl, hA, hI⟩ := hL
  have main : ∀ ad : Addr, a = some ad → (∀ j x, (tvsC l)[j]? = some x → w.cell? (ad.add j) = some x) → ∃ v' w', (Builtin.append_ #[22, 22] ty #[v, .slice a l.length c]).run Tryd.prog w = .ok v' w' ∧ w'.ownsRow base 44 5 v' (n + l.length) (xs ++ tvsC l) ∧ w.grownBy w' v.ownBlock := fun ad had hc => by
    subst had
    obtain ⟨v', w', hr, h2, h3, h4, _⟩ := run_append_own_at (P := Tryd.prog) w base 22 ty 44 i0 _ 5 48 Tryd.underlying22 hi hz0 hz1 hz2 rfl (by omega) _ n xs hown ad l.length c (tvsC l) (tvsC_length l) hc (tvsC_one l) (by unfold maxLen; omega) (by omega) hbase
    exact ⟨v', w', hr, h2, h3⟩
  by_cases hn : 0 < l.length
  · obtain ⟨_, rfl⟩ := hA hn
    exact main _ rfl (tv_cells hI)
  · have hl : l = [] := List.eq_nil_of_length_eq_zero (by omega)
    subst hl
    cases a with
    | some ad => exact main ad rfl (fun j x hx => by cases hx)
    | none =>
      refine ⟨v, w, run_append_nils ty v (owns_slice hown) c w, ?_, ⟨rfl, rfl, rfl, Nat.le_refl _, fun _ _ _ => rfl⟩⟩
      show w.ownsRow base 44 5 v n (xs ++ [])
      rw [List.append_nil]; exact hown
theorem wpList_append_toks {w : World} {ops : Array Oper} {rest : List Oper} {o : Oper} {a : Act} {Q : Exit → Act → World → Prop} (hgd : Region.wanted o (yielded ops a.tmps) = true) (s x : Operand)
    (ho : o.op = .call { callee := .builtin .append, args := #[s, x], argTypes := #[22, 22] })
    (base n : Nat) (v : Value) (xs : List Value) (hs : a.eval s = v) (hown : w.ownsRow base 44 5 v n xs) (u : Value) (l : List Tv) (hx : a.eval x = u) (hL : Lst w u l) (hbytes : n + l.length ≤ 1000000000000) (hbase : base ≤ w.heap.size)
    (h : ∀ v' w', w'.ownsRow base 44 5 v' (n + l.length) (xs ++ tvsC l) → w.grownBy w' v.ownBlock → wpList Tryd.prog ops Q rest (a.put o.dst v') w') : wpList Tryd.prog ops Q (o :: rest) a w := by
  refine wpList_step fun K hK => ?_
  rw [if_pos hgd]
  obtain ⟨v', w', hr, h2, h3⟩ := run_append_toks w base o.type n v xs hown u l hL hbytes hbase
  unfold Oper.wp execOp
  simp only [ho, resolve, invoke, builtin, Sem.run_bind, Sem.run_pure, Result.andThen_ok, List.map_toArray, List.map_cons, List.map_nil, hs, hx, hr]
  exact hK _ _ (h v' w' h2 h3)
end Go.Proofs.YtkicbmjjbnblfaaDoor
