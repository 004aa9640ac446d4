/- verify: newWalk. -/
import Derived.Test.YtlckedionmgjjaaDoorMg18
namespace Go.Proofs.YtlckedionmgjjaaDoor
open Go.RowKit
section
variable {P : Program} {ops : Array Oper} {S : World → Prop} {o : Oper} {a : Act} {w : World} {K : Act → World → Prop} {Q : Exit → Act → World → Prop}
theorem yields_build (hw : Region.wanted o (yielded ops a.tmps) = true) (t : TypeId) (parts : Array (Nat × Operand)) (ho : o.op = .build t parts) (cells : Array Value) (L : List (Nat × Value)) (hL : (parts.map fun (i, x) => (i, a.eval x)).toList = L) (hf : P.built t L = some cells) : YieldsIf P ops S o (.agg cells) a :=
  .inl ⟨hw, fun W _ => by
    subst hL
    unfold execOp
    simp only [ho, Sem.run_bind, run_build W t _ cells hf, Sem.run_pure, Result.andThen_ok]⟩
theorem wp_box (t : TypeId) (x : Operand) (ho : o.op = .box t x) (cells : Array Value) (hx : (a.eval x).cells = cells) (h : K (a.put o.dst (.pointer (some ⟨w.heap.size, 0, none⟩))) (w.alloc (.cells cells t))) : o.wp P a w K Q := by
  subst hx
  unfold Oper.wp execOp
  simp only [ho, Sem.run_bind, Instr.box, newVar, newRow, run_newObj_alloc, Sem.run_pure, Result.andThen_ok]
  exact h
theorem wp_mk (t : TypeId) (x y : Operand) (ho : o.op = .makeSlice t x y) (X Y v : Value) (w' : World) (hx : a.eval x = X) (hy : a.eval y = Y) (hr : (Instr.makeSlice t X Y).run P w = .ok v w') (h : K (a.put o.dst v) w') : o.wp P a w K Q := by
  subst hx hy
  unfold Oper.wp execOp
  simp only [ho, Sem.run_bind, hr, Sem.run_pure, Result.andThen_ok]
  exact h
end
theorem made_b (n : Nat) : madeCells #[.bool false] (n * 1) = (rchC (blankS n).rs).toArray := by
  apply Array.ext'
  simp only [madeCells, rchC, blankS]
  apply List.ext_getElem
  · simp
  · intro i h1 h2
    simp [Nat.mod_one]
theorem blank_get (n k : Nat) : (blankS n).rs.getD k none = none := by
  unfold blankS
  rw [List.getD_eq_getElem?_getD, List.getElem?_replicate]
  split <;> rfl
theorem made_s (n : Nat) : madeCells zeroS.toArray (n * 65) = (ahdC n (blankS n).rs).toArray := by
  apply Array.ext'
  simp only [madeCells, ahdC]
  apply List.ext_getElem
  · simp; omega
  · intro i h1 h2
    simp only [Array.toList_map, Array.toList_range, List.getElem_map, List.getElem_range, blank_get]
    have hz : zeroS.toArray.size = 65 := by simp [zeroS, encS_length]
    rw [hz]
    have hlt : i % 65 < (encS ([] : Stk)).length := by rw [encS_length]; omega
    show zeroS.toArray[i % 65]! = (encS []).getD (i % 65) undef
    rw [List.getD_eq_getElem?_getD, List.getElem?_eq_getElem hlt]
    show (encS []).toArray[i % 65]! = _
    rw [Array.getElem!_eq_getD, Array.getD_eq_getD_getElem?]
    simp [hlt]
theorem info4b : (Tryd.prog.info? 4).map (fun i => (i.zero, i.size, i.bytes)) = some (some (.bool false), 1, 1) := by kernel_rfl
theorem info76b : (Tryd.prog.info? 76).map (fun i => (i.zero, i.size, i.bytes)) = some (some (.agg zeroS.toArray), 65, 72) := by kernel_rfl
theorem mk_b (n : Nat) (h : n ≤ 4096) (W : World) : (Instr.makeSlice 31 (.int .i64 (n : Int)) (.int .i64 (n : Int))).run Tryd.prog W = .ok (.slice (some ⟨W.heap.size, 0, none⟩) n n) (W.alloc (.cells (rchC (blankS n).rs).toArray 4)) := by
  obtain ⟨i0, hi, hz0, hz1, hz2⟩ := info_parts info4b
  have := run_make W 31 4 i0 _ Tryd.underlying31 hi hz0 .i64 .i64 (n : Int) (n : Int) (by omega) (Int.le_refl _) (by rw [hz2]; omega) (by omega)
  rw [hz1] at this
  simp only [Int.toNat_natCast] at this
  rw [← made_b]; exact this
theorem mk_s (n : Nat) (h : n ≤ 4096) (W : World) : (Instr.makeSlice 51 (.int .i64 (n : Int)) (.int .i64 (n : Int))).run Tryd.prog W = .ok (.slice (some ⟨W.heap.size, 0, none⟩) n n) (W.alloc (.cells (ahdC n (blankS n).rs).toArray 76)) := by
  obtain ⟨i0, hi, hz0, hz1, hz2⟩ := info_parts info76b
  have := run_make W 51 76 i0 _ Tryd.underlying51 hi hz0 .i64 .i64 (n : Int) (n : Int) (by omega) (Int.le_refl _) (by rw [hz2]; omega) (by omega)
  rw [hz1] at this
  simp only [Int.toNat_natCast] at this
  rw [← made_s]; exact this
theorem word_blank (n j : Nat) : wordN (List.replicate n false) j = 0 := by
  apply Nat.eq_of_testBit_eq
  intro i
  unfold wordN
  rw [natOf_bit, Nat.zero_testBit, List.getD_eq_getElem?_getD]
  by_cases hi : i < 64
  · rw [wrdB_get _ _ _ hi, List.getD_eq_getElem?_getD, List.getElem?_replicate]
    split <;> rfl
  · rw [List.getElem?_eq_none (by rw [wrdB_length]; omega)]; rfl
theorem encW_blank (xs : List Value) (n : Nat) : encW xs (blankS n).wt 0 = xs ++ ((List.range 64).map (fun _ => Value.int .u64 0) ++ [.int .i64 0]) := by
  have h : wrdC (blankS n).wt = (List.range 64).map (fun _ => Value.int .u64 0) := List.map_congr_left fun j _ => by
    show Value.int .u64 ((wordN (List.replicate n false) j : Nat) : Int) = _
    rw [word_blank]; rfl
  unfold encW
  rw [h]; rfl
set_option maxRecDepth 100000 in
theorem built55 (a b c d e f : Value) (x y : Option Addr) (n m k l : Nat) : Tryd.prog.built 55 [(0, .agg #[a, b, c, d, e, f]), (1, .slice x n m), (2, .slice y k l)] = some ([a, b, c, d, e, f, .slice x n m, .slice y k l] ++ ((List.range 64).map (fun _ => Value.int .u64 0) ++ [Value.int .i64 0])).toArray := by
  kernel_rfl
set_option maxRecDepth 100000 in
set_option maxHeartbeats 3200000 in
theorem new_any (nm tv fv iv ov cv : Value) (n : Nat) (ca : Option Addr) (cc : Nat) (hcv : cv = .slice ca n cc) (w : World) (h0 : 0 < n) (h4 : n ≤ 4096) (h2 : 2 < w.heap.size) :
    Calls Tryd.prog 23 #[.agg #[nm, tv, fv, iv, ov, cv]] w fun e w' => ∃ g g1 g2, e = .returned (.pointer (some ⟨g, 0, none⟩)) ∧ WM n g g1 g2 [nm, tv, fv, iv, ov, cv] (blankS n) w' ∧ Below w.heap.size w w' ∧ w.heap.size ≤ g ∧ w.heap.size ≤ g1 ∧ w.heap.size ≤ g2 := by
  subst hcv
  obtain ⟨w0, hw0⟩ : ∃ w0, w0 = (w.alloc (.cells #[nm, tv, fv, iv, ov, .slice ca n cc] 26)).drew := ⟨_, rfl⟩
  have hSS : Ob w0 w.heap.size 26 [nm, tv, fv, iv, ov, .slice ca n cc] := by rw [hw0]; exact heap_alloc_new w _
  have B0 : Below w.heap.size w w0 := by rw [hw0]; exact ((Below.refl _ _).alloc (Nat.le_refl _) _).drew
  have z0 : w0.heap.size = w.heap.size + 1 := by rw [hw0]; show (w.alloc _).heap.size = _; simp
  have HS : Hid (∀ W A, Ob W w.heap.size 26 [nm, tv, fv, iv, ov, .slice ca n cc] → Ob (W.alloc A) w.heap.size 26 [nm, tv, fv, iv, ov, .slice ca n cc]) := fun W A h => h.on ((Below.refl _ _).alloc (Nat.le_refl _) _) h.lt
  have M1 := mk_b n h4
  have M2 := mk_s n h4
  have hG : GoodS n (blankS n) := ⟨by simp [blankS], by simp [blankS], fun k hk => by
    have : (List.replicate n false).getD k false = true := hk
    rw [List.getD_eq_getElem?_getD, List.getElem?_replicate] at this
    split at this <;> simp at this, fun k s hk => by rw [show (blankS n).at k = none from blank_get n k] at hk; cases hk⟩
  have HB5 : Hid (∀ x y, Tryd.prog.built 55 [(0, .agg #[nm, tv, fv, iv, ov, .slice ca n cc]), (1, .slice x n n), (2, .slice y n n)] = some (encW ([nm, tv, fv, iv, ov, .slice ca n cc] ++ [.slice x n n, .slice y n n]) (blankS n).wt 0).toArray) := fun x y => by rw [encW_blank]; exact built55 _ _ _ _ _ _ x y _ _ _ _
  have hfin : Hid (∀ (g1 g2 : Nat) (W : World), Ob W g1 4 (rchC (blankS n).rs) → Ob W g2 76 (ahdC n (blankS n).rs) → w.heap.size < g1 → w.heap.size < g2 → g1 ≠ g2 → Below w.heap.size w W → ∃ a b c, (Ending.returned (.pointer (some ⟨W.heap.size, 0, none⟩)) : Ending) = .returned (.pointer (some ⟨a, 0, none⟩)) ∧ WM n a b c [nm, tv, fv, iv, ov, .slice ca n cc] (blankS n) (W.alloc (.cells (encW ([nm, tv, fv, iv, ov, .slice ca n cc] ++ [.slice (some ⟨g1, 0, none⟩) n n, .slice (some ⟨g2, 0, none⟩) n n]) (blankS n).wt 0).toArray 55)) ∧ Below w.heap.size w (W.alloc (.cells (encW ([nm, tv, fv, iv, ov, .slice ca n cc] ++ [.slice (some ⟨g1, 0, none⟩) n n, .slice (some ⟨g2, 0, none⟩) n n]) (blankS n).wt 0).toArray 55)) ∧ w.heap.size ≤ a ∧ w.heap.size ≤ b ∧ w.heap.size ≤ c) := fun g1 g2 W o1 o2 l1 l2 hne hb => by
    have := o1.lt
    have := o2.lt
    exact ⟨W.heap.size, g1, g2, rfl, ⟨Ob.new W 55 _, o1.on ((Below.refl _ _).alloc (Nat.le_refl _) _) o1.lt, o2.on ((Below.refl _ _).alloc (Nat.le_refl _) _) o2.lt, hG, h4, h0, rfl, ⟨by omega, by omega, by omega⟩, ⟨by omega, by omega, hne⟩⟩, hb.alloc hb.size _, hb.size, by omega, by omega⟩
  obtain ⟨E, hE⟩ : ∃ E : Option Addr → Option Addr → Array Value, E = fun x y => (encW ([nm, tv, fv, iv, ov, .slice ca n cc] ++ [.slice x n n, .slice y n n]) (blankS n).wt 0).toArray := ⟨_, rfl⟩
  have HB5 : Hid (∀ x y, Tryd.prog.built 55 [(0, .agg #[nm, tv, fv, iv, ov, .slice ca n cc]), (1, .slice x n n), (2, .slice y n n)] = some (E x y)) := fun x y => by rw [hE]; exact HB5.out x y
  have HE := hide hE
  clear hE
  obtain ⟨RB, hRB⟩ : ∃ RB, RB = rchC (blankS n).rs := ⟨_, rfl⟩
  obtain ⟨AB, hAB⟩ : ∃ AB, AB = ahdC n (blankS n).rs := ⟨_, rfl⟩
  rw [← hRB] at M1
  rw [← hAB] at M2
  have HRB := hide hRB
  have HAB := hide hAB
  have HW0 := hide hw0
  have HB0 := hide B0
  have HZ0 := hide z0
  clear hw0 hG hRB hAB h0 h4 h2 B0 z0
  go_enter Tryd.func23, Tryd.ntmps23
  go_wp2
  refine wp_region_held_drew (S := fun W => Ob W w.heap.size 26 [nm, tv, fv, iv, ov, .slice ca n cc]) (by kernel_rfl) (show Ob (w.alloc _) _ _ _ from heap_alloc_new w _) (fun _ => ?_)
  rw [← HW0.out]
  refine tkH 0 (.agg #[nm, tv, fv, iv, ov, .slice ca n cc]) hSS ?_ (hy := yieldsIf_load_mid (by rfl) 26 (.tmp 1) rfl w.heap.size 0 (by rfl) [nm, tv, fv, iv, ov, .slice ca n cc] _ (fun W hW => Ob.range hW 0 _ (fun j v hv => by rw [Nat.zero_add]; exact hv)) Tryd.underlying26 rfl (by kernel_rfl))
  refine tkH 1 (.pointer (some ⟨w.heap.size, 5, none⟩)) hSS ?_
  refine tkH 2 (.slice ca n cc) hSS ?_ (hy := Or.inl ⟨by rfl, fun W hW => by have := Ob.cell (show Ob W w.heap.size 26 [nm, tv, fv, iv, ov, .slice ca n cc] from hW) 5 (v := .slice ca n cc) rfl; go_simp⟩)
  refine tkH 3 (.int .i64 (n : Int)) hSS ?_
  refine tkH 5 (.pointer (some ⟨w.heap.size, 5, none⟩)) hSS ?_
  refine tkH 6 (.slice ca n cc) hSS ?_ (hy := Or.inl ⟨by rfl, fun W hW => by have := Ob.cell (show Ob W w.heap.size 26 [nm, tv, fv, iv, ov, .slice ca n cc] from hW) 5 (v := .slice ca n cc) rfl; go_simp⟩)
  refine tkH 7 (.int .i64 (n : Int)) hSS ?_
  try simp only [Act.put, List.setIfInBounds_toArray, List.set_cons_zero, List.set_cons_succ]
  refine wpAnyH_ready (rs := [4, 8]) (by kernel_rfl) (by simp) ?_
  refine AllReadyH.cons (o := { dst := some 7, op := _, type := _, pos := _, after := _, guard := none }) rfl (fun K hK => ?_) (AllReadyH.cons (o := { dst := some 11, op := _, type := _, pos := _, after := _, guard := none }) rfl (fun K hK => ?_) AllReadyH.nil)
  · rw [if_pos (by rfl)]
    refine wp_mk 31 (.tmp 6) (.tmp 6) rfl _ _ _ _ (by rfl) (by rfl) (M1 _) ?_
    refine hK.out _ _ (HS.out _ _ hSS) (fun hS1 => ?_)
    clear hK K
    try simp only [Act.put, List.setIfInBounds_toArray, List.set_cons_zero, List.set_cons_succ]
    refine rdH 8 (fun K hK => ?_)
    rw [if_pos (by rfl)]
    refine wp_mk 51 (.tmp 10) (.tmp 10) rfl _ _ _ _ (by rfl) (by rfl) (M2 _) ?_
    refine hK.out _ _ (HS.out _ _ hS1) (fun hS2 => ?_)
    clear hK K
    try simp only [Act.put, List.setIfInBounds_toArray, List.set_cons_zero, List.set_cons_succ]
    refine tkH 9 (.agg (E (some ⟨w0.heap.size, 0, none⟩) (some ⟨(w0.alloc (.cells RB.toArray 4)).heap.size, 0, none⟩))) hS2 ?_ (hy := yields_build (by rfl) 55 _ rfl _ _ (by kernel_rfl) (HB5.out _ _))
    try simp only [Act.put, List.setIfInBounds_toArray, List.set_cons_zero, List.set_cons_succ]
    refine rdH 10 (fun K hK => ?_)
    rw [if_pos (by rfl)]
    refine wp_box 55 (.tmp 12) rfl _ rfl ?_
    refine hK.out _ _ (HS.out _ _ hS2) (fun hS3 => ?_)
    clear hK K
    try simp only [Act.put, List.setIfInBounds_toArray, List.set_cons_zero, List.set_cons_succ]
    refine tkH 11 (.pointer (some ⟨((w0.alloc (.cells RB.toArray 4)).alloc (.cells AB.toArray 76)).heap.size, 0, none⟩)) hS3 ?_
    try simp only [Act.put, List.setIfInBounds_toArray, List.set_cons_zero, List.set_cons_succ]
    refine wpAnyH_done (by kernel_rfl) ?_ _
    go_wp2
    go_ret
    have hz := HZ0.out
    have := hfin.out w0.heap.size (w0.alloc (.cells RB.toArray 4)).heap.size ((w0.alloc (.cells RB.toArray 4)).alloc (.cells AB.toArray 76)) (Ob.on (T := 4) (by rw [← HRB.out]; exact Ob.new w0 4 RB) ((Below.refl _ _).alloc (Nat.le_refl _) _) (by simp)) (by rw [← HAB.out]; exact Ob.new _ 76 AB) (by first | omega | (simp; omega)) (by first | omega | (simp; omega)) (by first | omega | (simp; omega) | simp) ((HB0.out.alloc HB0.out.size _).alloc (by first | omega | (simp; omega)) _)
    rw [HE.out]
    exact this
  · rw [if_pos (by rfl)]
    refine wp_mk 51 (.tmp 10) (.tmp 10) rfl _ _ _ _ (by rfl) (by rfl) (M2 _) ?_
    refine hK.out _ _ (HS.out _ _ hSS) (fun hS1 => ?_)
    clear hK K
    try simp only [Act.put, List.setIfInBounds_toArray, List.set_cons_zero, List.set_cons_succ]
    refine rdH 4 (fun K hK => ?_)
    rw [if_pos (by rfl)]
    refine wp_mk 31 (.tmp 6) (.tmp 6) rfl _ _ _ _ (by rfl) (by rfl) (M1 _) ?_
    refine hK.out _ _ (HS.out _ _ hS1) (fun hS2 => ?_)
    clear hK K
    try simp only [Act.put, List.setIfInBounds_toArray, List.set_cons_zero, List.set_cons_succ]
    refine tkH 9 (.agg (E (some ⟨(w0.alloc (.cells AB.toArray 76)).heap.size, 0, none⟩) (some ⟨w0.heap.size, 0, none⟩))) hS2 ?_ (hy := yields_build (by rfl) 55 _ rfl _ _ (by kernel_rfl) (HB5.out _ _))
    try simp only [Act.put, List.setIfInBounds_toArray, List.set_cons_zero, List.set_cons_succ]
    refine rdH 10 (fun K hK => ?_)
    rw [if_pos (by rfl)]
    refine wp_box 55 (.tmp 12) rfl _ rfl ?_
    refine hK.out _ _ (HS.out _ _ hS2) (fun hS3 => ?_)
    clear hK K
    try simp only [Act.put, List.setIfInBounds_toArray, List.set_cons_zero, List.set_cons_succ]
    refine tkH 11 (.pointer (some ⟨((w0.alloc (.cells AB.toArray 76)).alloc (.cells RB.toArray 4)).heap.size, 0, none⟩)) hS3 ?_
    try simp only [Act.put, List.setIfInBounds_toArray, List.set_cons_zero, List.set_cons_succ]
    refine wpAnyH_done (by kernel_rfl) ?_ _
    go_wp2
    go_ret
    have hz := HZ0.out
    have := hfin.out (w0.alloc (.cells AB.toArray 76)).heap.size w0.heap.size ((w0.alloc (.cells AB.toArray 76)).alloc (.cells RB.toArray 4)) (by rw [← HRB.out]; exact Ob.new _ 4 RB) (Ob.on (T := 76) (by rw [← HAB.out]; exact Ob.new w0 76 AB) ((Below.refl _ _).alloc (Nat.le_refl _) _) (by simp)) (by first | omega | (simp; omega)) (by first | omega | (simp; omega)) (by first | omega | (simp; omega) | simp) ((HB0.out.alloc HB0.out.size _).alloc (by first | omega | (simp; omega)) _)
    rw [HE.out]
    exact this
end Go.Proofs.YtlckedionmgjjaaDoor
