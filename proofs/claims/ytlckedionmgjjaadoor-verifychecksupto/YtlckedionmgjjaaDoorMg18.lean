/- verify: newWalk. | Out of stage 13: lists of instructions as cells; images in memory. -/
import Derived.Test.YtlckedionmgjjaaDoorMg17
import Derived.Test.YtlckedionmgjjaaDoorMg13
import Derived.Deep.RegionHeld3
namespace Go.Proofs.YtlckedionmgjjaaDoor
open Go.RowKit
section
variable {P : Program} {ops : Array Oper} {S : World → Prop} {o : Oper} {a : Act} {w : World} {K : Act → World → Prop} {Q : Exit → Act → World → Prop}
theorem yields_build (hw : Region.wanted o (yielded ops a.tmps) = true) (t : TypeId) (parts : Array (Nat × Operand)) (ho : o.op = .build t parts) (cells : Array Value) (L : List (Nat × Value)) (hL : (parts.map fun (i, x) => (i, a.eval x)).toList = L) (hf : P.built t L = some cells) : YieldsIf P ops S o (.agg cells) a :=
  .inl ⟨hw, fun W _ => by
    subst hL
    unfold execOp
    simp only [ho, Sem.run_bind, run_build W t _ cells hf, Sem.run_pure, Result.andThen_ok]⟩
theorem wp_box (t : TypeId) (x : Operand) (ho : o.op = .box t x) (cells : Array Value) (hx : (a.eval x).cells = cells) (h : K (a.put o.dst (.pointer (some ⟨w.heap.size, 0, none⟩))) (w.alloc (.cells cells t))) : o.wp P a w K Q := by
  subst hx
  unfold Oper.wp execOp
  simp only [ho, Sem.run_bind, Instr.box, newVar, newRow, run_newObj_alloc, Sem.run_pure, Result.andThen_ok]
  exact h
theorem wp_mk (t : TypeId) (x y : Operand) (ho : o.op = .makeSlice t x y) (X Y v : Value) (w' : World) (hx : a.eval x = X) (hy : a.eval y = Y) (hr : (Instr.makeSlice t X Y).run P w = .ok v w') (h : K (a.put o.dst v) w') : o.wp P a w K Q := by
  subst hx hy
  unfold Oper.wp execOp
  simp only [ho, Sem.run_bind, hr, Sem.run_pure, Result.andThen_ok]
  exact h
end
theorem made_b (n : Nat) : madeCells #[.bool false] (n * 1) = (rchC (blankS n).rs).toArray := by
  apply Array.ext'
  simp only [madeCells, rchC, blankS]
  apply List.ext_getElem
  · simp
  · intro i h1 h2
    simp [Nat.mod_one]
theorem blank_get (n k : Nat) : (blankS n).rs.getD k none = none := by
  unfold blankS
  rw [List.getD_eq_getElem?_getD, List.getElem?_replicate]
  split <;> rfl
theorem made_s (n : Nat) : madeCells zeroS.toArray (n * 65) = (ahdC n (blankS n).rs).toArray := by
  apply Array.ext'
  simp only [madeCells, ahdC]
  apply List.ext_getElem
  · simp; omega
  · intro i h1 h2
    simp only [Array.toList_map, Array.toList_range, List.getElem_map, List.getElem_range, blank_get]
    have hz : zeroS.toArray.size = 65 := by simp [zeroS, encS_length]
    rw [hz]
    have hlt : i % 65 < (encS ([] : Stk)).length := by rw [encS_length]; omega
    show zeroS.toArray[i % 65]! = (encS []).getD (i % 65) undef
    rw [List.getD_eq_getElem?_getD, List.getElem?_eq_getElem hlt]
    show (encS []).toArray[i % 65]! = _
    rw [Array.getElem!_eq_getD, Array.getD_eq_getD_getElem?]
    simp [hlt]
theorem info4b : (Tryd.prog.info? 4).map (fun i => (i.zero, i.size, i.bytes)) = some (some (.bool false), 1, 1) := by kernel_rfl
theorem info76b : (Tryd.prog.info? 76).map (fun i => (i.zero, i.size, i.bytes)) = some (some (.agg zeroS.toArray), 65, 72) := by kernel_rfl
theorem mk_b (n : Nat) (h : n ≤ 4096) (W : World) : (Instr.makeSlice 31 (.int .i64 (n : Int)) (.int .i64 (n : Int))).run Tryd.prog W = .ok (.slice (some ⟨W.heap.size, 0, none⟩) n n) (W.alloc (.cells (rchC (blankS n).rs).toArray 4)) := by
  obtain ⟨i0, hi, hz0, hz1, hz2⟩ := info_parts info4b
  have := run_make W 31 4 i0 _ Tryd.underlying31 hi hz0 .i64 .i64 (n : Int) (n : Int) (by omega) (Int.le_refl _) (by rw [hz2]; omega) (by omega)
  rw [hz1] at this
  simp only [Int.toNat_natCast] at this
  rw [← made_b]; exact this
theorem mk_s (n : Nat) (h : n ≤ 4096) (W : World) : (Instr.makeSlice 51 (.int .i64 (n : Int)) (.int .i64 (n : Int))).run Tryd.prog W = .ok (.slice (some ⟨W.heap.size, 0, none⟩) n n) (W.alloc (.cells (ahdC n (blankS n).rs).toArray 76)) := by
  obtain ⟨i0, hi, hz0, hz1, hz2⟩ := info_parts info76b
  have := run_make W 51 76 i0 _ Tryd.underlying51 hi hz0 .i64 .i64 (n : Int) (n : Int) (by omega) (Int.le_refl _) (by rw [hz2]; omega) (by omega)
  rw [hz1] at this
  simp only [Int.toNat_natCast] at this
  rw [← made_s]; exact this
theorem word_blank (n j : Nat) : wordN (List.replicate n false) j = 0 := by
  apply Nat.eq_of_testBit_eq
  intro i
  unfold wordN
  rw [natOf_bit, Nat.zero_testBit, List.getD_eq_getElem?_getD]
  by_cases hi : i < 64
  · rw [wrdB_get _ _ _ hi, List.getD_eq_getElem?_getD, List.getElem?_replicate]
    split <;> rfl
  · rw [List.getElem?_eq_none (by rw [wrdB_length]; omega)]; rfl
theorem encW_blank (xs : List Value) (n : Nat) : encW xs (blankS n).wt 0 = xs ++ ((List.range 64).map (fun _ => Value.int .u64 0) ++ [.int .i64 0]) := by
  have h : wrdC (blankS n).wt = (List.range 64).map (fun _ => Value.int .u64 0) := List.map_congr_left fun j _ => by
    show Value.int .u64 ((wordN (List.replicate n false) j : Nat) : Int) = _
    rw [word_blank]; rfl
  unfold encW
  rw [h]; rfl
set_option maxRecDepth 100000 in
theorem built55 (a b c d e f : Value) (x y : Option Addr) (n m k l : Nat) : Tryd.prog.built 55 [(0, .agg #[a, b, c, d, e, f]), (1, .slice x n m), (2, .slice y k l)] = some ([a, b, c, d, e, f, .slice x n m, .slice y k l] ++ ((List.range 64).map (fun _ => Value.int .u64 0) ++ [Value.int .i64 0])).toArray := by
  kernel_rfl
set_option maxRecDepth 100000 in
set_option maxHeartbeats 3200000 in
theorem new_any (nm tv fv iv ov cv : Value) (n : Nat) (ca : Option Addr) (cc : Nat) (hcv : cv = .slice ca n cc) (w : World) (h0 : 0 < n) (h4 : n ≤ 4096) (h2 : 2 < w.heap.size) :
    Calls Tryd.prog 23 #[.agg #[nm, tv, fv, iv, ov, cv]] w fun e w' => ∃ g g1 g2, e = .returned (.pointer (some ⟨g, 0, none⟩)) ∧ WM n g g1 g2 [nm, tv, fv, iv, ov, cv] (blankS n) w' ∧ Below w.heap.size w w' ∧ w.heap.size ≤ g ∧ w.heap.size ≤ g1 ∧ w.heap.size ≤ g2 := by
  subst hcv
  obtain ⟨w0, hw0⟩ : ∃ w0, w0 = (w.alloc (.cells #[nm, tv, fv, iv, ov, .slice ca n cc] 26)).drew := ⟨_, rfl⟩
  have hSS : Ob w0 w.heap.size 26 [nm, tv, fv, iv, ov, .slice ca n cc] := by rw [hw0]; exact heap_alloc_new w _
  have B0 : Below w.heap.size w w0 := by rw [hw0]; exact ((Below.refl _ _).alloc (Nat.le_refl _) _).drew
  have z0 : w0.heap.size = w.heap.size + 1 := by rw [hw0]; show (w.alloc _).heap.size = _; simp
  have HS : Hid (∀ W A, Ob W w.heap.size 26 [nm, tv, fv, iv, ov, .slice ca n cc] → Ob (W.alloc A) w.heap.size 26 [nm, tv, fv, iv, ov, .slice ca n cc]) := fun W A h => h.on ((Below.refl _ _).alloc (Nat.le_refl _) _) h.lt
  have M1 := mk_b n h4
  have M2 := mk_s n h4
  have hG : GoodS n (blankS n) := ⟨by simp [blankS], by simp [blankS], fun k hk => by
    have : (List.replicate n false).getD k false = true := hk
    rw [List.getD_eq_getElem?_getD, List.getElem?_replicate] at this
    split at this <;> simp at this, fun k s hk => by rw [show (blankS n).at k = none from blank_get n k] at hk; cases hk⟩
  have HB5 : Hid (∀ x y, Tryd.prog.built 55 [(0, .agg #[nm, tv, fv, iv, ov, .slice ca n cc]), (1, .slice x n n), (2, .slice y n n)] = some (encW ([nm, tv, fv, iv, ov, .slice ca n cc] ++ [.slice x n n, .slice y n n]) (blankS n).wt 0).toArray) := fun x y => by rw [encW_blank]; exact built55 _ _ _ _ _ _ x y _ _ _ _
  have hfin : Hid (∀ (g1 g2 : Nat) (W : World), Ob W g1 4 (rchC (blankS n).rs) → Ob W g2 76 (ahdC n (blankS n).rs) → w.heap.size < g1 → w.heap.size < g2 → g1 ≠ g2 → Below w.heap.size w W → ∃ a b c, (Ending.returned (.pointer (some ⟨W.heap.size, 0, none⟩)) : Ending) = .returned (.pointer (some ⟨a, 0, none⟩)) ∧ WM n a b c [nm, tv, fv, iv, ov, .slice ca n cc] (blankS n) (W.alloc (.cells (encW ([nm, tv, fv, iv, ov, .slice ca n cc] ++ [.slice (some ⟨g1, 0, none⟩) n n, .slice (some ⟨g2, 0, none⟩) n n]) (blankS n).wt 0).toArray 55)) ∧ Below w.heap.size w (W.alloc (.cells (encW ([nm, tv, fv, iv, ov, .slice ca n cc] ++ [.slice (some ⟨g1, 0, none⟩) n n, .slice (some ⟨g2, 0, none⟩) n n]) (blankS n).wt 0).toArray 55)) ∧ w.heap.size ≤ a ∧ w.heap.size ≤ b ∧ w.heap.size ≤ c) := fun g1 g2 W o1 o2 l1 l2 hne hb => by
    have := o1.lt
    have := o2.lt
    exact ⟨W.heap.size, g1, g2, rfl, ⟨Ob.new W 55 _, o1.on ((Below.refl _ _).alloc (Nat.le_refl _) _) o1.lt, o2.on ((Below.refl _ _).alloc (Nat.le_refl _) _) o2.lt, hG, h4, h0, rfl, ⟨by omega, by omega, by omega⟩, ⟨by omega, by omega, hne⟩⟩, hb.alloc hb.size _, hb.size, by omega, by omega⟩
  obtain ⟨E, hE⟩ : ∃ E : Option Addr → Option Addr → Array Value, E = fun x y => (encW ([nm, tv, fv, iv, ov, .slice ca n cc] ++ [.slice x n n, .slice y n n]) (blankS n).wt 0).toArray := ⟨_, rfl⟩
  have HB5 : Hid (∀ x y, Tryd.prog.built 55 [(0, .agg #[nm, tv, fv, iv, ov, .slice ca n cc]), (1, .slice x n n), (2, .slice y n n)] = some (E x y)) := fun x y => by rw [hE]; exact HB5.out x y
  have HE := hide hE
  clear hE
  obtain ⟨RB, hRB⟩ : ∃ RB, RB = rchC (blankS n).rs := ⟨_, rfl⟩
  obtain ⟨AB, hAB⟩ : ∃ AB, AB = ahdC n (blankS n).rs := ⟨_, rfl⟩
  rw [← hRB] at M1
  rw [← hAB] at M2
  have HRB := hide hRB
  have HAB := hide hAB
  have HW0 := hide hw0
  have HB0 := hide B0
  have HZ0 := hide z0
  clear hw0 hG hRB hAB h0 h4 h2 B0 z0
  go_enter Tryd.func23, Tryd.ntmps23
  go_wp2
  refine wp_region_held_drew (S := fun W => Ob W w.heap.size 26 [nm, tv, fv, iv, ov, .slice ca n cc]) (by kernel_rfl) (show Ob (w.alloc _) _ _ _ from heap_alloc_new w _) (fun _ => ?_)
  rw [← HW0.out]
  refine tkH 0 (.agg #[nm, tv, fv, iv, ov, .slice ca n cc]) hSS ?_ (hy := yieldsIf_load_mid (by rfl) 26 (.tmp 1) rfl w.heap.size 0 (by rfl) [nm, tv, fv, iv, ov, .slice ca n cc] _ (fun W hW => Ob.range hW 0 _ (fun j v hv => by rw [Nat.zero_add]; exact hv)) Tryd.underlying26 rfl (by kernel_rfl))
  refine tkH 1 (.pointer (some ⟨w.heap.size, 5, none⟩)) hSS ?_
  refine tkH 2 (.slice ca n cc) hSS ?_ (hy := Or.inl ⟨by rfl, fun W hW => by have := Ob.cell (show Ob W w.heap.size 26 [nm, tv, fv, iv, ov, .slice ca n cc] from hW) 5 (v := .slice ca n cc) rfl; go_simp⟩)
  refine tkH 3 (.int .i64 (n : Int)) hSS ?_
  refine tkH 5 (.pointer (some ⟨w.heap.size, 5, none⟩)) hSS ?_
  refine tkH 6 (.slice ca n cc) hSS ?_ (hy := Or.inl ⟨by rfl, fun W hW => by have := Ob.cell (show Ob W w.heap.size 26 [nm, tv, fv, iv, ov, .slice ca n cc] from hW) 5 (v := .slice ca n cc) rfl; go_simp⟩)
  refine tkH 7 (.int .i64 (n : Int)) hSS ?_
  try simp only [Act.put, List.setIfInBounds_toArray, List.set_cons_zero, List.set_cons_succ]
  refine wpAnyH_ready (rs := [4, 8]) (by kernel_rfl) (by simp) ?_
  refine AllReadyH.cons (o := { dst := some 7, op := _, type := _, pos := _, after := _, guard := none }) rfl (fun K hK => ?_) (AllReadyH.cons (o := { dst := some 11, op := _, type := _, pos := _, after := _, guard := none }) rfl (fun K hK => ?_) AllReadyH.nil)
  · rw [if_pos (by rfl)]
    refine wp_mk 31 (.tmp 6) (.tmp 6) rfl _ _ _ _ (by rfl) (by rfl) (M1 _) ?_
    refine hK.out _ _ (HS.out _ _ hSS) (fun hS1 => ?_)
    clear hK K
    try simp only [Act.put, List.setIfInBounds_toArray, List.set_cons_zero, List.set_cons_succ]
    refine rdH 8 (fun K hK => ?_)
    rw [if_pos (by rfl)]
    refine wp_mk 51 (.tmp 10) (.tmp 10) rfl _ _ _ _ (by rfl) (by rfl) (M2 _) ?_
    refine hK.out _ _ (HS.out _ _ hS1) (fun hS2 => ?_)
    clear hK K
    try simp only [Act.put, List.setIfInBounds_toArray, List.set_cons_zero, List.set_cons_succ]
    refine tkH 9 (.agg (E (some ⟨w0.heap.size, 0, none⟩) (some ⟨(w0.alloc (.cells RB.toArray 4)).heap.size, 0, none⟩))) hS2 ?_ (hy := yields_build (by rfl) 55 _ rfl _ _ (by kernel_rfl) (HB5.out _ _))
    try simp only [Act.put, List.setIfInBounds_toArray, List.set_cons_zero, List.set_cons_succ]
    refine rdH 10 (fun K hK => ?_)
    rw [if_pos (by rfl)]
    refine wp_box 55 (.tmp 12) rfl _ rfl ?_
    refine hK.out _ _ (HS.out _ _ hS2) (fun hS3 => ?_)
    clear hK K
    try simp only [Act.put, List.setIfInBounds_toArray, List.set_cons_zero, List.set_cons_succ]
    refine tkH 11 (.pointer (some ⟨((w0.alloc (.cells RB.toArray 4)).alloc (.cells AB.toArray 76)).heap.size, 0, none⟩)) hS3 ?_
    try simp only [Act.put, List.setIfInBounds_toArray, List.set_cons_zero, List.set_cons_succ]
    refine wpAnyH_done (by kernel_rfl) ?_ _
    go_wp2
    go_ret
    have hz := HZ0.out
    have := hfin.out w0.heap.size (w0.alloc (.cells RB.toArray 4)).heap.size ((w0.alloc (.cells RB.toArray 4)).alloc (.cells AB.toArray 76)) (Ob.on (T := 4) (by rw [← HRB.out]; exact Ob.new w0 4 RB) ((Below.refl _ _).alloc (Nat.le_refl _) _) (by simp)) (by rw [← HAB.out]; exact Ob.new _ 76 AB) (by first | omega | (simp; omega)) (by first | omega | (simp; omega)) (by first | omega | (simp; omega) | simp) ((HB0.out.alloc HB0.out.size _).alloc (by first | omega | (simp; omega)) _)
    rw [HE.out]
    exact this
  · rw [if_pos (by rfl)]
    refine wp_mk 51 (.tmp 10) (.tmp 10) rfl _ _ _ _ (by rfl) (by rfl) (M2 _) ?_
    refine hK.out _ _ (HS.out _ _ hSS) (fun hS1 => ?_)
    clear hK K
    try simp only [Act.put, List.setIfInBounds_toArray, List.set_cons_zero, List.set_cons_succ]
    refine rdH 4 (fun K hK => ?_)
    rw [if_pos (by rfl)]
    refine wp_mk 31 (.tmp 6) (.tmp 6) rfl _ _ _ _ (by rfl) (by rfl) (M1 _) ?_
    refine hK.out _ _ (HS.out _ _ hS1) (fun hS2 => ?_)
    clear hK K
    try simp only [Act.put, List.setIfInBounds_toArray, List.set_cons_zero, List.set_cons_succ]
    refine tkH 9 (.agg (E (some ⟨(w0.alloc (.cells AB.toArray 76)).heap.size, 0, none⟩) (some ⟨w0.heap.size, 0, none⟩))) hS2 ?_ (hy := yields_build (by rfl) 55 _ rfl _ _ (by kernel_rfl) (HB5.out _ _))
    try simp only [Act.put, List.setIfInBounds_toArray, List.set_cons_zero, List.set_cons_succ]
    refine rdH 10 (fun K hK => ?_)
    rw [if_pos (by rfl)]
    refine wp_box 55 (.tmp 12) rfl _ rfl ?_
    refine hK.out _ _ (HS.out _ _ hS2) (fun hS3 => ?_)
    clear hK K
    try simp only [Act.put, List.setIfInBounds_toArray, List.set_cons_zero, List.set_cons_succ]
    refine tkH 11 (.pointer (some ⟨((w0.alloc (.cells AB.toArray 76)).alloc (.cells RB.toArray 4)).heap.size, 0, none⟩)) hS3 ?_
    try simp only [Act.put, List.setIfInBounds_toArray, List.set_cons_zero, List.set_cons_succ]
    refine wpAnyH_done (by kernel_rfl) ?_ _
    go_wp2
    go_ret
    have hz := HZ0.out
    have := hfin.out (w0.alloc (.cells AB.toArray 76)).heap.size w0.heap.size ((w0.alloc (.cells AB.toArray 76)).alloc (.cells RB.toArray 4)) (by rw [← HRB.out]; exact Ob.new _ 4 RB) (Ob.on (T := 76) (by rw [← HAB.out]; exact Ob.new w0 76 AB) ((Below.refl _ _).alloc (Nat.le_refl _) _) (by simp)) (by first | omega | (simp; omega)) (by first | omega | (simp; omega)) (by first | omega | (simp; omega) | simp) ((HB0.out.alloc HB0.out.size _).alloc (by first | omega | (simp; omega)) _)
    rw [HE.out]
    exact this
end Go.Proofs.YtlckedionmgjjaaDoor
namespace Go.Proofs.YtlckedionmgjjaaDoor
open Go.RowKit
theorem pigeon : ∀ (n : Nat) (s : List Int), s.Nodup → (∀ c ∈ s, 0 ≤ c ∧ c < (n : Int)) → s.length ≤ n
  | 0, s, _, h => by
    cases s with
    | nil => exact Nat.le_refl 0
    | cons c r => have := h c List.mem_cons_self; omega
  | n + 1, s, hd, h => by
    have ih := pigeon n (s.erase (n : Int)) (hd.erase _) (fun c hc => by
      rw [hd.mem_erase_iff] at hc
      have := h c hc.2
      have := hc.1
      omega)
    by_cases hm : (n : Int) ∈ s
    · rw [List.length_erase_of_mem hm] at ih; omega
    · rw [List.erase_of_not_mem hm] at ih; omega
theorem line_facts (n : Nat) : ∀ (l s : List Int), s.Nodup → (∀ c ∈ s, 0 ≤ c ∧ c < (n : Int)) → lineB n s l = true → (l.reverse ++ s).Nodup ∧ ∀ c ∈ l.reverse ++ s, 0 ≤ c ∧ c < (n : Int)
  | [], s, hd, hb, _ => ⟨hd, hb⟩
  | c :: r, s, hd, hb, h => by
    have h' : (inB c n && (!(s.contains c) && lineB n (c :: s) r)) = true := h
    simp only [Bool.and_eq_true, Bool.not_eq_true'] at h'
    have hin : 0 ≤ c ∧ c < (n : Int) := by
      have := h'.1
      unfold inB at this
      simp only [Bool.and_eq_true, decide_eq_true_eq] at this
      exact this
    have hnc : c ∉ s := fun hm => by
      have := List.contains_iff_mem.2 hm
      rw [h'.2.1] at this; cases this
    have ih := line_facts n r (c :: s) (List.nodup_cons.2 ⟨hnc, hd⟩) (fun y hy => by rcases List.mem_cons.1 hy with rfl | hy; exact hin; exact hb y hy) h'.2.2
    rw [List.reverse_cons, List.append_assoc]
    exact ih
theorem line_len {n : Nat} {l : List Int} (h : lineB n [] l = true) : l.length ≤ n := by
  obtain ⟨h1, h2⟩ := line_facts n l [] List.nodup_nil (fun c hc => by cases hc) h
  have := pigeon n _ h1 h2
  simpa using this
theorem six {W : World} {Z : Nat} {a b c d e f : Value} (h : W.heap[Z]? = some (.cells #[a, b, c, d, e, f] 26 (0, 0))) : W.cell? ⟨Z, 0, none⟩ = some a ∧ W.cell? ⟨Z, 1, none⟩ = some b ∧ W.cell? ⟨Z, 2, none⟩ = some c ∧ W.cell? ⟨Z, 3, none⟩ = some d ∧ W.cell? ⟨Z, 4, none⟩ = some e ∧ W.cell? ⟨Z, 5, none⟩ = some f ∧ ∀ j, W.frozen? ⟨Z, j, none⟩ = false :=
  ⟨(Lib.cell_of_heap (j := 0) h).trans rfl, (Lib.cell_of_heap (j := 1) h).trans rfl, (Lib.cell_of_heap (j := 2) h).trans rfl, (Lib.cell_of_heap (j := 3) h).trans rfl, (Lib.cell_of_heap (j := 4) h).trans rfl, (Lib.cell_of_heap (j := 5) h).trans rfl, fun j => Lib.frozen_of_heap h j⟩
theorem owns_set {w : World} {base e size n : Nat} {v : Value} {xs : List Value} (h : w.ownsRow base e size v n xs) (b o : Nat) (hb : b < base) (u : Value) : (w.setCell ⟨b, o, none⟩ u).ownsRow base e size v n xs := by
  refine ⟨h.1, ?_⟩
  rcases h.2 with h0 | ⟨g, cap, cur, hv, hg, hh, r⟩
  · exact .inl h0
  · exact .inr ⟨g, cap, cur, hv, hg, by rw [Below.heap_setCell _ _ _ _ (by show g ≠ b; omega)]; exact hh, r⟩
/-- six cells of a block written -/
def set6 (W : World) (Z : Nat) (a b c d e f : Value) : World := (((((W.setCell ⟨Z, 0, none⟩ a).setCell ⟨Z, 1, none⟩ b).setCell ⟨Z, 2, none⟩ c).setCell ⟨Z, 3, none⟩ d).setCell ⟨Z, 4, none⟩ e).setCell ⟨Z, 5, none⟩ f
theorem owns6 {W : World} {Z base ty s n : Nat} {v a b c d e f : Value} {xs : List Value} (h : W.ownsRow base ty s v n xs) (hZ : Z < base) : (set6 W Z a b c d e f).ownsRow base ty s v n xs :=
  owns_set (owns_set (owns_set (owns_set (owns_set (owns_set h Z 0 hZ a) Z 1 hZ b) Z 2 hZ c) Z 3 hZ d) Z 4 hZ e) Z 5 hZ f
theorem below6 {w W : World} {B Z : Nat} {a b c d e f : Value} (h : Below B w W) (hZ : B ≤ Z) : Below B w (set6 W Z a b c d e f) :=
  (((((h.setCell hZ a).setCell hZ b).setCell hZ c).setCell hZ d).setCell hZ e).setCell hZ f
theorem heap6 {W : World} {Z ty : Nat} {a0 a1 a2 a3 a4 a5 a b c d e f : Value} (h : W.heap[Z]? = some (.cells #[a0, a1, a2, a3, a4, a5] ty (0, 0))) : (set6 W Z a b c d e f).heap[Z]? = some (.cells #[a, b, c, d, e, f] ty (0, 0)) :=
  (Lib.heap_setCell_same (Lib.heap_setCell_same (Lib.heap_setCell_same (Lib.heap_setCell_same (Lib.heap_setCell_same (Lib.heap_setCell_same h _) _) _) _) _) _).trans rfl
theorem inX : (Tryd.prog.info? 38).map (fun i => (i.zero, i.size, i.bytes)) = some (some (.agg #[.int .i64 0, .int .i64 0, .int .i64 0, .int .i64 0]), 4, 32) := by kernel_rfl
/-- a list's cells -/
def inC (l : List Ins) : List Value := l.flatMap fun i => [.int .i64 i.op, .int .i64 i.a, .int .i64 i.b, .int .i64 i.n]
theorem inC_one (l : List Ins) (i : Ins) : inC (l ++ [i]) = inC l ++ [.int .i64 i.op, .int .i64 i.a, .int .i64 i.b, .int .i64 i.n] := by
  unfold inC; rw [List.flatMap_append]; simp
theorem inC_length (l : List Ins) : (inC l).length = 4 * l.length := by
  unfold inC
  induction l with
  | nil => rfl
  | cons i l ih => rw [List.flatMap_cons, List.length_append, ih, List.length_cons]; simp; omega
theorem inC_get : ∀ (l : List Ins) (k : Nat) (i : Ins), l[k]? = some i → (inC l)[k * 4]? = some (.int .i64 i.op) ∧ (inC l)[k * 4 + 1]? = some (.int .i64 i.a) ∧ (inC l)[k * 4 + 2]? = some (.int .i64 i.b) ∧ (inC l)[k * 4 + 3]? = some (.int .i64 i.n)
  | [], k, i, h => by cases h
  | j :: l, 0, i, h => by obtain rfl := Option.some.inj h; exact ⟨rfl, rfl, rfl, rfl⟩
  | j :: l, k + 1, i, h => by
    have ih := inC_get l k i h
    have e : ∀ m, (inC (j :: l))[m + 4]? = (inC l)[m]? := fun m => rfl
    refine ⟨?_, ?_, ?_, ?_⟩
    · rw [show (k + 1) * 4 = k * 4 + 4 by omega, e]; exact ih.1
    · rw [show (k + 1) * 4 + 1 = k * 4 + 1 + 4 by omega, e]; exact ih.2.1
    · rw [show (k + 1) * 4 + 2 = k * 4 + 2 + 4 by omega, e]; exact ih.2.2.1
    · rw [show (k + 1) * 4 + 3 = k * 4 + 3 + 4 by omega, e]; exact ih.2.2.2
theorem ISt.nil (w : World) (c : Nat) : ISt w (.slice none 0 c) [] := ⟨none, 0, 0, c, rfl, fun h => absurd h (Nat.lt_irrefl 0), fun i x hx => by cases hx⟩
theorem ISt.of_owns {w : World} {base : Nat} {v : Value} {l : List Ins} (h : w.ownsRow base 38 4 v l.length (inC l)) : ISt w v l := by
  rcases h.2 with ⟨hv, h0⟩ | ⟨g, cap, cur, hv, hb, hg, hn, hm, hc, ht⟩
  · obtain rfl := List.eq_nil_of_length_eq_zero h0
    subst hv
    exact ISt.nil w 0
  · subst hv
    refine ⟨_, g, 0, cap, rfl, fun _ => ⟨(Array.getElem?_eq_some_iff.1 hg).1, rfl⟩, fun i x hx => ?_⟩
    have hi : i < l.length := (List.getElem?_eq_some_iff.1 hx).1
    obtain ⟨h0, h1, h2, h3⟩ := inC_get l i x hx
    rw [Nat.zero_add]
    exact ⟨(h.cellAt _ (by omega)).trans h0, (h.cellAt _ (by omega)).trans h1, (h.cellAt _ (by omega)).trans h2, (h.cellAt _ (by omega)).trans h3⟩
/-- an instruction of a machine -/
structure InB (i : Ins) : Prop where
  a0 : -9223372036854775808 ≤ i.a
  a1 : i.a ≤ 9223372036854775807
  b0 : -9223372036854775808 ≤ i.b
  b1 : i.b ≤ 9223372036854775807
  n0 : -9223372036854775808 ≤ i.n
  n1 : i.n ≤ 9223372036854775807
end Go.Proofs.YtlckedionmgjjaaDoor
