import Derived.Test.YtldjiieckddhkaaGreatDoorMg37
import Derived.Test.YtldjiieckddhkaaGreatDoorMg26
import Derived.Test.YtldjiieckddhkaaGreatDoorMg19
namespace Go.Proofs.YtldjiieckddhkaaGreatDoor
open Go.RowKit Go.Sort
structure Dm where
  d : Dv
  a : Option Addr
  n : Nat
  c : Nat
def Dm.v (x : Dm) : Value := .slice x.a x.n x.c
def dmC (l : List Dm) : List Value := l.flatMap fun x => [.int .i64 x.d.t, x.v]
theorem dmC_cons (x : Dm) (l : List Dm) : dmC (x :: l) = [.int .i64 x.d.t, x.v] ++ dmC l := rfl
theorem dmC_length : ∀ l : List Dm, (dmC l).length = l.length * 2
  | [] => rfl
  | x :: l => by rw [dmC_cons, List.length_append, dmC_length l]; show 2 + l.length * 2 = (l.length + 1) * 2; omega
theorem dmC_append (a b : List Dm) : dmC (a ++ b) = dmC a ++ dmC b := List.flatMap_append
theorem dmC_get : ∀ (l : List Dm) (i : Nat) (x), l[i]? = some x → (dmC l)[i * 2]? = some (.int .i64 x.d.t) ∧ (dmC l)[i * 2 + 1]? = some x.v
  | [], i, x, h => by cases h
  | y :: l, 0, x, h => by
    obtain rfl := Option.some.inj (show some y = some x from h)
    exact ⟨rfl, rfl⟩
  | y :: l, i + 1, x, h => by
    have := dmC_get l i x h
    rw [show (i + 1) * 2 = i * 2 + 2 from by omega]
    exact this
theorem dmC_one (l : List Dm) : ∀ u ∈ dmC l, u.oneCell' = true := fun u hu => by
  obtain ⟨x, _, hx⟩ := List.mem_flatMap.1 hu
  rcases List.mem_cons.1 hx with rfl | hx
  · rfl
  · rw [List.mem_singleton.1 hx]; rfl
def DAt (w : World) (b off : Nat) (l : List Dm) : Prop := ∀ i x, l[i]? = some x → w.cell? ⟨b, off + i * 2, none⟩ = some (.int .i64 x.d.t) ∧ w.cell? ⟨b, off + i * 2 + 1, none⟩ = some x.v
def DNs (w : World) (l : List Dm) : Prop := ∀ x ∈ l, NLst w x.v x.d.nums ∧ x.d.nums.length ≤ 500
def POut (r : Except Int Dv) (w : World) (e : Ending) (w' : World) : Prop :=
  (∃ (t er : Int) (xa : Option Addr) (xn xc : Nat), e = .returned (.tuple #[.agg #[.int .i64 t, .slice xa xn xc], .int .i64 er]) ∧ (match r with
    | .error x => er = x ∧ x ≠ 0
    | .ok d => er = 0 ∧ t = d.t ∧ NLst w' (.slice xa xn xc) d.nums)) ∧ Below w.heap.size w w'
theorem cell_set2 {W : World} {g b o : Nat} {v : Value} (h : W.cell? ⟨b, o, none⟩ = some v) (hne : b ≠ g) (x y : Value) : ((W.setCell ⟨g, 0, none⟩ x).setCell ⟨g, 1, none⟩ y).cell? ⟨b, o, none⟩ = some v := by
  have e : ∀ (W : World) (j : Nat) (u : Value), (W.setCell ⟨g, j, none⟩ u).cell? ⟨b, o, none⟩ = W.cell? ⟨b, o, none⟩ := fun W j u => World.cell?_setCell_other _ _ _ _ (fun h => hne (congrArg Addr.block h).symm)
  rw [e, e]; exact h
theorem heap_one (w : World) (o1 o2 : Obj) : ((w.alloc o1).alloc o2).heap[w.heap.size]? = some o1 ∧ ((w.alloc o1).alloc o2).heap[w.heap.size + 1]? = some o2 := by
  constructor
  · rw [Lib.alloc_old _ _ _ (by simp)]; exact heap_alloc_new w _
  · have := heap_alloc_new (w.alloc o1) o2; simpa using this
set_option maxRecDepth 100000 in
set_option maxHeartbeats 1600000 in
theorem part_num (vv : Value) (y : Pv) (ta : Option Addr) (tc : Nat) (w : World) (hk : y.k = 1) : Calls Tryz.prog 88 #[vv, .agg #[.int .i64 y.k, .int .i64 y.n, .int .i64 y.t, .string y.s, .string y.f], .slice ta 0 tc] w (POut (partD (ptV y) []) w) := by
  have HC : Hid (partD (ptV y) [] = .ok (if y.t ≠ 0 then dT y.t else ⟨0, [y.n]⟩)) := by show _ = _; unfold partD; rw [if_pos (show (ptV y).kind = 1 from hk)]; rfl
  generalize partD (ptV y) [] = C at *
  have BB : Hid (∀ o1 o2 o3, Below w.heap.size w (((w.alloc o1).alloc o2).alloc o3)) := fun o1 o2 o3 => (((Below.refl w.heap.size w).alloc (Nat.le_refl _) o1).alloc (by simp) o2).alloc (by simp; omega) o3
  have B2 : Hid (∀ o1 o2, Below w.heap.size w ((w.alloc o1).alloc o2)) := fun o1 o2 => ((Below.refl w.heap.size w).alloc (Nat.le_refl _) o1).alloc (by simp) o2
  have hk1 : (y.k == 1) = true := by rw [hk]; rfl
  by_cases h0 : y.t = 0
  · have HE : Hid (C = .ok ⟨0, [y.n]⟩) := by show _ = _; rw [HC.out, if_neg (fun h => h h0)]
    have h0' : (y.t != 0) = false := by rw [h0]; rfl
    have HN : Hid (∀ (o1 o2 : Obj), NLst (((w.alloc o1).alloc o2).alloc (.cells #[.int .i64 y.n] 2)) (.slice (some ⟨w.heap.size + 1 + 1, 0, none⟩) 1 1) [y.n]) := fun o1 o2 => by
      have h : NLst (((w.alloc o1).alloc o2).alloc (.cells #[.int .i64 y.n] 2)) (.slice (some ⟨((w.alloc o1).alloc o2).heap.size, 0, none⟩) 1 1) [y.n] :=
        NLst.of_owns (base := ((w.alloc o1).alloc o2).heap.size) (l := [y.n]) (World.ownsRow_lit (e := 2) (size := 1) _ #[.int .i64 y.n] 1 (Nat.le_refl _) (by decide) rfl)
      rw [show ((w.alloc o1).alloc o2).heap.size = w.heap.size + 1 + 1 by simp] at h
      exact h
    clear HC hk
    go_enter Tryz.func88, Tryz.ntmps88
    go_wp2
    refine bodyPost_ret (v := .tuple #[.agg #[.int .i64 0, .slice (some ⟨w.heap.size + 1 + 1, 0, none⟩) 1 1], .int .i64 0]) (by simp [results, Tryz.results88, go_sem, *]) rfl ⟨⟨0, 0, _, _, _, rfl, ?_⟩, ?_⟩
    · rw [HE.out]; exact ⟨rfl, rfl, HN.out _ _⟩
    · first | exact BB.out _ _ _ | exact set2 (BB.out _ _ _) (by omega) _ _
  · have HE : Hid (C = .ok (dT y.t)) := by show _ = _; rw [HC.out, if_pos h0]
    have h0' : (y.t != 0) = true := by rw [bne_iff_ne]; exact h0
    clear HC hk h0
    go_enter Tryz.func88, Tryz.ntmps88
    go_wp2
    refine bodyPost_ret (v := .tuple #[.agg #[.int .i64 y.t, .slice none 0 0], .int .i64 0]) (by simp [results, Tryz.results88, go_sem, *]) rfl ⟨⟨y.t, 0, _, _, _, rfl, ?_⟩, ?_⟩
    · rw [HE.out]; exact ⟨rfl, rfl, NLst.nil _⟩
    · first | exact B2.out _ _ | exact set2 (B2.out _ _) (by omega) _ _
set_option maxRecDepth 100000 in
set_option maxHeartbeats 3200000 in
theorem part_to (vv : Value) (y : Pv) (x : Dm) (kb ko tc : Nat) (w : World) (hk : y.k = 6) (hkb : kb < w.heap.size) (hA : DAt w kb ko [x]) (hN : DNs w [x]) : Calls Tryz.prog 88 #[vv, .agg #[.int .i64 y.k, .int .i64 y.n, .int .i64 y.t, .string y.s, .string y.f], .slice (some ⟨kb, ko, none⟩) 1 tc] w (POut (partD (ptV y) [x.d]) w) := by
  have HC : Hid (partD (ptV y) [x.d] = if cntD x.d true ≠ 0 then .error (cntD x.d true) else .ok (dT y.t)) := by
    show _ = _; unfold partD; rw [if_neg (show ¬ (ptV y).kind = 1 by rw [show (ptV y).kind = 6 from hk]; decide), if_pos (show (ptV y).kind = 6 from hk)]; rfl
  generalize partD (ptV y) [x.d] = C at *
  obtain ⟨c00, c01⟩ := hA 0 x rfl
  obtain ⟨hx, hxl⟩ := hN x (by simp)
  simp only [Nat.zero_mul, Nat.add_zero] at c00 c01
  obtain ⟨w0, hw0⟩ : ∃ w0, w0 = ((w.alloc (.cells #[.int .i64 y.k, .int .i64 y.n, .int .i64 y.t, .string y.s, .string y.f] 38)).alloc (.cells #[.int .i64 0, .slice none 0 0] 85)) := ⟨_, rfl⟩
  have B0 : Hid (Below w.heap.size w w0) := by rw [hw0]; exact ((Below.refl _ _).alloc (Nat.le_refl _) _).alloc (by simp) _
  have X0 := (heap_one w (.cells #[.int .i64 y.k, .int .i64 y.n, .int .i64 y.t, .string y.s, .string y.f] 38) (.cells #[.int .i64 0, .slice none 0 0] 85)).1
  have X1 := (heap_one w (.cells #[.int .i64 y.k, .int .i64 y.n, .int .i64 y.t, .string y.s, .string y.f] 38) (.cells #[.int .i64 0, .slice none 0 0] 85)).2
  rw [← hw0] at X0 X1
  have z0 : w0.heap.size = w.heap.size + 2 := by rw [hw0]; simp
  have HSS : Hid (∀ W, Below w0.heap.size w0 W → W.cell? ⟨w.heap.size, 2, none⟩ = some (.int .i64 y.t) ∧ W.cell? ⟨kb, ko, none⟩ = some (.int .i64 x.d.t) ∧ W.cell? ⟨kb, ko + 1, none⟩ = some (.slice x.a x.n x.c)) := fun W hb => by
    refine ⟨?_, ?_, ?_⟩
    · exact (hb.cell (p := ⟨w.heap.size, 2, none⟩) (by show w.heap.size < _; omega)).trans ((Lib.cell_of_heap (j := 2) X0).trans rfl)
    · exact (hb.cell (p := ⟨kb, ko, none⟩) (by show kb < _; omega)).trans ((B0.out.cell (p := ⟨kb, ko, none⟩) hkb).trans c00)
    · exact (hb.cell (p := ⟨kb, ko + 1, none⟩) (by show kb < _; omega)).trans ((B0.out.cell (p := ⟨kb, ko + 1, none⟩) hkb).trans c01)
  have HSX : Hid (∀ (W : World) (p q : Value), (W.cell? ⟨w.heap.size, 2, none⟩ = some (.int .i64 y.t) ∧ W.cell? ⟨kb, ko, none⟩ = some (.int .i64 x.d.t) ∧ W.cell? ⟨kb, ko + 1, none⟩ = some (.slice x.a x.n x.c)) → (((W.setCell ⟨w.heap.size + 1, 0, none⟩ p).setCell ⟨w.heap.size + 1, 1, none⟩ q).cell? ⟨w.heap.size, 2, none⟩ = some (.int .i64 y.t) ∧ ((W.setCell ⟨w.heap.size + 1, 0, none⟩ p).setCell ⟨w.heap.size + 1, 1, none⟩ q).cell? ⟨kb, ko, none⟩ = some (.int .i64 x.d.t) ∧ ((W.setCell ⟨w.heap.size + 1, 0, none⟩ p).setCell ⟨w.heap.size + 1, 1, none⟩ q).cell? ⟨kb, ko + 1, none⟩ = some (.slice x.a x.n x.c))) := fun W p q h => by
    obtain ⟨g0, g1, g2⟩ := h
    exact ⟨cell_set2 g0 (by omega) _ _, cell_set2 g1 (by omega) _ _, cell_set2 g2 (by omega) _ _⟩
  have Nx : NLst w0.drew (.slice x.a x.n x.c) x.d.nums := (hx.on B0.out).on (Below.refl _ _).drew
  have m1 := counts_any x.d (.slice x.a x.n x.c) w0.drew Nx (by omega)
  have HX1 := hide X1
  have Z0 := hide z0
  have hk1 : (y.k == 1) = false := by rw [hk]; rfl
  have hk6 : (y.k == 6) = true := by rw [hk]; rfl
  have hk5 : (y.k == 5) = false := by rw [hk]; rfl
  have HW := hide hw0
  have w2 : IntKind.i64.wrap 0 = 0 := by decide
  have w3 : IntKind.i64.wrap 1 = 1 := by decide
  clear hk hA hN X0 X1 z0 hw0 hkb c00 c01 hx hxl Nx
  go_enter Tryz.func88, Tryz.ntmps88
  go_wp2_with fail
  rw [← HW.out]
  have b0 : Below w0.heap.size w0 w0.drew := (Below.refl _ _).drew
  refine wp_region_held (S := fun W => W.cell? ⟨w.heap.size, 2, none⟩ = some (.int .i64 y.t) ∧ W.cell? ⟨kb, ko, none⟩ = some (.int .i64 x.d.t) ∧ W.cell? ⟨kb, ko + 1, none⟩ = some (.slice x.a x.n x.c)) (by kernel_rfl) ?_
  show wpAnyH _ _ _ _ _ _ _ _ w0.drew
  refine tkH 0 (.pointer (some ⟨w.heap.size, 2, none⟩)) (HSS.out _ b0) ?_
  refine tkH 1 (.int .i64 y.t) (HSS.out _ b0) ?_
  refine tkH 2 (.agg #[.int .i64 y.t, .slice none 0 0]) (HSS.out _ b0) ?_
  refine tkH 3 (.slice (some ⟨kb, ko, none⟩) 1 tc) (HSS.out _ b0) ?_
  refine tkH 4 (.pointer (some ⟨kb, ko, none⟩)) (HSS.out _ b0) ?_
  refine tkH 5 (.agg #[.int .i64 x.d.t, .slice x.a x.n x.c]) (HSS.out _ b0) ?_
  try simp only [Act.put, List.setIfInBounds_toArray, List.set_cons_zero, List.set_cons_succ]
  refine rdH 6 (fun K hK => ?_)
  go_simp
  go_at_call 122
  refine m1.mono ?_
  rintro e w1 ⟨rfl, hb1⟩
  have b1 : Below w0.heap.size w0 w1 := b0.trans hb1
  refine hK.out _ _ (HSS.out _ b1) (fun _ => ?_)
  clear hK K
  have q1 := (b1.block (w.heap.size + 1) (by rw [Z0.out]; omega)).trans HX1.out
  have r0 : w1.cell? ⟨w.heap.size + 1, 0, none⟩ = some (.int .i64 0) := by rw [Lib.cell_of_heap q1]; rfl
  have r1 : w1.cell? ⟨w.heap.size + 1, 1, none⟩ = some (.slice none 0 0) := by rw [Lib.cell_of_heap q1]; rfl
  have rf : ∀ j, w1.frozen? ⟨w.heap.size + 1, j, none⟩ = false := fun j => Lib.frozen_of_heap q1 j
  have BW : Hid (∀ p q, Below w.heap.size w ((w1.setCell ⟨w.heap.size + 1, 0, none⟩ p).setCell ⟨w.heap.size + 1, 1, none⟩ q)) := fun p q => set2 (B0.out.trans (b1.mono B0.out.size)) (by omega) _ _
  try simp only [Act.put, List.setIfInBounds_toArray, List.set_cons_zero, List.set_cons_succ]
  refine rdH 7 (fun K hK => ?_)
  go_simp
  refine hK.out _ _ (HSX.out _ _ _ (HSS.out _ b1)) (fun _ => ?_)
  clear hK K
  try simp only [Act.put, List.setIfInBounds_toArray, List.set_cons_zero, List.set_cons_succ]
  refine rdH 8 (fun K hK => ?_)
  go_simp
  refine hK.out _ _ (HSX.out _ _ _ (HSS.out _ b1)) (fun _ => ?_)
  clear hK K
  try simp only [Act.put, List.setIfInBounds_toArray, List.set_cons_zero, List.set_cons_succ]
  refine wpAnyH_done (by kernel_rfl) ?_ _
  clear HSS HSX
  generalize cntD x.d true = E at *
  go_wp2
  refine bodyPost_ret (v := .tuple #[.agg #[.int .i64 y.t, .slice none 0 0], .int .i64 E]) (by simp [results, Tryz.results88, go_sem, *]) rfl ⟨⟨y.t, E, _, _, _, rfl, ?_⟩, BW.out _ _⟩
  by_cases hE : E = 0
  · rw [HC.out, if_neg (fun h => h hE)]; exact ⟨hE, rfl, NLst.nil _⟩
  · rw [HC.out, if_pos hE]; exact ⟨rfl, hE⟩
set_option maxRecDepth 100000 in
set_option maxHeartbeats 3200000 in
theorem part_op1 (vv : Value) (y : Pv) (x : Dm) (kb ko tc : Nat) (w : World) (hk : y.k = 5) (hkb : kb < w.heap.size) (hA : DAt w kb ko [x]) (hN : DNs w [x]) : Calls Tryz.prog 88 #[vv, .agg #[.int .i64 y.k, .int .i64 y.n, .int .i64 y.t, .string y.s, .string y.f], .slice (some ⟨kb, ko, none⟩) 1 tc] w (POut (partD (ptV y) [x.d]) w) := by
  have HC : Hid (partD (ptV y) [x.d] = oneD y.n x.d) := by
    show _ = _; unfold partD; rw [if_neg (show ¬ (ptV y).kind = 1 by rw [show (ptV y).kind = 5 from hk]; decide), if_neg (show ¬ (ptV y).kind = 6 by rw [show (ptV y).kind = 5 from hk]; decide)]; rfl
  generalize partD (ptV y) [x.d] = C at *
  obtain ⟨c00, c01⟩ := hA 0 x rfl
  obtain ⟨hx, hxl⟩ := hN x (by simp)
  simp only [Nat.zero_mul, Nat.add_zero] at c00 c01
  obtain ⟨w0, hw0⟩ : ∃ w0, w0 = ((w.alloc (.cells #[.int .i64 y.k, .int .i64 y.n, .int .i64 y.t, .string y.s, .string y.f] 38)).alloc (.cells #[.int .i64 0, .slice none 0 0] 85)) := ⟨_, rfl⟩
  have B0 : Hid (Below w.heap.size w w0) := by rw [hw0]; exact ((Below.refl _ _).alloc (Nat.le_refl _) _).alloc (by simp) _
  have X0 := (heap_one w (.cells #[.int .i64 y.k, .int .i64 y.n, .int .i64 y.t, .string y.s, .string y.f] 38) (.cells #[.int .i64 0, .slice none 0 0] 85)).1
  have X1 := (heap_one w (.cells #[.int .i64 y.k, .int .i64 y.n, .int .i64 y.t, .string y.s, .string y.f] 38) (.cells #[.int .i64 0, .slice none 0 0] 85)).2
  rw [← hw0] at X0 X1
  have z0 : w0.heap.size = w.heap.size + 2 := by rw [hw0]; simp
  have HSS : Hid (∀ W, Below w0.heap.size w0 W → W.cell? ⟨w.heap.size, 1, none⟩ = some (.int .i64 y.n) ∧ W.cell? ⟨kb, ko, none⟩ = some (.int .i64 x.d.t) ∧ W.cell? ⟨kb, ko + 1, none⟩ = some (.slice x.a x.n x.c)) := fun W hb => by
    refine ⟨?_, ?_, ?_⟩
    · exact (hb.cell (p := ⟨w.heap.size, 1, none⟩) (by show w.heap.size < _; omega)).trans ((Lib.cell_of_heap (j := 1) X0).trans rfl)
    · exact (hb.cell (p := ⟨kb, ko, none⟩) (by show kb < _; omega)).trans ((B0.out.cell (p := ⟨kb, ko, none⟩) hkb).trans c00)
    · exact (hb.cell (p := ⟨kb, ko + 1, none⟩) (by show kb < _; omega)).trans ((B0.out.cell (p := ⟨kb, ko + 1, none⟩) hkb).trans c01)
  have HSX : Hid (∀ (W : World) (p q : Value), (W.cell? ⟨w.heap.size, 1, none⟩ = some (.int .i64 y.n) ∧ W.cell? ⟨kb, ko, none⟩ = some (.int .i64 x.d.t) ∧ W.cell? ⟨kb, ko + 1, none⟩ = some (.slice x.a x.n x.c)) → (((W.setCell ⟨w.heap.size + 1, 0, none⟩ p).setCell ⟨w.heap.size + 1, 1, none⟩ q).cell? ⟨w.heap.size, 1, none⟩ = some (.int .i64 y.n) ∧ ((W.setCell ⟨w.heap.size + 1, 0, none⟩ p).setCell ⟨w.heap.size + 1, 1, none⟩ q).cell? ⟨kb, ko, none⟩ = some (.int .i64 x.d.t) ∧ ((W.setCell ⟨w.heap.size + 1, 0, none⟩ p).setCell ⟨w.heap.size + 1, 1, none⟩ q).cell? ⟨kb, ko + 1, none⟩ = some (.slice x.a x.n x.c))) := fun W p q h => by
    obtain ⟨g0, g1, g2⟩ := h
    exact ⟨cell_set2 g0 (by omega) _ _, cell_set2 g1 (by omega) _ _, cell_set2 g2 (by omega) _ _⟩
  have Nx : NLst w0.drew (.slice x.a x.n x.c) x.d.nums := (hx.on B0.out).on (Below.refl _ _).drew
  have m1 := one9_any y.n x.d (.slice x.a x.n x.c) w0.drew Nx
  have HX1 := hide X1
  have Z0 := hide z0
  have hk1 : (y.k == 1) = false := by rw [hk]; rfl
  have hk6 : (y.k == 6) = false := by rw [hk]; rfl
  have hk5 : (y.k == 5) = true := by rw [hk]; rfl
  have HW := hide hw0
  have w2 : IntKind.i64.wrap 0 = 0 := by decide
  have w3 : IntKind.i64.wrap 1 = 1 := by decide
  clear hk hA hN X0 X1 z0 hw0 hkb c00 c01 hx hxl Nx
  go_enter Tryz.func88, Tryz.ntmps88
  go_wp2_with fail
  rw [← HW.out]
  have b0 : Below w0.heap.size w0 w0.drew := (Below.refl _ _).drew
  refine wp_region_held (S := fun W => W.cell? ⟨w.heap.size, 1, none⟩ = some (.int .i64 y.n) ∧ W.cell? ⟨kb, ko, none⟩ = some (.int .i64 x.d.t) ∧ W.cell? ⟨kb, ko + 1, none⟩ = some (.slice x.a x.n x.c)) (by kernel_rfl) ?_
  show wpAnyH _ _ _ _ _ _ _ _ w0.drew
  refine tkH 0 (.pointer (some ⟨w.heap.size, 1, none⟩)) (HSS.out _ b0) ?_
  refine tkH 1 (.int .i64 y.n) (HSS.out _ b0) ?_
  refine tkH 2 (.slice (some ⟨kb, ko, none⟩) 1 tc) (HSS.out _ b0) ?_
  refine tkH 3 (.pointer (some ⟨kb, ko, none⟩)) (HSS.out _ b0) ?_
  refine tkH 4 (.agg #[.int .i64 x.d.t, .slice x.a x.n x.c]) (HSS.out _ b0) ?_
  try simp only [Act.put, List.setIfInBounds_toArray, List.set_cons_zero, List.set_cons_succ]
  refine rdH 5 (fun K hK => ?_)
  go_simp
  go_at_call 123
  refine m1.mono ?_
  rintro e w1 ⟨⟨t, er, xa, xn, xc, rfl, hm⟩, hb1⟩
  have b1 : Below w0.heap.size w0 w1 := b0.trans hb1
  refine hK.out _ _ (HSS.out _ b1) (fun _ => ?_)
  clear hK K
  have q1 := (b1.block (w.heap.size + 1) (by rw [Z0.out]; omega)).trans HX1.out
  have r0 : w1.cell? ⟨w.heap.size + 1, 0, none⟩ = some (.int .i64 0) := by rw [Lib.cell_of_heap q1]; rfl
  have r1 : w1.cell? ⟨w.heap.size + 1, 1, none⟩ = some (.slice none 0 0) := by rw [Lib.cell_of_heap q1]; rfl
  have rf : ∀ j, w1.frozen? ⟨w.heap.size + 1, j, none⟩ = false := fun j => Lib.frozen_of_heap q1 j
  have BW : Hid (∀ p q, Below w.heap.size w ((w1.setCell ⟨w.heap.size + 1, 0, none⟩ p).setCell ⟨w.heap.size + 1, 1, none⟩ q)) := fun p q => set2 (B0.out.trans (b1.mono B0.out.size)) (by omega) _ _
  try simp only [Act.put, List.setIfInBounds_toArray, List.set_cons_zero, List.set_cons_succ]
  refine tkH 6 (.agg #[.int .i64 t, .slice xa xn xc]) (HSS.out _ b1) ?_
  refine tkH 7 (.int .i64 er) (HSS.out _ b1) ?_
  try simp only [Act.put, List.setIfInBounds_toArray, List.set_cons_zero, List.set_cons_succ]
  refine rdH 8 (fun K hK => ?_)
  go_simp
  refine hK.out _ _ (HSX.out _ _ _ (HSS.out _ b1)) (fun _ => ?_)
  clear hK K
  try simp only [Act.put, List.setIfInBounds_toArray, List.set_cons_zero, List.set_cons_succ]
  refine rdH 9 (fun K hK => ?_)
  go_simp
  refine hK.out _ _ (HSX.out _ _ _ (HSS.out _ b1)) (fun _ => ?_)
  clear hK K
  try simp only [Act.put, List.setIfInBounds_toArray, List.set_cons_zero, List.set_cons_succ]
  refine wpAnyH_done (by kernel_rfl) ?_ _
  clear HSS HSX
  have HD : Hid (∀ p q, match C with
    | .error z => er = z ∧ z ≠ 0
    | .ok d => er = 0 ∧ t = d.t ∧ NLst ((w1.setCell ⟨w.heap.size + 1, 0, none⟩ p).setCell ⟨w.heap.size + 1, 1, none⟩ q) (.slice xa xn xc) d.nums) := fun p q => by
    rw [HC.out]
    revert hm
    cases oneD y.n x.d with
    | error z => exact fun hm => ⟨hm.1, hm.2.1⟩
    | ok d => exact fun hm => ⟨hm.1, hm.2.1, hm.2.2.set q1 (by decide) _ _⟩
  clear hm HC
  go_wp2
  refine bodyPost_ret (v := .tuple #[.agg #[.int .i64 t, .slice xa xn xc], .int .i64 er]) (by simp [results, Tryz.results88, go_sem, *]) rfl ⟨⟨t, er, _, _, _, rfl, HD.out _ _⟩, BW.out _ _⟩
set_option maxRecDepth 100000 in
set_option maxHeartbeats 3200000 in
theorem part_op2 (vv : Value) (y : Pv) (x z : Dm) (kb ko tc : Nat) (w : World) (hk : y.k = 5) (hkb : kb < w.heap.size) (hA : DAt w kb ko [x, z]) (hN : DNs w [x, z]) : Calls Tryz.prog 88 #[vv, .agg #[.int .i64 y.k, .int .i64 y.n, .int .i64 y.t, .string y.s, .string y.f], .slice (some ⟨kb, ko, none⟩) 2 tc] w (POut (partD (ptV y) [x.d, z.d]) w) := by
  have HC : Hid (partD (ptV y) [x.d, z.d] = twoD y.n x.d z.d) := by
    show _ = _; unfold partD; rw [if_neg (show ¬ (ptV y).kind = 1 by rw [show (ptV y).kind = 5 from hk]; decide), if_neg (show ¬ (ptV y).kind = 6 by rw [show (ptV y).kind = 5 from hk]; decide)]; rfl
  generalize partD (ptV y) [x.d, z.d] = C at *
  obtain ⟨c00, c01⟩ := hA 0 x rfl
  obtain ⟨hx, hxl⟩ := hN x (by simp)
  obtain ⟨c10, c11⟩ := hA 1 z rfl
  obtain ⟨hz, hzl⟩ := hN z (by simp)
  simp only [Nat.zero_mul, Nat.add_zero, Nat.one_mul] at c00 c01 c10 c11
  obtain ⟨w0, hw0⟩ : ∃ w0, w0 = ((w.alloc (.cells #[.int .i64 y.k, .int .i64 y.n, .int .i64 y.t, .string y.s, .string y.f] 38)).alloc (.cells #[.int .i64 0, .slice none 0 0] 85)) := ⟨_, rfl⟩
  have B0 : Hid (Below w.heap.size w w0) := by rw [hw0]; exact ((Below.refl _ _).alloc (Nat.le_refl _) _).alloc (by simp) _
  have X0 := (heap_one w (.cells #[.int .i64 y.k, .int .i64 y.n, .int .i64 y.t, .string y.s, .string y.f] 38) (.cells #[.int .i64 0, .slice none 0 0] 85)).1
  have X1 := (heap_one w (.cells #[.int .i64 y.k, .int .i64 y.n, .int .i64 y.t, .string y.s, .string y.f] 38) (.cells #[.int .i64 0, .slice none 0 0] 85)).2
  rw [← hw0] at X0 X1
  have z0 : w0.heap.size = w.heap.size + 2 := by rw [hw0]; simp
  have HSS : Hid (∀ W, Below w0.heap.size w0 W → W.cell? ⟨w.heap.size, 1, none⟩ = some (.int .i64 y.n) ∧ W.cell? ⟨kb, ko, none⟩ = some (.int .i64 x.d.t) ∧ W.cell? ⟨kb, ko + 1, none⟩ = some (.slice x.a x.n x.c) ∧ W.cell? ⟨kb, ko + 2, none⟩ = some (.int .i64 z.d.t) ∧ W.cell? ⟨kb, ko + 2 + 1, none⟩ = some (.slice z.a z.n z.c)) := fun W hb => by
    refine ⟨?_, ?_, ?_, ?_, ?_⟩
    · exact (hb.cell (p := ⟨w.heap.size, 1, none⟩) (by show w.heap.size < _; omega)).trans ((Lib.cell_of_heap (j := 1) X0).trans rfl)
    · exact (hb.cell (p := ⟨kb, ko, none⟩) (by show kb < _; omega)).trans ((B0.out.cell (p := ⟨kb, ko, none⟩) hkb).trans c00)
    · exact (hb.cell (p := ⟨kb, ko + 1, none⟩) (by show kb < _; omega)).trans ((B0.out.cell (p := ⟨kb, ko + 1, none⟩) hkb).trans c01)
    · exact (hb.cell (p := ⟨kb, ko + 2, none⟩) (by show kb < _; omega)).trans ((B0.out.cell (p := ⟨kb, ko + 2, none⟩) hkb).trans c10)
    · exact (hb.cell (p := ⟨kb, ko + 2 + 1, none⟩) (by show kb < _; omega)).trans ((B0.out.cell (p := ⟨kb, ko + 2 + 1, none⟩) hkb).trans c11)
  have HSX : Hid (∀ (W : World) (p q : Value), (W.cell? ⟨w.heap.size, 1, none⟩ = some (.int .i64 y.n) ∧ W.cell? ⟨kb, ko, none⟩ = some (.int .i64 x.d.t) ∧ W.cell? ⟨kb, ko + 1, none⟩ = some (.slice x.a x.n x.c) ∧ W.cell? ⟨kb, ko + 2, none⟩ = some (.int .i64 z.d.t) ∧ W.cell? ⟨kb, ko + 2 + 1, none⟩ = some (.slice z.a z.n z.c)) → (((W.setCell ⟨w.heap.size + 1, 0, none⟩ p).setCell ⟨w.heap.size + 1, 1, none⟩ q).cell? ⟨w.heap.size, 1, none⟩ = some (.int .i64 y.n) ∧ ((W.setCell ⟨w.heap.size + 1, 0, none⟩ p).setCell ⟨w.heap.size + 1, 1, none⟩ q).cell? ⟨kb, ko, none⟩ = some (.int .i64 x.d.t) ∧ ((W.setCell ⟨w.heap.size + 1, 0, none⟩ p).setCell ⟨w.heap.size + 1, 1, none⟩ q).cell? ⟨kb, ko + 1, none⟩ = some (.slice x.a x.n x.c) ∧ ((W.setCell ⟨w.heap.size + 1, 0, none⟩ p).setCell ⟨w.heap.size + 1, 1, none⟩ q).cell? ⟨kb, ko + 2, none⟩ = some (.int .i64 z.d.t) ∧ ((W.setCell ⟨w.heap.size + 1, 0, none⟩ p).setCell ⟨w.heap.size + 1, 1, none⟩ q).cell? ⟨kb, ko + 2 + 1, none⟩ = some (.slice z.a z.n z.c))) := fun W p q h => by
    obtain ⟨g0, g1, g2, g3, g4⟩ := h
    exact ⟨cell_set2 g0 (by omega) _ _, cell_set2 g1 (by omega) _ _, cell_set2 g2 (by omega) _ _, cell_set2 g3 (by omega) _ _, cell_set2 g4 (by omega) _ _⟩
  have Nx : NLst w0.drew (.slice x.a x.n x.c) x.d.nums := (hx.on B0.out).on (Below.refl _ _).drew
  have Nz : NLst w0.drew (.slice z.a z.n z.c) z.d.nums := (hz.on B0.out).on (Below.refl _ _).drew
  have m1 := two9_any y.n x.d z.d (.slice x.a x.n x.c) (.slice z.a z.n z.c) w0.drew Nx Nz (by omega)
  have HX1 := hide X1
  have Z0 := hide z0
  have hk1 : (y.k == 1) = false := by rw [hk]; rfl
  have hk6 : (y.k == 6) = false := by rw [hk]; rfl
  have hk5 : (y.k == 5) = true := by rw [hk]; rfl
  have HW := hide hw0
  have w2 : IntKind.i64.wrap 0 = 0 := by decide
  have w3 : IntKind.i64.wrap 1 = 1 := by decide
  clear hk hA hN X0 X1 z0 hw0 hkb c00 c01 hx hxl Nx c10 c11 hz hzl Nz
  go_enter Tryz.func88, Tryz.ntmps88
  go_wp2_with fail
  rw [← HW.out]
  have b0 : Below w0.heap.size w0 w0.drew := (Below.refl _ _).drew
  refine wp_region_held (S := fun W => W.cell? ⟨w.heap.size, 1, none⟩ = some (.int .i64 y.n) ∧ W.cell? ⟨kb, ko, none⟩ = some (.int .i64 x.d.t) ∧ W.cell? ⟨kb, ko + 1, none⟩ = some (.slice x.a x.n x.c) ∧ W.cell? ⟨kb, ko + 2, none⟩ = some (.int .i64 z.d.t) ∧ W.cell? ⟨kb, ko + 2 + 1, none⟩ = some (.slice z.a z.n z.c)) (by kernel_rfl) ?_
  show wpAnyH _ _ _ _ _ _ _ _ w0.drew
  refine tkH 0 (.pointer (some ⟨w.heap.size, 1, none⟩)) (HSS.out _ b0) ?_
  refine tkH 1 (.int .i64 y.n) (HSS.out _ b0) ?_
  refine tkH 2 (.slice (some ⟨kb, ko, none⟩) 2 tc) (HSS.out _ b0) ?_
  refine tkH 3 (.pointer (some ⟨kb, ko, none⟩)) (HSS.out _ b0) ?_
  refine tkH 4 (.agg #[.int .i64 x.d.t, .slice x.a x.n x.c]) (HSS.out _ b0) ?_
  refine tkH 5 (.slice (some ⟨kb, ko, none⟩) 2 tc) (HSS.out _ b0) ?_
  refine tkH 6 (.pointer (some ⟨kb, ko + 2, none⟩)) (HSS.out _ b0) ?_
  refine tkH 7 (.agg #[.int .i64 z.d.t, .slice z.a z.n z.c]) (HSS.out _ b0) ?_
  try simp only [Act.put, List.setIfInBounds_toArray, List.set_cons_zero, List.set_cons_succ]
  refine rdH 8 (fun K hK => ?_)
  go_simp
  go_at_call 124
  refine m1.mono ?_
  rintro e w1 ⟨⟨t, er, xa, xn, xc, rfl, hm⟩, hb1⟩
  have b1 : Below w0.heap.size w0 w1 := b0.trans hb1
  refine hK.out _ _ (HSS.out _ b1) (fun _ => ?_)
  clear hK K
  have q1 := (b1.block (w.heap.size + 1) (by rw [Z0.out]; omega)).trans HX1.out
  have r0 : w1.cell? ⟨w.heap.size + 1, 0, none⟩ = some (.int .i64 0) := by rw [Lib.cell_of_heap q1]; rfl
  have r1 : w1.cell? ⟨w.heap.size + 1, 1, none⟩ = some (.slice none 0 0) := by rw [Lib.cell_of_heap q1]; rfl
  have rf : ∀ j, w1.frozen? ⟨w.heap.size + 1, j, none⟩ = false := fun j => Lib.frozen_of_heap q1 j
  have BW : Hid (∀ p q, Below w.heap.size w ((w1.setCell ⟨w.heap.size + 1, 0, none⟩ p).setCell ⟨w.heap.size + 1, 1, none⟩ q)) := fun p q => set2 (B0.out.trans (b1.mono B0.out.size)) (by omega) _ _
  try simp only [Act.put, List.setIfInBounds_toArray, List.set_cons_zero, List.set_cons_succ]
  refine tkH 9 (.agg #[.int .i64 t, .slice xa xn xc]) (HSS.out _ b1) ?_
  refine tkH 10 (.int .i64 er) (HSS.out _ b1) ?_
  try simp only [Act.put, List.setIfInBounds_toArray, List.set_cons_zero, List.set_cons_succ]
  refine rdH 11 (fun K hK => ?_)
  go_simp
  refine hK.out _ _ (HSX.out _ _ _ (HSS.out _ b1)) (fun _ => ?_)
  clear hK K
  try simp only [Act.put, List.setIfInBounds_toArray, List.set_cons_zero, List.set_cons_succ]
  refine rdH 12 (fun K hK => ?_)
  go_simp
  refine hK.out _ _ (HSX.out _ _ _ (HSS.out _ b1)) (fun _ => ?_)
  clear hK K
  try simp only [Act.put, List.setIfInBounds_toArray, List.set_cons_zero, List.set_cons_succ]
  refine wpAnyH_done (by kernel_rfl) ?_ _
  clear HSS HSX
  have HD : Hid (∀ p q, match C with
    | .error z => er = z ∧ z ≠ 0
    | .ok d => er = 0 ∧ t = d.t ∧ NLst ((w1.setCell ⟨w.heap.size + 1, 0, none⟩ p).setCell ⟨w.heap.size + 1, 1, none⟩ q) (.slice xa xn xc) d.nums) := fun p q => by
    rw [HC.out]
    revert hm
    cases twoD y.n x.d z.d with
    | error z => exact fun hm => ⟨hm.1, hm.2.1⟩
    | ok d => exact fun hm => ⟨hm.1, hm.2.1, hm.2.2.set q1 (by decide) _ _⟩
  clear hm HC
  go_wp2
  refine bodyPost_ret (v := .tuple #[.agg #[.int .i64 t, .slice xa xn xc], .int .i64 er]) (by simp [results, Tryz.results88, go_sem, *]) rfl ⟨⟨t, er, _, _, _, rfl, HD.out _ _⟩, BW.out _ _⟩
end Go.Proofs.YtldjiieckddhkaaGreatDoor
