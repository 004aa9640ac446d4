/- The walk of NumRings. -/
import Derived.Test.YtffeigdgleohlaaDoorWorksW
import Derived.Test.YtffeigdgleohlaaDoorKindW
namespace Go.Proofs.YtffeigdgleohlaaDoor
open Go.RowKit
theorem below_drewN {B : Nat} {a w : World} (h : Below B a w) (n : Nat) : Below B a (w.drewN n) := ⟨h.os, h.tape, h.output, h.size, h.block⟩
theorem froz (w : World) (g o : Nat) (c : Array Value) (t : TypeId) (h : w.heap[g]? = some (.cells c t (0, 0))) : w.frozen? ⟨g, o, none⟩ = false := by simp [World.frozen?, h]
theorem ring_facts {T A B C : Int} (hT : T = 2 ∨ T = 3) (hA : fitB T A = true) (hB : fitB T B = true) (hC : fitB T C = true) :
    ∃ ab m abc bc mc bcm d ac x, twoN 1 T A B = (ab, 0) ∧ twoN 1 T B A = (ab, 0) ∧ twoN 3 T A B = (m, 0) ∧ twoN 3 T B A = (m, 0) ∧ twoN 1 T ab C = (abc, 0) ∧ twoN 1 T B C = (bc, 0) ∧ twoN 1 T A bc = (abc, 0) ∧
      twoN 3 T m C = (mc, 0) ∧ twoN 3 T B C = (bcm, 0) ∧ twoN 3 T A bcm = (mc, 0) ∧ twoN 3 T A bc = (d, 0) ∧ twoN 3 T A C = (ac, 0) ∧ twoN 1 T m ac = (d, 0) ∧ twoN 2 T ab B = (A, 0) ∧ twoN 8 T A B = (x, 0) ∧ twoN 8 T x B = (A, 0) := by
  obtain ⟨ht, h1⟩ := whole_ty hT
  have f := fun n => fit_wr ht n
  refine ⟨wrN T (A + B), wrN T (A * B), wrN T (wrN T (A + B) + C), wrN T (B + C), wrN T (wrN T (A * B) * C), wrN T (B * C), wrN T (A * wrN T (B + C)), wrN T (A * C), wrN T (bits .xor .i64 A B), ?_, ?_, ?_, ?_, ?_, ?_, ?_, ?_, ?_, ?_, ?_, ?_, ?_, ?_, ?_, ?_⟩
  · exact two_add hT hA hB
  · rw [two_add hT hB hA, Int.add_comm]
  · exact two_mul hT hA hB
  · rw [two_mul hT hB hA, Int.mul_comm]
  · exact two_add hT (f _) hC
  · exact two_add hT hB hC
  · rw [two_add hT hA (f _), ring_assoc_add h1]
  · exact two_mul hT (f _) hC
  · exact two_mul hT hB hC
  · rw [two_mul hT hA (f _), ring_assoc_mul h1]
  · exact two_mul hT hA (f _)
  · exact two_mul hT hA hC
  · rw [two_add hT (f _) (f _), ring_over h1]
  · rw [two_sub hT (f _) hB, ring_back h1 hA]
  · exact two_xor hT hA hB
  · rw [two_xor hT (f _) hB, xor_back h1 hA]
/-- what stands behind each call: the type's cell, the table -/
def RI (w : World) (T : Int) (W : World) : Prop := Below w.heap.size w W ∧ Glo W ∧ W.cell? ⟨w.heap.size, 0, none⟩ = some (.int .i64 T)
theorem RI.step {w : World} {T : Int} {W W' : World} (h : RI w T W) (hb : Below W.heap.size W W') : RI w T W' :=
  ⟨h.1.trans (hb.mono h.1.size), h.2.1.below hb h.2.1.lt, (hb.cell (p := ⟨w.heap.size, 0, none⟩) (World.block_lt_of_cell? W _ h.2.2)).trans h.2.2⟩
theorem RI.drewN {w : World} {T : Int} {W : World} (h : RI w T W) (n : Nat) : RI w T (W.drewN n) := ⟨below_drewN h.1 n, fun k hk => h.2.1 k hk, h.2.2⟩
set_option maxRecDepth 100000 in
set_option maxHeartbeats 3200000 in
theorem rings_row (t a b c : Int) (_ : (Lit.int .i64 t).wf = true) (_ : (Lit.int .i64 a).wf = true) (_ : (Lit.int .i64 b).wf = true) (_ : (Lit.int .i64 c).wf = true) (w : World) (hg : Glo w) :
    Calls Tryd.prog 6 #[.int .i64 t, .agg #[.int .i64 a, .int .i64 b], .int .i64 c] w fun e w' => e = .returned (.bool true) ∧ Below w.heap.size w w' := by
  have HG := hide hg
  have H0 := hide hg.lt
  have ck := kind_any t
  have hT := kind_whole t
  generalize kindN t = T at *
  have ht := (whole_ty hT).1
  have cq := fun n W m => quiet_wrapL T n W m
  have cc := fun W => wrapL_any T c W
  rw [wrapN_ty ht] at cc
  have cq' : ∀ n W m, Calls Tryd.prog 24 #[.int .i64 T, .int .i64 n] (World.drewN W m) fun e w'' => e = .returned (.int .i64 (wrN T n)) ∧ ∃ q, w'' = World.drewN W q := fun n W m => by
    have h := cq n W m
    rw [wrapN_ty ht] at h
    exact h
  clear cq
  obtain ⟨ab, m, abc, bc, mc, bcm, d, ac, x, e1, e2, e3, e4, e5, e6, e7, e8, e9, e10, e11, e12, e13, e14, e15, e16⟩ := ring_facts hT (fit_wr ht a) (fit_wr ht b) (fit_wr ht c)
  have K := hide (fun (op u v r : Int) (hr : twoN op T u v = (r, 0)) (W : World) (h : RI w T W) => (ring_any op T u v r w.heap.size W h.2.1 h.2.2 hr).mono fun e w' (hh : e = .returned (.int .i64 r) ∧ Below W.heap.size W w') => (⟨hh.1, h.step hh.2⟩ : e = .returned (.int .i64 r) ∧ RI w T w'))
  have k1 := hide (K.out _ _ _ _ e1)
  have k2 := hide (K.out _ _ _ _ e2)
  have k3 := hide (K.out _ _ _ _ e3)
  have k4 := hide (K.out _ _ _ _ e4)
  have k5 := hide (K.out _ _ _ _ e5)
  have k6 := hide (K.out _ _ _ _ e6)
  have k7 := hide (K.out _ _ _ _ e7)
  have k8 := hide (K.out _ _ _ _ e8)
  have k9 := hide (K.out _ _ _ _ e9)
  have k10 := hide (K.out _ _ _ _ e10)
  have k11 := hide (K.out _ _ _ _ e11)
  have k12 := hide (K.out _ _ _ _ e12)
  have k13 := hide (K.out _ _ _ _ e13)
  have k14 := hide (K.out _ _ _ _ e14)
  have k15 := hide (K.out _ _ _ _ e15)
  have k16 := hide (K.out _ _ _ _ e16)
  clear K e1 e2 e3 e4 e5 e6 e7 e8 e9 e10 e11 e12 e13 e14 e15 e16 hT ht hg
  go_enter Tryd.func6, Tryd.ntmps6
  go_wp2_with fail
  refine (works_any _ (HG.out.below (below2 w _ _) H0.out)).mono ?_
  rintro e w1 ⟨rfl, hb1⟩
  have x0 := (hb1.cell (p := ⟨w.heap.size, 0, none⟩) (by simp; omega)).trans ((cell_of_row _ _ 0 _ 3 (0, 0) (one_at w _ _)).trans rfl)
  have x1 := (hb1.cell (p := ⟨w.heap.size + 1, 0, none⟩) (by simp)).trans ((cell_of_row _ _ 0 _ 23 (0, 0) (two_at w _ _)).trans rfl)
  have x2 := (hb1.cell (p := ⟨w.heap.size + 1, 1, none⟩) (by simp)).trans ((cell_of_row _ _ 1 _ 23 (0, 0) (two_at w _ _)).trans rfl)
  have x3 : w1.frozen? ⟨w.heap.size, 0, none⟩ = false := (hb1.frozen (p := ⟨w.heap.size, 0, none⟩) (by simp; omega)).trans (froz _ _ _ _ _ (one_at w _ _))
  have B1 := hide (show Below w.heap.size w w1 from (below2 w _ _).trans (hb1.mono (by simp; omega)))
  clear hb1
  go_wp2_with fail
  refine (ck _).mono ?_
  rintro e w2 ⟨rfl, rfl⟩
  clear ck
  go_wp2_with fail
  have y0 : (w2.setCell ⟨w.heap.size, 0, none⟩ (.int .i64 T)).cell? ⟨w.heap.size, 0, none⟩ = some (.int .i64 T) := World.cell?_setCell_same _ _ _ x0
  have y1 := (World.cell?_setCell_other w2 ⟨w.heap.size, 0, none⟩ ⟨w.heap.size + 1, 0, none⟩ (.int .i64 T) (fun e => by injection e with e1 _ _; omega)).trans x1
  have y2 := (World.cell?_setCell_other w2 ⟨w.heap.size, 0, none⟩ ⟨w.heap.size + 1, 1, none⟩ (.int .i64 T) (fun e => by injection e with e1 _ _; omega)).trans x2
  have B2 := hide (B1.out.setCell (p := ⟨w.heap.size, 0, none⟩) (Nat.le_refl _) (.int .i64 T))
  clear x0 x1 x2 x3 B1
  generalize (w2.setCell ⟨w.heap.size, 0, none⟩ (.int .i64 T)) = W2 at *
  have R0 := hide (show RI w T W2 from ⟨B2.out, HG.out.below B2.out H0.out, y0⟩)
  clear B2 HG H0
  go_quiet ((go_at_call 24; exact cq' _ _ _))
  clear cq'
  generalize wrN T a = A at *
  generalize wrN T b = B at *
  generalize wrN T c = C at *
  go_wp2_with fail
  refine (cc _).mono ?_
  rintro e w3 ⟨rfl, rfl⟩
  have R1 := hide (R0.out.drewN nq)
  clear cc R0 y0 y1 y2
  generalize (W2.drewN nq) = W3 at *
  go_wp2_with fail
  refine (k1.out _ R1.out).mono ?_
  rintro e v1 ⟨rfl, r1⟩
  have R2 := hide r1
  clear r1 R1
  go_wp2_with fail
  refine (k2.out _ R2.out).mono ?_
  rintro e v2 ⟨rfl, r2⟩
  have R3 := hide r2
  clear r2 R2 k2
  go_wp2_with fail
  refine (k3.out _ R3.out).mono ?_
  rintro e v3 ⟨rfl, r3⟩
  have R4 := hide r3
  clear r3 R3
  go_wp2_with fail
  refine (k4.out _ R4.out).mono ?_
  rintro e v4 ⟨rfl, r4⟩
  have R5 := hide r4
  clear r4 R4 k4
  go_wp2_with fail
  refine (k1.out _ R5.out).mono ?_
  rintro e v5 ⟨rfl, r5⟩
  have R6 := hide r5
  clear r5 R5
  go_wp2_with fail
  refine (k5.out _ R6.out).mono ?_
  rintro e v6 ⟨rfl, r6⟩
  have R7 := hide r6
  clear r6 R6 k5
  go_wp2_with fail
  refine (k6.out _ R7.out).mono ?_
  rintro e v7 ⟨rfl, r7⟩
  have R8 := hide r7
  clear r7 R7
  go_wp2_with fail
  refine (k7.out _ R8.out).mono ?_
  rintro e v8 ⟨rfl, r8⟩
  have R9 := hide r8
  clear r8 R8 k7
  go_wp2_with fail
  refine (k3.out _ R9.out).mono ?_
  rintro e v9 ⟨rfl, r9⟩
  have R10 := hide r9
  clear r9 R9
  go_wp2_with fail
  refine (k8.out _ R10.out).mono ?_
  rintro e v10 ⟨rfl, r10⟩
  have R11 := hide r10
  clear r10 R10 k8
  go_wp2_with fail
  refine (k9.out _ R11.out).mono ?_
  rintro e v11 ⟨rfl, r11⟩
  have R12 := hide r11
  clear r11 R11 k9
  go_wp2_with fail
  refine (k10.out _ R12.out).mono ?_
  rintro e v12 ⟨rfl, r12⟩
  have R13 := hide r12
  clear r12 R12 k10
  go_wp2_with fail
  refine (k6.out _ R13.out).mono ?_
  rintro e v13 ⟨rfl, r13⟩
  have R14 := hide r13
  clear r13 R13 k6
  go_wp2_with fail
  refine (k11.out _ R14.out).mono ?_
  rintro e v14 ⟨rfl, r14⟩
  have R15 := hide r14
  clear r14 R14 k11
  go_wp2_with fail
  refine (k3.out _ R15.out).mono ?_
  rintro e v15 ⟨rfl, r15⟩
  have R16 := hide r15
  clear r15 R15 k3
  go_wp2_with fail
  refine (k12.out _ R16.out).mono ?_
  rintro e v16 ⟨rfl, r16⟩
  have R17 := hide r16
  clear r16 R16 k12
  go_wp2_with fail
  refine (k13.out _ R17.out).mono ?_
  rintro e v17 ⟨rfl, r17⟩
  have R18 := hide r17
  clear r17 R17 k13
  go_wp2_with fail
  refine (k1.out _ R18.out).mono ?_
  rintro e v18 ⟨rfl, r18⟩
  have R19 := hide r18
  clear r18 R18 k1
  go_wp2_with fail
  refine (k14.out _ R19.out).mono ?_
  rintro e v19 ⟨rfl, r19⟩
  have R20 := hide r19
  clear r19 R19 k14
  go_wp2_with fail
  refine (k15.out _ R20.out).mono ?_
  rintro e v20 ⟨rfl, r20⟩
  have R21 := hide r20
  clear r20 R20 k15
  go_wp2_with fail
  refine (k16.out _ R21.out).mono ?_
  rintro e v21 ⟨rfl, r21⟩
  have R22 := hide r21
  clear r21 R21 k16
  go_wp2
  go_ret
  exact ⟨rfl, R22.out.1⟩
end Go.Proofs.YtffeigdgleohlaaDoor
