/- ToW | TfW -/
import Derived.Test.YtldjiieckddhkaaGreatDoorTzW
import Derived.Test.YtldjiieckddhkaaGreatDoorMg12
namespace Go.Proofs.YtldjiieckddhkaaGreatDoor
open Go.RowKit Go.Sort
def KOut (x : Except Int Kd) (k : Kd) (e : Int) : Prop := match x with
  | .ok k' => e = 0 ∧ k = k'
  | .error er => e = er ∧ e ≠ 0
theorem set3 {w0 w : World} {g : Nat} (h : Below w0.heap.size w0 w) (hg : w0.heap.size ≤ g) (a b c : Value) : Below w0.heap.size w0 (((w.setCell ⟨g, 0, none⟩ a).setCell ⟨g, 1, none⟩ b).setCell ⟨g, 2, none⟩ c) :=
  ((h.setCell (p := ⟨g, 0, none⟩) hg _).setCell (p := ⟨g, 1, none⟩) hg _).setCell (p := ⟨g, 2, none⟩) hg _
set_option maxRecDepth 100000 in
set_option maxHeartbeats 3200000 in
theorem opKind_any (op : Int) (l r : Kd) (w : World) (hg : Glo w) :
    Calls Tryz.prog 142 #[.int .i64 op, .agg #[.int .i64 l.typ, .int .i64 l.lo, .int .i64 l.hi], .agg #[.int .i64 r.typ, .int .i64 r.lo, .int .i64 r.hi]] w fun e w' => (∃ k e', e = .returned (.tuple #[.agg #[.int .i64 k.typ, .int .i64 k.lo, .int .i64 k.hi], .int .i64 e']) ∧ KOut (opK op l r) k e') ∧ Below w.heap.size w w' := by
  obtain ⟨W0, hW0⟩ : ∃ W0, W0 = ((w.alloc (.cells #[.int .i64 l.typ, .int .i64 l.lo, .int .i64 l.hi] 52)).alloc (.cells #[.int .i64 r.typ, .int .i64 r.lo, .int .i64 r.hi] 52)).alloc (.cells #[.int .i64 0, .int .i64 0, .int .i64 0] 52) := ⟨_, rfl⟩
  have B0 : Below w.heap.size w W0 := by rw [hW0]; exact (((Below.refl w.heap.size w).alloc (Nat.le_refl _) _).alloc (by simp) _).alloc (by simp; omega) _
  have hz : W0.heap.size = w.heap.size + 3 := by rw [hW0]; simp
  have hb0 : W0.heap[w.heap.size]? = some (.cells #[.int .i64 l.typ, .int .i64 l.lo, .int .i64 l.hi] 52) := by
    rw [hW0, Lib.alloc_old _ _ _ (by simp; omega), Lib.alloc_old _ _ _ (by simp)]; exact heap_alloc_new w _
  have hb1 : W0.heap[w.heap.size + 1]? = some (.cells #[.int .i64 r.typ, .int .i64 r.lo, .int .i64 r.hi] 52) := by
    rw [hW0, Lib.alloc_old _ _ _ (by simp)]
    have := heap_alloc_new (w.alloc (.cells #[.int .i64 l.typ, .int .i64 l.lo, .int .i64 l.hi] 52)) (.cells #[.int .i64 r.typ, .int .i64 r.lo, .int .i64 r.hi] 52)
    rwa [World.size_alloc] at this
  have hb2 : W0.heap[w.heap.size + 2]? = some (.cells #[.int .i64 0, .int .i64 0, .int .i64 0] 52) := by
    rw [hW0]
    have := heap_alloc_new ((w.alloc (.cells #[.int .i64 l.typ, .int .i64 l.lo, .int .i64 l.hi] 52)).alloc (.cells #[.int .i64 r.typ, .int .i64 r.lo, .int .i64 r.hi] 52)) (.cells #[.int .i64 0, .int .i64 0, .int .i64 0] 52)
    rwa [World.size_alloc, World.size_alloc] at this
  have G : Hid (∀ W, Below (w.heap.size + 3) W0 W → Glo W ∧ Below w.heap.size w W ∧ (∀ j u, (#[.int .i64 l.typ, .int .i64 l.lo, .int .i64 l.hi] : Array Value)[j]? = some u → W.cell? ⟨w.heap.size, j, none⟩ = some u) ∧
      (∀ j u, (#[.int .i64 r.typ, .int .i64 r.lo, .int .i64 r.hi] : Array Value)[j]? = some u → W.cell? ⟨w.heap.size + 1, j, none⟩ = some u) ∧ (∀ j u, (#[.int .i64 0, .int .i64 0, .int .i64 0] : Array Value)[j]? = some u → W.cell? ⟨w.heap.size + 2, j, none⟩ = some u) ∧ (∀ j, W.frozen? ⟨w.heap.size + 2, j, none⟩ = false)) := fun W hW =>
    have q0 := (hW.block _ (show w.heap.size < _ by omega)).trans hb0
    have q1 := (hW.block _ (show w.heap.size + 1 < _ by omega)).trans hb1
    have q2 := (hW.block _ (show w.heap.size + 2 < _ by omega)).trans hb2
    ⟨(hg.below B0 hg.lt).below hW (by have := hg.lt; omega), B0.trans (hW.mono (by omega)), fun j u h => by rw [Lib.cell_of_heap q0]; exact h, fun j u h => by rw [Lib.cell_of_heap q1]; exact h, fun j u h => by rw [Lib.cell_of_heap q2]; exact h, fun j => Lib.frozen_of_heap q2 j⟩
  have HK : Hid (opK op l r = if (Four.resN op (tyOr l (tyOr r 3))).2 ≠ 0 then .error (Four.resN op (tyOr l (tyOr r 3))).2
    else if l.typ = 0 ∧ r.typ = 0 ∧ (Four.resN op (tyOr l (tyOr r 3))).1 = tyOr l (tyOr r 3) then .ok (kWith l r)
    else if kFits l (tyOr l (tyOr r 3)) ≠ 0 then .error (kFits l (tyOr l (tyOr r 3)))
    else if kFits r (tyOr l (tyOr r 3)) ≠ 0 then .error (kFits r (tyOr l (tyOr r 3)))
    else .ok (kT (Four.resN op (tyOr l (tyOr r 3))).1)) := rfl
  generalize opK op l r = R at *
  have x1 : ∀ dd os, Calls Tryz.prog 162 #[.agg #[.int .i64 r.typ, .int .i64 r.lo, .int .i64 r.hi], .int .i64 3] (grow (redrawn W0 dd) os) fun e w2 => e = .returned (.int .i64 (tyOr r 3)) ∧ ∃ q : Regrown, w2 = grow (redrawn W0 q.d) q.os := fun dd os => Calls.regrown_of (typeOr_any _ _ _ _ _)
  have x2 : ∀ dd os, Calls Tryz.prog 162 #[.agg #[.int .i64 l.typ, .int .i64 l.lo, .int .i64 l.hi], .int .i64 (tyOr r 3)] (grow (redrawn W0 dd) os) fun e w2 => e = .returned (.int .i64 (tyOr l (tyOr r 3))) ∧ ∃ q : Regrown, w2 = grow (redrawn W0 q.d) q.os := fun dd os => Calls.regrown_of (typeOr_any _ _ _ _ _)
  have HZ := hide hz
  have HW0 := hide hW0
  have BR : Hid (∀ dd os, Below (w.heap.size + 3) W0 (grow (redrawn W0 dd) os)) := fun dd os => by have := below_regrown W0 dd os; rwa [hz] at this
  have GC : ∀ dd os, _ := fun dd os => G.out _ (BR.out dd os)
  have y0 : ∀ dd os, (grow (redrawn W0 dd) os).cell? ⟨w.heap.size, 0, none⟩ = some (.int .i64 l.typ) := fun dd os => (GC dd os).2.2.1 0 _ rfl
  have y1 : ∀ dd os, (grow (redrawn W0 dd) os).cell? ⟨w.heap.size, 1, none⟩ = some (.int .i64 l.lo) := fun dd os => (GC dd os).2.2.1 1 _ rfl
  have y2 : ∀ dd os, (grow (redrawn W0 dd) os).cell? ⟨w.heap.size, 2, none⟩ = some (.int .i64 l.hi) := fun dd os => (GC dd os).2.2.1 2 _ rfl
  have v0 : ∀ dd os, (grow (redrawn W0 dd) os).cell? ⟨w.heap.size + 1, 0, none⟩ = some (.int .i64 r.typ) := fun dd os => (GC dd os).2.2.2.1 0 _ rfl
  have v1 : ∀ dd os, (grow (redrawn W0 dd) os).cell? ⟨w.heap.size + 1, 1, none⟩ = some (.int .i64 r.lo) := fun dd os => (GC dd os).2.2.2.1 1 _ rfl
  have v2 : ∀ dd os, (grow (redrawn W0 dd) os).cell? ⟨w.heap.size + 1, 2, none⟩ = some (.int .i64 r.hi) := fun dd os => (GC dd os).2.2.2.1 2 _ rfl
  clear GC hg B0 hz hb0 hb1 hb2 hW0
  obtain ⟨l0, l1, l2⟩ := l
  obtain ⟨r0, r1, r2⟩ := r
  generalize tyOr ⟨l0, l1, l2⟩ (tyOr ⟨r0, r1, r2⟩ 3) = T at *
  generalize tyOr ⟨r0, r1, r2⟩ 3 = T1 at *
  simp only [] at *
  go_enter Tryz.func142, Tryz.ntmps142
  go_wp2_with fail
  rw [← HW0.out]
  refine wp_region_quiet_below (by kernel_rfl) (by kernel_rfl) ?_
  repeat (go_big_quiet_step (first | (go_at_call 162; first | (with_reducible exact x1 _ _) | (with_reducible exact x2 _ _))))
  refine wpQuiet_nil ?_
  intro _ hw'
  obtain ⟨⟨dq, osq⟩, hw''⟩ := hw'
  subst hw''
  have B1 := hide (BR.out dq osq)
  generalize grow (redrawn W0 dq) osq = W1 at *
  clear x1 x2 y0 y1 y2 v0 v1 v2 BR
  have cr := Four.res_any op T W1
  generalize hRN : Four.resN op T = RN at *
  obtain ⟨rn, re⟩ := RN
  simp only [] at *
  clear hRN
  go_wp2_with fail
  refine cr.mono ?_
  rintro e W2 ⟨rfl, hb⟩
  have B2 := hide (B1.out.trans (hb.mono (HZ.out ▸ B1.out.size)))
  clear cr hb
  obtain ⟨g2, b2, p, q, z, fz⟩ := G.out W2 B2.out
  have p0 := p 0 _ rfl
  have p1 := p 1 _ rfl
  have p2 := p 2 _ rfl
  have q0 := q 0 _ rfl
  have q1 := q 1 _ rfl
  have q2 := q 2 _ rfl
  have z0 := z 0 _ rfl
  have z1 := z 1 _ rfl
  have z2 := z 2 _ rfl
  have HB2 := hide b2
  have HG2 := hide g2
  clear p q z b2 g2
  by_cases hre : re = 0
  · subst hre
    rw [if_neg (by decide)] at HK
    have wc := with_any l0 l1 l2 r0 r1 r2 W2
    have ck := kfits_any l0 l1 l2 T W2 HG2.out
    by_cases hbb : l0 = 0 ∧ r0 = 0 ∧ rn = T
    · rw [if_pos hbb] at HK
      obtain ⟨rfl, rfl, rfl⟩ := hbb
      clear ck
      go_wp2_with fail
      refine wc.mono ?_
      rintro e W3 ⟨rfl, hb⟩
      have B3 := hide (B2.out.trans (hb.mono (HZ.out ▸ B2.out.size)))
      clear wc hb p0 p1 p2 q0 q1 q2 z0 z1 z2 fz
      obtain ⟨-, b3, -, -, z, fz⟩ := G.out W3 B3.out
      have z0 := z 0 _ rfl
      have z1 := z 1 _ rfl
      have z2 := z 2 _ rfl
      have HB3 := hide b3
      clear z b3
      go_wp2
      refine bodyPost_ret (v := .tuple #[.agg #[.int .i64 0, .int .i64 (min l1 r1), .int .i64 (max l2 r2)], .int .i64 0]) (by simp [results, Tryz.results142, go_sem, *]) rfl ⟨⟨⟨0, min l1 r1, max l2 r2⟩, 0, rfl, ?_⟩, ?_⟩
      · unfold KOut; rw [HK.out]; exact ⟨rfl, rfl⟩
      · exact set3 HB3.out (by omega) _ _ _
    · rw [if_neg hbb] at HK
      clear wc
      by_cases hl : l0 = 0
      · subst hl
        by_cases hr : r0 = 0
        · subst hr
          have hn : (rn == T) = false := by rw [beq_eq_false_iff_ne]; exact fun h => hbb ⟨rfl, rfl, h⟩
          clear hbb
          go_wp2_with fail
          refine ck.mono ?_
          rintro e W3 ⟨rfl, hb⟩
          have B3 := hide (B2.out.trans (hb.mono (HZ.out ▸ B2.out.size)))
          clear ck hb p0 p1 p2 q0 q1 q2 z0 z1 z2 fz
          obtain ⟨g3, b3, -, q, z, fz⟩ := G.out W3 B3.out
          have q0 := q 0 _ rfl
          have q1 := q 1 _ rfl
          have q2 := q 2 _ rfl
          have z0 := z 0 _ rfl
          have z1 := z 1 _ rfl
          have z2 := z 2 _ rfl
          have HB3 := hide b3
          have ck := kfits_any 0 r1 r2 T W3 g3
          clear q z b3 g3
          generalize kFits ⟨0, l1, l2⟩ T = E1 at *
          generalize kFits ⟨0, r1, r2⟩ T = E2 at *
          by_cases h1 : E1 = 0
          · subst h1
            rw [if_neg (by decide)] at HK
            go_wp2_with fail
            refine ck.mono ?_
            rintro e W4 ⟨rfl, hb⟩
            have B4 := hide (B3.out.trans (hb.mono (HZ.out ▸ B3.out.size)))
            clear ck hb q0 q1 q2 z0 z1 z2 fz
            obtain ⟨-, b4, -, -, z, fz⟩ := G.out W4 B4.out
            have z0 := z 0 _ rfl
            have z1 := z 1 _ rfl
            have z2 := z 2 _ rfl
            have HB4 := hide b4
            clear z b4
            by_cases h2 : E2 = 0
            · subst h2
              rw [if_neg (by decide)] at HK
              go_wp2
              refine bodyPost_ret (v := .tuple #[.agg #[.int .i64 rn, .int .i64 0, .int .i64 0], .int .i64 0]) (by simp [results, Tryz.results142, go_sem, *]) rfl ⟨⟨kT rn, 0, rfl, ?_⟩, ?_⟩
              · unfold KOut; rw [HK.out]; exact ⟨rfl, rfl⟩
              · exact set3 HB4.out (by omega) _ _ _
            · rw [if_pos h2] at HK
              have h2' : (E2 != 0) = true := by rw [bne_iff_ne]; exact h2
              have H2 := hide h2
              clear h2
              go_wp2
              refine bodyPost_ret (v := .tuple #[.agg #[.int .i64 0, .int .i64 0, .int .i64 0], .int .i64 E2]) (by simp [results, Tryz.results142, go_sem, *]) rfl ⟨⟨kT 0, E2, rfl, ?_⟩, ?_⟩
              · unfold KOut; rw [HK.out]; exact ⟨rfl, H2.out⟩
              · exact set3 HB4.out (by omega) _ _ _
          · rw [if_pos h1] at HK
            have h1' : (E1 != 0) = true := by rw [bne_iff_ne]; exact h1
            have H1 := hide h1
            clear h1 ck
            go_wp2
            refine bodyPost_ret (v := .tuple #[.agg #[.int .i64 0, .int .i64 0, .int .i64 0], .int .i64 E1]) (by simp [results, Tryz.results142, go_sem, *]) rfl ⟨⟨kT 0, E1, rfl, ?_⟩, ?_⟩
            · unfold KOut; rw [HK.out]; exact ⟨rfl, H1.out⟩
            · exact set3 HB3.out (by omega) _ _ _
        · have hr' : (r0 == 0) = false := by rw [beq_eq_false_iff_ne]; exact hr
          clear hbb hr
          go_wp2_with fail
          refine ck.mono ?_
          rintro e W3 ⟨rfl, hb⟩
          have B3 := hide (B2.out.trans (hb.mono (HZ.out ▸ B2.out.size)))
          clear ck hb p0 p1 p2 q0 q1 q2 z0 z1 z2 fz
          obtain ⟨g3, b3, -, q, z, fz⟩ := G.out W3 B3.out
          have q0 := q 0 _ rfl
          have q1 := q 1 _ rfl
          have q2 := q 2 _ rfl
          have z0 := z 0 _ rfl
          have z1 := z 1 _ rfl
          have z2 := z 2 _ rfl
          have HB3 := hide b3
          have ck := kfits_any r0 r1 r2 T W3 g3
          clear q z b3 g3
          generalize kFits ⟨0, l1, l2⟩ T = E1 at *
          generalize kFits ⟨r0, r1, r2⟩ T = E2 at *
          by_cases h1 : E1 = 0
          · subst h1
            rw [if_neg (by decide)] at HK
            go_wp2_with fail
            refine ck.mono ?_
            rintro e W4 ⟨rfl, hb⟩
            have B4 := hide (B3.out.trans (hb.mono (HZ.out ▸ B3.out.size)))
            clear ck hb q0 q1 q2 z0 z1 z2 fz
            obtain ⟨-, b4, -, -, z, fz⟩ := G.out W4 B4.out
            have z0 := z 0 _ rfl
            have z1 := z 1 _ rfl
            have z2 := z 2 _ rfl
            have HB4 := hide b4
            clear z b4
            by_cases h2 : E2 = 0
            · subst h2
              rw [if_neg (by decide)] at HK
              go_wp2
              refine bodyPost_ret (v := .tuple #[.agg #[.int .i64 rn, .int .i64 0, .int .i64 0], .int .i64 0]) (by simp [results, Tryz.results142, go_sem, *]) rfl ⟨⟨kT rn, 0, rfl, ?_⟩, ?_⟩
              · unfold KOut; rw [HK.out]; exact ⟨rfl, rfl⟩
              · exact set3 HB4.out (by omega) _ _ _
            · rw [if_pos h2] at HK
              have h2' : (E2 != 0) = true := by rw [bne_iff_ne]; exact h2
              have H2 := hide h2
              clear h2
              go_wp2
              refine bodyPost_ret (v := .tuple #[.agg #[.int .i64 0, .int .i64 0, .int .i64 0], .int .i64 E2]) (by simp [results, Tryz.results142, go_sem, *]) rfl ⟨⟨kT 0, E2, rfl, ?_⟩, ?_⟩
              · unfold KOut; rw [HK.out]; exact ⟨rfl, H2.out⟩
              · exact set3 HB4.out (by omega) _ _ _
          · rw [if_pos h1] at HK
            have h1' : (E1 != 0) = true := by rw [bne_iff_ne]; exact h1
            have H1 := hide h1
            clear h1 ck
            go_wp2
            refine bodyPost_ret (v := .tuple #[.agg #[.int .i64 0, .int .i64 0, .int .i64 0], .int .i64 E1]) (by simp [results, Tryz.results142, go_sem, *]) rfl ⟨⟨kT 0, E1, rfl, ?_⟩, ?_⟩
            · unfold KOut; rw [HK.out]; exact ⟨rfl, H1.out⟩
            · exact set3 HB3.out (by omega) _ _ _
      · have hl' : (l0 == 0) = false := by rw [beq_eq_false_iff_ne]; exact hl
        clear hbb hl
        go_wp2_with fail
        refine ck.mono ?_
        rintro e W3 ⟨rfl, hb⟩
        have B3 := hide (B2.out.trans (hb.mono (HZ.out ▸ B2.out.size)))
        clear ck hb p0 p1 p2 q0 q1 q2 z0 z1 z2 fz
        obtain ⟨g3, b3, -, q, z, fz⟩ := G.out W3 B3.out
        have q0 := q 0 _ rfl
        have q1 := q 1 _ rfl
        have q2 := q 2 _ rfl
        have z0 := z 0 _ rfl
        have z1 := z 1 _ rfl
        have z2 := z 2 _ rfl
        have HB3 := hide b3
        have ck := kfits_any r0 r1 r2 T W3 g3
        clear q z b3 g3
        generalize kFits ⟨l0, l1, l2⟩ T = E1 at *
        generalize kFits ⟨r0, r1, r2⟩ T = E2 at *
        by_cases h1 : E1 = 0
        · subst h1
          rw [if_neg (by decide)] at HK
          go_wp2_with fail
          refine ck.mono ?_
          rintro e W4 ⟨rfl, hb⟩
          have B4 := hide (B3.out.trans (hb.mono (HZ.out ▸ B3.out.size)))
          clear ck hb q0 q1 q2 z0 z1 z2 fz
          obtain ⟨-, b4, -, -, z, fz⟩ := G.out W4 B4.out
          have z0 := z 0 _ rfl
          have z1 := z 1 _ rfl
          have z2 := z 2 _ rfl
          have HB4 := hide b4
          clear z b4
          by_cases h2 : E2 = 0
          · subst h2
            rw [if_neg (by decide)] at HK
            go_wp2
            refine bodyPost_ret (v := .tuple #[.agg #[.int .i64 rn, .int .i64 0, .int .i64 0], .int .i64 0]) (by simp [results, Tryz.results142, go_sem, *]) rfl ⟨⟨kT rn, 0, rfl, ?_⟩, ?_⟩
            · unfold KOut; rw [HK.out]; exact ⟨rfl, rfl⟩
            · exact set3 HB4.out (by omega) _ _ _
          · rw [if_pos h2] at HK
            have h2' : (E2 != 0) = true := by rw [bne_iff_ne]; exact h2
            have H2 := hide h2
            clear h2
            go_wp2
            refine bodyPost_ret (v := .tuple #[.agg #[.int .i64 0, .int .i64 0, .int .i64 0], .int .i64 E2]) (by simp [results, Tryz.results142, go_sem, *]) rfl ⟨⟨kT 0, E2, rfl, ?_⟩, ?_⟩
            · unfold KOut; rw [HK.out]; exact ⟨rfl, H2.out⟩
            · exact set3 HB4.out (by omega) _ _ _
        · rw [if_pos h1] at HK
          have h1' : (E1 != 0) = true := by rw [bne_iff_ne]; exact h1
          have H1 := hide h1
          clear h1 ck
          go_wp2
          refine bodyPost_ret (v := .tuple #[.agg #[.int .i64 0, .int .i64 0, .int .i64 0], .int .i64 E1]) (by simp [results, Tryz.results142, go_sem, *]) rfl ⟨⟨kT 0, E1, rfl, ?_⟩, ?_⟩
          · unfold KOut; rw [HK.out]; exact ⟨rfl, H1.out⟩
          · exact set3 HB3.out (by omega) _ _ _
  · rw [if_pos hre] at HK
    have hre' : (re != 0) = true := by rw [bne_iff_ne]; exact hre
    have HR := hide hre
    clear hre
    go_wp2
    refine bodyPost_ret (v := .tuple #[.agg #[.int .i64 0, .int .i64 0, .int .i64 0], .int .i64 re]) (by simp [results, Tryz.results142, go_sem, *]) rfl ⟨⟨kT 0, re, rfl, ?_⟩, ?_⟩
    · unfold KOut; rw [HK.out]; exact ⟨rfl, HR.out⟩
    · exact set3 HB2.out (by omega) _ _ _
end Go.Proofs.YtldjiieckddhkaaGreatDoor
namespace Go.Proofs.YtldjiieckddhkaaGreatDoor
open Go.RowKit
def FLst (w : World) (v : Value) (l : List (Bs × Int × Bool)) : Prop :=
  ∃ (a : Option Addr) (b cap : Nat), v = .slice a l.length cap ∧ (0 < l.length → b < w.heap.size ∧ a = some ⟨b, 0, none⟩) ∧
    ∀ i r, l[i]? = some r → w.cell? ⟨b, i * 3, none⟩ = some (.string ⟨r.1.toArray⟩) ∧ w.cell? ⟨b, i * 3 + 1, none⟩ = some (.int .i64 r.2.1) ∧ w.cell? ⟨b, i * 3 + 2, none⟩ = some (.bool r.2.2)
theorem FLst.below {w w' : World} {v : Value} {l : List (Bs × Int × Bool)} (h : FLst w v l) (hb : Below w.heap.size w w') : FLst w' v l := by
  obtain ⟨a, b, cap, rfl, hb0, hI⟩ := h
  refine ⟨a, b, cap, rfl, fun h => ⟨by have := hb.size; have := (hb0 h).1; omega, (hb0 h).2⟩, fun i x hx => ?_⟩
  have hlt : b < w.heap.size := (hb0 (by have := (List.getElem?_eq_some_iff.1 hx).1; omega)).1
  obtain ⟨h1, h2, h3⟩ := hI i x hx
  exact ⟨(hb.cell (p := ⟨b, _, none⟩) hlt).trans h1, (hb.cell (p := ⟨b, _, none⟩) hlt).trans h2, (hb.cell (p := ⟨b, _, none⟩) hlt).trans h3⟩
def rowC (l : List (Bs × Int × Bool)) : List Value := l.flatMap fun r => [.string ⟨r.1.toArray⟩, .int .i64 r.2.1, .bool r.2.2]
theorem rowC_get : ∀ (l : List (Bs × Int × Bool)) (i : Nat) (r), l[i]? = some r → (rowC l)[i * 3]? = some (.string ⟨r.1.toArray⟩) ∧ (rowC l)[i * 3 + 1]? = some (.int .i64 r.2.1) ∧ (rowC l)[i * 3 + 2]? = some (.bool r.2.2)
  | [], i, r, h => by cases h
  | x :: l, 0, r, h => by
    obtain rfl := Option.some.inj (show some x = some r from h)
    exact ⟨rfl, rfl, rfl⟩
  | x :: l, i + 1, r, h => by
    have := rowC_get l i r h
    rw [show (i + 1) * 3 = i * 3 + 3 from by omega]
    exact this
theorem FLst.new (w : World) (l : List (Bs × Int × Bool)) (t n : Nat) (h : l.length = n) (cs : Array Value) (hc : cs.toList = rowC l) : FLst (w.alloc (.cells cs t)) (.slice (some ⟨w.heap.size, 0, none⟩) n n) l := by
  subst h
  refine ⟨_, w.heap.size, _, rfl, fun _ => ⟨by simp, rfl⟩, fun i r hr => ?_⟩
  have key : ∀ j u, (rowC l)[j]? = some u → (w.alloc (.cells cs t)).cell? ⟨w.heap.size, j, none⟩ = some u := fun j u hu => by
    rw [Lib.cell_of_heap (heap_alloc_new w _)]
    rw [← hc, Array.getElem?_toList] at hu
    exact hu
  obtain ⟨h1, h2, h3⟩ := rowC_get l i r hr
  exact ⟨key _ _ h1, key _ _ h2, key _ _ h3⟩
set_option maxRecDepth 100000 in
set_option maxHeartbeats 3200000 in
theorem fields_any (k : Int) (w : World) : Calls Tryz.prog 183 #[.int .i64 k] w fun e w' => (∃ v er, e = .returned (.tuple #[v, .int .i64 er]) ∧ FLst w' v (fldR k)) ∧ Below w.heap.size w w' := by
  by_cases h : 1 ≤ k ∧ k ≤ 10
  · have hk : k = 1 ∨ k = 2 ∨ k = 3 ∨ k = 4 ∨ k = 5 ∨ k = 6 ∨ k = 7 ∨ k = 8 ∨ k = 9 ∨ k = 10 := by omega
    clear h
    rcases hk with rfl | rfl | rfl | rfl | rfl | rfl | rfl | rfl | rfl | rfl
    all_goals
      go_enter Tryz.func183, Tryz.ntmps183
      go_wp2
      go_ret2
      refine ⟨⟨_, _, rfl, ?_⟩, (Below.refl w.heap.size w).alloc (Nat.le_refl _) _⟩
      refine FLst.new w _ 185 _ ?_ _ ?_ <;> rfl
  · have e0 : Hid (fldR k = []) := by
      show _ = _
      unfold fldR
      rw [if_neg (by omega), if_neg (by omega), if_neg (by omega), if_neg (by omega), if_neg (by omega), if_neg (by omega), if_neg (by omega)]
    have h1 : (k == 1) = false := by rw [beq_eq_false_iff_ne]; omega
    have h2 : (k == 2) = false := by rw [beq_eq_false_iff_ne]; omega
    have h3 : (k == 3) = false := by rw [beq_eq_false_iff_ne]; omega
    have h4 : (k == 4) = false := by rw [beq_eq_false_iff_ne]; omega
    have h5 : (k == 5) = false := by rw [beq_eq_false_iff_ne]; omega
    have h6 : (k == 6) = false := by rw [beq_eq_false_iff_ne]; omega
    have h7 : (k == 7) = false := by rw [beq_eq_false_iff_ne]; omega
    have h8 : (k == 8) = false := by rw [beq_eq_false_iff_ne]; omega
    have h9 : (k == 9) = false := by rw [beq_eq_false_iff_ne]; omega
    have h10 : (k == 10) = false := by rw [beq_eq_false_iff_ne]; omega
    clear h
    go_enter Tryz.func183, Tryz.ntmps183
    go_wp2
    go_ret2
    refine ⟨⟨.slice none 0 0, _, rfl, ?_⟩, Below.refl _ _⟩
    rw [e0.out]
    exact ⟨none, 0, 0, rfl, fun h => absurd h (Nat.lt_irrefl 0), fun i x hx => by cases hx⟩
theorem FLst.shape {w : World} {v : Value} {l : List (Bs × Int × Bool)} (h : FLst w v l) : ∃ a n cp, v = .slice a n cp := by obtain ⟨a, b, cap, h, -⟩ := h; exact ⟨a, _, cap, h⟩
set_option maxRecDepth 100000 in
theorem fieldsOf_any (s : ByteArray) (t l i d : Int) (w : World) (ht : -1000 ≤ t ∧ t ≤ 1000) : Calls Tryz.prog 174 #[.agg #[.string s, .int .i64 t, .int .i64 l, .int .i64 i, .int .i64 d]] w fun e w' => (∃ v, e = .returned v ∧ FLst w' v (fldR (t - 100))) ∧ Below w.heap.size w w' := by
  obtain ⟨t1, t2⟩ := ht
  have B0 := hide ((Below.refl w.heap.size w).alloc (Nat.le_refl _) (.cells #[.string s, .int .i64 t, .int .i64 l, .int .i64 i, .int .i64 d] 50))
  have c := fields_any (t - 100) (w.alloc (.cells #[.string s, .int .i64 t, .int .i64 l, .int .i64 i, .int .i64 d] 50))
  go_enter Tryz.func174, Tryz.ntmps174
  go_wp2_with fail
  refine c.mono ?_
  rintro e w1 ⟨⟨v, er, rfl, hf⟩, hb⟩
  have HF := hide hf
  have HB := hide (B0.out.trans (hb.mono (by simp)))
  obtain ⟨a, n, cp, rfl⟩ := hf.shape
  clear c hf hb
  go_wp2
  go_ret
  exact ⟨⟨_, rfl, HF.out⟩, HB.out⟩
end Go.Proofs.YtldjiieckddhkaaGreatDoor
