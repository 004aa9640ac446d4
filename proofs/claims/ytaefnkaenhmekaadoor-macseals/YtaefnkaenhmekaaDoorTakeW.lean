/- The contract of sha.takeIn: a block is taken in. -/
import Derived.Test.YtaefnkaenhmekaaDoorTake
import Derived.Deep.RegionHeld3
import Derived.Deep.MidRow
import Derived.Deep.QuietTactic
import Derived.BigQuiet
import Derived.Deep.WholeRow
import Derived.Deep.DeepMust
namespace Go.Proofs.YtaefnkaenhmekaaDoor
open Go.RowKit
attribute [local go_sem] wrap_V wrap_add bits_xor bits_and bits_or bits_not
attribute [local go_sem ↓] unary_not_V bits_not'
attribute [local go_sem ↓] shl_any shr_any wrap_byte
theorem size44 : (Tryd.prog.info? 46).map (·.size) = some 64 := by kernel_rfl
theorem size43 : (Tryd.prog.info? 48).map (·.size) = some 8 := by kernel_rfl
theorem size54 : (Tryd.prog.info? 58).map (·.size) = some 64 := by kernel_rfl
def SchedSaid : Prop := ∀ (bl : List UInt8) (_ : bl.length = 64) (w : World),
    Calls Tryd.prog 39 #[.agg (bl.map encB).toArray] w fun e w' => e = .returned (.agg ((wk bl 64).map encW).toArray) ∧ Below w.heap.size w w'
set_option maxRecDepth 100000 in
set_option maxHeartbeats 1600000 in
theorem take_any (hs : SchedSaid) (s : St) (bl : List UInt8) (hl : bl.length = 64) (w : World) (hT : Tab w) (h0 : 0 < w.heap.size) :
    Calls Tryd.prog 33 #[.agg (encS s), .agg (bl.map encB).toArray] w fun e w' => e = .returned (.agg (encS (takeB s bl))) ∧ Below w.heap.size w w' := by
  have hsz : (bl.map encB).toArray.size = 64 := by simp [hl]
  have hi44 : (Tryd.prog.info? 46).map (·.size) = some (bl.map encB).toArray.size := by rw [hsz]; exact size44
  have hws : ((wk bl 64).map encW).toArray.size = 64 := by simp [wk_length]
  have hi54 : (Tryd.prog.info? 58).map (·.size) = some ((wk bl 64).map encW).toArray.size := by rw [hws]; exact size54
  have hone : ((wk bl 64).map encW).toArray.all (·.oneCell') = true := all_oneCell_encW _
  have hget : ∀ t, t < 64 → ((wk bl 64).map encW).toArray[t]? = some (.int .u32 (V (at32 (wk bl 64) t))) := fun t ht => words_get _ _ (by rw [wk_length]; exact ht)
  have hcall : ∀ W, Calls Tryd.prog 39 #[.agg (bl.map encB).toArray] W fun e w' => e = .returned (.agg ((wk bl 64).map encW).toArray) ∧ Below W.heap.size W w' := fun W => hs bl hl W
  have hfin : Hid (∀ r, r = rounds (wk bl 64) s 64 → takeB s bl = addSt s r) := fun r hr => by rw [hr]; rfl
  generalize takeB s bl = F at *
  generalize wk bl 64 = ws at *
  generalize (bl.map encB).toArray = B at *
  generalize (ws.map encW).toArray = R at *
  clear hs
  have HT : Hid (Tab w) := hT
  have HG : Hid (∀ t, t < 64 → R[t]? = some (.int .u32 (V (at32 ws t)))) := hget
  clear hT hget
  have hA : Calls Tryd.prog 33 #[.agg #[.int .u32 (V s.a), .int .u32 (V s.b), .int .u32 (V s.c), .int .u32 (V s.d), .int .u32 (V s.e), .int .u32 (V s.f), .int .u32 (V s.g), .int .u32 (V s.h)], .agg B] w fun e w' => e = .returned (.agg (encS F)) ∧ Below w.heap.size w w' := by
    go_enter Tryd.func33, Tryd.ntmps33
    go_wp2_with (first | ((with_reducible refine at_load ?_); refine load_arm 17 46 (.tmp 3) _ _ B _ _ _ (heap3_1 _ _ _ _) Tryd.underlying46 hi44 rfl ?_))
    refine (hcall _).mono ?_
    rintro e w1 ⟨rfl, hb1⟩
    go_wp2_with (first | ((with_reducible refine at_store ?_); go_must (refine store_arm 58 (.tmp 5) (.tmp 18) _ _ _ _ (heap_alloc_new _ _) hi54 (by rw [hws]; rfl) hone rfl rfl ?_; rw [World.setRow_alloc_new])))
    have hb0 : Below w.heap.size w (w1.alloc (.cells R 58)) := ((below3 _ _ _ _).trans (hb1.mono (by simp; omega))).alloc (by have := hb1.size; simp at this; omega) _
    have hN : w.heap.size + 3 ≤ w1.heap.size := by have := hb1.size; simp at this; omega
    have q0 : (w1.alloc (.cells R 58)).heap[w.heap.size]? = some (.cells #[.int .u32 (V s.a), .int .u32 (V s.b), .int .u32 (V s.c), .int .u32 (V s.d), .int .u32 (V s.e), .int .u32 (V s.f), .int .u32 (V s.g), .int .u32 (V s.h)] 48 (0, 0)) := by
      rw [heap_alloc_old _ _ (by omega), hb1.block _ (by simp; omega), heap3_0]
    have q2 : ∃ z, (w1.alloc (.cells R 58)).heap[w.heap.size + 1 + 1]? = some (.cells z 48 (0, 0)) ∧ z.size = 8 := by
      rw [heap_alloc_old _ _ (by omega), hb1.block _ (by simp), heap3_2]
      exact ⟨_, rfl, rfl⟩
    have q3 : ∀ t, t < 64 → (w1.alloc (.cells R 58)).cell? ⟨w1.heap.size, t, none⟩ = some (.int .u32 (V (at32 ws t))) := fun t ht => by
      rw [cell_of_row _ _ _ _ _ _ (heap_alloc_new _ _)]; exact HG.out t ht
    have q4 : Tab (w1.alloc (.cells R 58)) := HT.out.below hb0 h0
    generalize w1.alloc (.cells R 58) = W0 at *
    generalize w1.heap.size = g5 at *
    have c0 : W0.cell? ⟨w.heap.size, 0, none⟩ = some (.int .u32 (V s.a)) := by rw [cell_of_row _ _ _ _ _ _ q0]; rfl
    have c1 : W0.cell? ⟨w.heap.size, 1, none⟩ = some (.int .u32 (V s.b)) := by rw [cell_of_row _ _ _ _ _ _ q0]; rfl
    have c2 : W0.cell? ⟨w.heap.size, 2, none⟩ = some (.int .u32 (V s.c)) := by rw [cell_of_row _ _ _ _ _ _ q0]; rfl
    have c3 : W0.cell? ⟨w.heap.size, 3, none⟩ = some (.int .u32 (V s.d)) := by rw [cell_of_row _ _ _ _ _ _ q0]; rfl
    have c4 : W0.cell? ⟨w.heap.size, 4, none⟩ = some (.int .u32 (V s.e)) := by rw [cell_of_row _ _ _ _ _ _ q0]; rfl
    have c5 : W0.cell? ⟨w.heap.size, 5, none⟩ = some (.int .u32 (V s.f)) := by rw [cell_of_row _ _ _ _ _ _ q0]; rfl
    have c6 : W0.cell? ⟨w.heap.size, 6, none⟩ = some (.int .u32 (V s.g)) := by rw [cell_of_row _ _ _ _ _ _ q0]; rfl
    have c7 : W0.cell? ⟨w.heap.size, 7, none⟩ = some (.int .u32 (V s.h)) := by rw [cell_of_row _ _ _ _ _ _ q0]; rfl
    have Q2 : Hid (∃ z, W0.heap[w.heap.size + 1 + 1]? = some (.cells z 48 (0, 0)) ∧ z.size = 8) := q2
    have Q3 : Hid (∀ t, t < 64 → W0.cell? ⟨g5, t, none⟩ = some (.int .u32 (V (at32 ws t)))) := q3
    have Q4 : Hid (Tab W0) := q4
    have B0 : Hid (Below w.heap.size w W0) := hb0
    clear q0 q2 q3 q4 hb0 hb1 hone hws hcall hi54 hi44 hsz HG HT hN h0 hl
    go_wp2
    go_quiet (fail)
    go_wp2
    go_quiet (fail)
    go_wp2
    go_loopw [6, 7, 8, 9, 10, 11, 12, 13, 35] (fun a b c d e f g h i wr => ∃ (k : Nat) (r : St), k ≤ 64 ∧ i = .int .i64 k ∧ Hid (r = rounds ws s k) ∧ a = .int .u32 (V r.a) ∧ b = .int .u32 (V r.b) ∧ c = .int .u32 (V r.c) ∧ d = .int .u32 (V r.d) ∧ e = .int .u32 (V r.e) ∧ f = .int .u32 (V r.f) ∧ g = .int .u32 (V r.g) ∧ h = .int .u32 (V r.h) ∧ Same W0 wr) (fun _ _ _ _ _ _ _ _ i _ => 64 - (intOf i).toNat)
    case atStart => exact ⟨0, s, by omega, rfl, rfl, rfl, rfl, rfl, rfl, rfl, rfl, rfl, rfl, ⟨rfl, rfl, rfl, rfl⟩⟩
    case round =>
      obtain ⟨k, r, hk, rfl, hr, rfl, rfl, rfl, rfl, rfl, rfl, rfl, rfl, hS⟩ := hrel
      by_cases hlt : k < 64
      · clear c0 c1 c2 c3 c4 c5 c6 c7
        have i0 : (0 : Int) ≤ (k : Int) := by omega
        have i1 : (k : Int) < 64 := by omega
        have t0 : wr.cell? ⟨0, k, none⟩ = some (.int .u32 (V (kAt k))) := (hS.cell _).trans (Q4.out k hlt)
        have t1 := (hS.cell _).trans (Q3.out k hlt)
        go_wp2
        go_quiet ((go_at_call 40; exact Calls.quiet_of_same (bigS1_any _ _)))
        go_wp2_with (go_at_call 41; refine (bigS0_any _ _).mono ?_; rintro e w' ⟨rfl, rfl⟩)
        go_roundw
        case rel => exact ⟨k + 1, round r (kAt k) (at32 ws k), by omega, by go_num, by rw [hr.out]; rfl, rfl, rfl, rfl, rfl, rfl, rfl, rfl, rfl, hS.drewN _⟩
        case measure => simp [intOf]; omega
      · have hF : Hid (F = addSt s r) := hfin.out r (by
          have e : k = 64 := by omega
          rw [hr.out, e])
        clear hfin hr
        have i1 : ¬ (k : Int) < 64 := by omega
        clear hlt hk
        generalize (k : Int) = k64 at *
        clear k
        obtain ⟨z, q2, q3⟩ := Q2.out
        rw [← hS.1] at q2
        rw [← hS.cell] at c0 c1 c2 c3 c4 c5 c6 c7
        have hB : Hid (Below w.heap.size w wr) := hS.below B0.out
        have hi43 : (Tryd.prog.info? 48).map (·.size) = some (encS F).size := size43
        have hone : (encS F).all (·.oneCell') = true := by simp [encS, Value.oneCell']
        have hB2 : Hid (Below w.heap.size w (wr.setRow (w.heap.size + 1 + 1) (encS F))) := hB.out.trans (below_setRow _ _ _ _ (by omega))
        have hR : (wr.setRow (w.heap.size + 1 + 1) (encS F)).heap[w.heap.size + 1 + 1]? = some (.cells (encS F) 48 (0, 0)) := heap_setRow_same _ _ _ _ _ q2
        clear hS Q2 Q3 Q4 B0
        go_wp2_with (first | ((with_reducible refine at_store ?_); go_must (refine store_arm 48 (.tmp 4) (.tmp 118) _ (encS F) _ _ q2 hi43 q3 hone rfl (by rw [hF.out]; rfl) ?_)))
        refine bodyPost_ret (v := .agg (encS F)) ?_ rfl ⟨rfl, hB2⟩
        refine results_cell_row Tryd.results33 _ _ (w.heap.size + 1 + 1) 48 (encS F) (0, 0) _ ?_ hR Tryd.underlying48 rfl hi43
        rfl
  exact hA
end Go.Proofs.YtaefnkaenhmekaaDoor
