/- The contract of sha.schedule: the 64 words of a block. -/
import Derived.Test.YtaefnkaenhmekaaDoorSched
import Derived.Deep.RegionHeld3
import Derived.Deep.MidRow
namespace Go.Proofs.YtaefnkaenhmekaaDoor
open Go.RowKit
attribute [local go_sem] wrap_V wrap_add bits_xor bits_and bits_or bits_not
attribute [local go_sem ↓] shl_any shr_any wrap_byte
theorem size54 : (Tryd.prog.info? 58).map (·.size) = some 64 := by kernel_rfl
set_option maxHeartbeats 800000 in
theorem sched_any (bl : List UInt8) (hl : bl.length = 64) (w : World) :
    Calls Tryd.prog 39 #[.agg (bl.map encB).toArray] w fun e w' => e = .returned (.agg ((wk bl 64).map encW).toArray) ∧ Below w.heap.size w w' := by
  go_enter Tryd.func39, Tryd.ntmps39
  go_wp2
  go_loopw [6] (fun i wr => ∃ k : Nat, k ≤ 16 ∧ i = .int .i64 k ∧ SI bl w wr k) (fun i _ => 16 - (intOf i).toNat)
  case atStart => exact ⟨0, by omega, rfl, SI.start bl w _ _ rfl rfl⟩
  case round =>
    obtain ⟨k, hk, rfl, hSI⟩ := hrel
    by_cases hlt : k < 16
    · have c0 := hSI.blk hl (4 * k) (by omega)
      have c1 := hSI.blk hl (4 * k + 1) (by omega)
      have c2 := hSI.blk hl (4 * k + 2) (by omega)
      have c3 := hSI.blk hl (4 * k + 3) (by omega)
      have i0 : (0 : Int) ≤ (k : Int) := by omega
      have i1 : (k : Int) < 16 := by omega
      have i2 : (k : Int) < 64 := by omega
      have hkeep : ∀ (v : Value) (o : Nat), (wr.setCell ⟨w.heap.size + 1 + 1, k, none⟩ v).cell? ⟨w.heap.size, o, none⟩ = wr.cell? ⟨w.heap.size, o, none⟩ := fun v o => cell_set_other _ _ _ _ _ _ (by omega)
      have hfz := hSI.free k
      obtain ⟨v0, hv0⟩ := hSI.there (by omega)
      have e0 : IntKind.i64.wrap (4 * (k : Int)) = 4 * (k : Int) := by simp [IntKind.wrap, IntKind.bits, IntKind.signed]; omega
      have e1 : IntKind.i64.wrap (4 * (k : Int) + 1) = 4 * (k : Int) + 1 := by simp [IntKind.wrap, IntKind.bits, IntKind.signed]; omega
      have e2 : IntKind.i64.wrap (4 * (k : Int) + 2) = 4 * (k : Int) + 2 := by simp [IntKind.wrap, IntKind.bits, IntKind.signed]; omega
      have e3 : IntKind.i64.wrap (4 * (k : Int) + 3) = 4 * (k : Int) + 3 := by simp [IntKind.wrap, IntKind.bits, IntKind.signed]; omega
      have j0 : (0 : Int) ≤ 4 * (k : Int) ∧ 4 * (k : Int) < 64 := by omega
      have j1 : (0 : Int) ≤ 4 * (k : Int) + 1 ∧ 4 * (k : Int) + 1 < 64 := by omega
      have j2 : (0 : Int) ≤ 4 * (k : Int) + 2 ∧ 4 * (k : Int) + 2 < 64 := by omega
      have j3 : (0 : Int) ≤ 4 * (k : Int) + 3 ∧ 4 * (k : Int) + 3 < 64 := by omega
      have n0 : (4 * (k : Int)).toNat = 4 * k := by omega
      have n1 : (4 * (k : Int) + 1).toNat = 4 * k + 1 := by omega
      have n2 : (4 * (k : Int) + 2).toNat = 4 * k + 2 := by omega
      have n3 : (4 * (k : Int) + 3).toNat = 4 * k + 3 := by omega
      go_wp2
      go_region_held3 (fun w' => w'.cell? ⟨w.heap.size, 4 * k, none⟩ = some (.int .u8 ((byteAt bl (4 * k)).toNat : Int)) ∧ w'.cell? ⟨w.heap.size, 4 * k + 1, none⟩ = some (.int .u8 ((byteAt bl (4 * k + 1)).toNat : Int)) ∧
        w'.cell? ⟨w.heap.size, 4 * k + 2, none⟩ = some (.int .u8 ((byteAt bl (4 * k + 2)).toNat : Int)) ∧ w'.cell? ⟨w.heap.size, 4 * k + 3, none⟩ = some (.int .u8 ((byteAt bl (4 * k + 3)).toNat : Int))) (go_keep) (fail)
      have hS := hSI.step (by omega) _ (wk_lo bl k hlt)
      clear e0 e1 e2 e3 j0 j1 j2 j3 n0 n1 n2 n3 c0 c1 c2 c3 hkeep hfz hv0 hSI
      go_wp2
      go_roundw
      case rel => exact ⟨k + 1, by omega, by go_num, hS⟩
      case measure => simp [intOf]; omega
    · have hk16 : SI bl w wr 16 := by
        have e : k = 16 := by omega
        rw [e] at hSI; exact hSI
      clear hSI
      have i1 : ¬ (k : Int) < 16 := by omega
      generalize (k : Int) = k16 at *
      clear hk hlt k
      go_wp2
      go_loopw [5] (fun i wr => ∃ k : Nat, 16 ≤ k ∧ k ≤ 64 ∧ i = .int .i64 k ∧ SI bl w wr k) (fun i _ => 64 - (intOf i).toNat)
      case atStart => exact ⟨16, by omega, by omega, rfl, hk16⟩
      case round =>
        clear hk16
        obtain ⟨k, hk0, hk, rfl, hSI⟩ := hrel
        by_cases hlt : k < 64
        · have c0 := hSI.word (k - 2) (by omega)
          have c1 := hSI.word (k - 7) (by omega)
          have c2 := hSI.word (k - 15) (by omega)
          have c3 := hSI.word (k - 16) (by omega)
          have hfz := hSI.free k
          obtain ⟨v0, hv0⟩ := hSI.there (by omega)
          have i0 : (0 : Int) ≤ (k : Int) := by omega
          have i2 : (k : Int) < 64 := by omega
          have e0 : IntKind.i64.wrap ((k : Int) - 2) = (k : Int) - 2 := by simp [IntKind.wrap, IntKind.bits, IntKind.signed]; omega
          have e1 : IntKind.i64.wrap ((k : Int) - 7) = (k : Int) - 7 := by simp [IntKind.wrap, IntKind.bits, IntKind.signed]; omega
          have e2 : IntKind.i64.wrap ((k : Int) - 15) = (k : Int) - 15 := by simp [IntKind.wrap, IntKind.bits, IntKind.signed]; omega
          have e3 : IntKind.i64.wrap ((k : Int) - 16) = (k : Int) - 16 := by simp [IntKind.wrap, IntKind.bits, IntKind.signed]; omega
          have j0 : (0 : Int) ≤ (k : Int) - 2 ∧ (k : Int) - 2 < 64 := by omega
          have j1 : (0 : Int) ≤ (k : Int) - 7 ∧ (k : Int) - 7 < 64 := by omega
          have j2 : (0 : Int) ≤ (k : Int) - 15 ∧ (k : Int) - 15 < 64 := by omega
          have j3 : (0 : Int) ≤ (k : Int) - 16 ∧ (k : Int) - 16 < 64 := by omega
          have p0 : (2 : Int) ≤ (k : Int) := by omega
          have p1 : (7 : Int) ≤ (k : Int) := by omega
          have p2 : (15 : Int) ≤ (k : Int) := by omega
          have p3 : (16 : Int) ≤ (k : Int) := by omega
          have n0 : ((k : Int) - 2).toNat = k - 2 := by omega
          have n1 : ((k : Int) - 7).toNat = k - 7 := by omega
          have n2 : ((k : Int) - 15).toNat = k - 15 := by omega
          have n3 : ((k : Int) - 16).toNat = k - 16 := by omega
          have hkeep : ∀ (v : Value) (o : Nat), o < k → (wr.setCell ⟨w.heap.size + 1 + 1, k, none⟩ v).cell? ⟨w.heap.size + 1 + 1, o, none⟩ = wr.cell? ⟨w.heap.size + 1 + 1, o, none⟩ := fun v o h => cell_set_off _ _ _ _ _ (by omega)
          have m0 : k - 2 < k := by omega
          have m1 : k - 7 < k := by omega
          have m2 : k - 15 < k := by omega
          have m3 : k - 16 < k := by omega
          go_wp2
          go_region_held3 (fun w' => w'.cell? ⟨w.heap.size + 1 + 1, k - 2, none⟩ = some (.int .u32 (V (at32 (wk bl k) (k - 2)))) ∧ w'.cell? ⟨w.heap.size + 1 + 1, k - 7, none⟩ = some (.int .u32 (V (at32 (wk bl k) (k - 7)))) ∧
            w'.cell? ⟨w.heap.size + 1 + 1, k - 15, none⟩ = some (.int .u32 (V (at32 (wk bl k) (k - 15)))) ∧ w'.cell? ⟨w.heap.size + 1 + 1, k - 16, none⟩ = some (.int .u32 (V (at32 (wk bl k) (k - 16))))) (go_keep)
            (first | (go_at_call 42; refine (smlS1_any _ _).mono ?_; rintro e w' ⟨rfl, rfl⟩) | (go_at_call 43; refine (smlS0_any _ _).mono ?_; rintro e w' ⟨rfl, rfl⟩))
          have hS := hSI.step (by omega) _ (wk_hi bl k hk0)
          clear e0 e1 e2 e3 j0 j1 j2 j3 n0 n1 n2 n3 c0 c1 c2 c3 hkeep hfz hv0 hSI m0 m1 m2 m3 p0 p1 p2 p3
          go_wp2
          go_roundw
          case rel => exact ⟨k + 1, by omega, by omega, by go_num, hS⟩
          case measure => simp [intOf]; omega
        · obtain rfl : k = 64 := by omega
          obtain ⟨h1, ⟨z, h2, h3⟩, h4, h5⟩ := hSI
          rw [fillW_full _ (wk_length _ _)] at h4
          have hsz : ((wk bl 64).map encW).toArray.size = 64 := by simp [wk_length]
          have hi54 : (Tryd.prog.info? 58).map (·.size) = some ((wk bl 64).map encW).toArray.size := by rw [hsz]; exact size54
          have hB : Hid (Below w.heap.size w (wr.setRow (w.heap.size + 1) ((wk bl 64).map encW).toArray)) := h5.trans (below_setRow _ _ _ _ (by omega))
          have hR : (wr.setRow (w.heap.size + 1) ((wk bl 64).map encW).toArray).heap[w.heap.size + 1]? = some (.cells ((wk bl 64).map encW).toArray 58 (0, 0)) := heap_setRow_same _ _ _ _ _ h2
          have hone : ((wk bl 64).map encW).toArray.all (·.oneCell') = true := all_oneCell_encW _
          clear h1 h5
          generalize hRe : ((wk bl 64).map encW).toArray = R at *
          have HRe : Hid (((wk bl 64).map encW).toArray = R) := hRe
          clear hRe
          have hRz : z.size = R.size := by rw [h3, hsz]
          go_wp2_with (first | (with_reducible refine at_load ?_; refine load_arm 68 58 (.tmp 3) _ _ _ _ _ _ h4 Tryd.underlying58 hi54 rfl ?_) | (with_reducible refine at_store ?_; refine store_arm 58 (.tmp 2) (.tmp 68) _ _ _ _ h2 hi54 hRz hone rfl rfl ?_))
          refine bodyPost_ret (v := .agg R) ?_ rfl ⟨by rw [HRe.out], hB⟩
          refine results_cell_row Tryd.results39 _ _ (w.heap.size + 1) 58 R (0, 0) _ ?_ hR Tryd.underlying58 rfl hi54
          rfl
end Go.Proofs.YtaefnkaenhmekaaDoor
