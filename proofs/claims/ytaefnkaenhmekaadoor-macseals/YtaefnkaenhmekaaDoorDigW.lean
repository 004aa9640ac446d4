/- The contract of sha.digest: the 32 bytes of a state. -/
import Derived.Test.YtaefnkaenhmekaaDoorDig
import Derived.Deep.DeepMust
namespace Go.Proofs.YtaefnkaenhmekaaDoor
open Go.RowKit
attribute [local go_sem] wrap_V wrap_add bits_xor bits_and bits_or bits_not
attribute [local go_sem ↓] shl_any shr_any wrap_u8_V
theorem sz43 : (Tryd.prog.info? 48).map (·.size) = some 8 := by kernel_rfl
set_option maxHeartbeats 800000 in
theorem digest_any (s : St) (w : World) :
    Calls Tryd.prog 34 #[.agg (encS s)] w fun e w' => e = .returned (.string ⟨(dig s).toArray⟩) ∧ Below w.heap.size w w' := by
  have hget := fun k h => encS_get s k h
  have hi43 : (Tryd.prog.info? 48).map (·.size) = some (encS s).size := sz43
  have h8 : (encS s).size = 8 := rfl
  generalize encS s = A at *
  have HG : Hid (∀ k, k < 8 → A[k]? = some (.int .u32 (V (at32 s.list k)))) := hget
  clear hget
  have q0 : ∀ o1 : Obj, ∀ o2 : Obj, ((w.alloc o1).alloc o2).heap[w.heap.size]? = some o1 := fun o1 o2 => by rw [heap_alloc_old _ _ (by simp), heap_alloc_new]
  go_enter Tryd.func34, Tryd.ntmps34
  go_wp2_with (first | ((with_reducible refine at_load ?_); go_must (refine load_arm 6 48 (.tmp 1) _ _ A _ _ _ (q0 _ _) Tryd.underlying48 hi43 rfl ?_)))
  go_loopw [7] (fun i wr => ∃ k : Nat, k ≤ 8 ∧ i = .int .i64 k ∧ DI s w wr k) (fun i _ => 8 - (intOf i).toNat)
  case atStart => exact ⟨0, by omega, rfl, DI.start s w _ _ rfl⟩
  case round =>
    clear q0
    obtain ⟨k, hk, rfl, hD⟩ := hrel
    by_cases hlt : k < 8
    · have i0 : (0 : Int) ≤ (k : Int) := by omega
      have i1 : (k : Int) < 8 := by omega
      have hA : A[k]? = some (.int .u32 (V (at32 s.list k))) := HG.out k hlt
      have n0 : (4 * (k : Int)).toNat = 4 * k := by omega
      have n1 : (4 * (k : Int) + 1).toNat = 4 * k + 1 := by omega
      have n2 : (4 * (k : Int) + 2).toNat = 4 * k + 2 := by omega
      have n3 : (4 * (k : Int) + 3).toNat = 4 * k + 3 := by omega
      have f0 := hD.free (4 * k)
      have f1 := hD.free (4 * k + 1)
      have f2 := hD.free (4 * k + 2)
      have f3 := hD.free (4 * k + 3)
      obtain ⟨v0, g0⟩ := Option.isSome_iff_exists.1 (hD.there hk (4 * k) (by omega))
      obtain ⟨v1, g1⟩ := Option.isSome_iff_exists.1 (hD.there hk (4 * k + 1) (by omega))
      obtain ⟨v2, g2⟩ := Option.isSome_iff_exists.1 (hD.there hk (4 * k + 2) (by omega))
      obtain ⟨v3, g3⟩ := Option.isSome_iff_exists.1 (hD.there hk (4 * k + 3) (by omega))
      have hS := hD.step hlt
      have hidx : ∀ W : World, (Instr.index 48 (.agg A) (.int .i64 (k : Int))).run Tryd.prog W = .ok (.int .u32 (V (at32 s.list k))) W := fun W => by
        simp [Instr.index, run_underlying Tryd.underlying48, asIntOf, i0, go_sem, part, hA]
        intro h; omega
      clear hA
      go_wp2
      go_roundw
      case rel => exact ⟨k + 1, by omega, by go_num, hS⟩
      case measure => simp [intOf]; omega
    · have h8' : DI s w wr 8 := by
        have e : k = 8 := by omega
        rw [e] at hD; exact hD
      have hconv := run_convert_bytes_back (P := Tryd.prog) wr 32 9 5 ⟨w.heap.size + 1, 0, none⟩ 32 (dig s) Tryd.underlying32 Tryd.underlying5 Tryd.underlying9 (fun j hj => h8'.bytes j hj)
      rw [dig_length] at hconv
      have hB : Hid (Below w.heap.size w wr) := h8'.2
      have i1 : ¬ (k : Int) < 8 := by omega
      clear hD hk hlt h8'
      generalize (k : Int) = k8 at *
      clear k
      go_wp2
      go_ret
      exact ⟨rfl, hB⟩
end Go.Proofs.YtaefnkaenhmekaaDoor
