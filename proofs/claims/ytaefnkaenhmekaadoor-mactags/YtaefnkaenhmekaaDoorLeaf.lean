/- The leaf functions: rotations and the four sigmas, as functions on 32-bit words. -/
import Derived.Test.YtaefnkaenhmekaaDoorProg
import Derived.Test.YtaefnkaenhmekaaDoorPure
import Derived.Deep.QuietTactic
import Derived.BigQuiet
namespace Go.Proofs.YtaefnkaenhmekaaDoor
open Go.RowKit
attribute [local go_sem] wrap_V wrap_add bits_xor bits_and bits_or bits_not
attribute [local go_sem ↓] shl_any shr_any
def rotr (x : BitVec 32) (n : Nat) : BitVec 32 := (x >>> n) ||| (x <<< (32 - n))

set_option maxHeartbeats 400000 in
theorem rotl_any (x : BitVec 32) (n m : Nat) (h : n + m = 32) (hn : 0 < n) (w : World) :
    Calls Tryd.prog 45 #[.int .u32 (V x), .int .i64 (-(n : Int))] w fun e w' => e = .returned (.int .u32 (V (rotr x n))) ∧ w' = w := by
  have hc := rot_count n m h hn
  have hr : IntKind.u64.wrap (32 - (m : Int)) = (n : Int) := by simp [IntKind.wrap, IntKind.bits, IntKind.signed]; omega
  have hfin : Hid (rotr x n = (x <<< m) ||| (x >>> n)) := by
    unfold rotr; rw [show 32 - n = m from by omega, BitVec.or_comm]; exact rfl
  go_enter Tryd.func45, Tryd.ntmps45
  go_wp2
  go_ret
  rw [hfin.out]
  exact ⟨rfl, rfl⟩
set_option maxHeartbeats 400000 in
theorem rotr_any (x : BitVec 32) (n : Int) (h : n ≤ 32) (hn : 0 < n) (w : World) :
    Calls Tryd.prog 44 #[.int .u32 (V x), .int .i64 n] w fun e w' => e = .returned (.int .u32 (V (rotr x n.toNat))) ∧ w' = w := by
  obtain ⟨n, rfl⟩ := Int.eq_ofNat_of_zero_le (show 0 ≤ n by omega)
  rw [Int.toNat_natCast]
  go_enter Tryd.func44, Tryd.ntmps44
  go_wp2_with (go_at_call 45; refine (rotl_any x n (32 - n) (by omega) (by omega) _).mono ?_; rintro e w' ⟨rfl, rfl⟩)
  go_ret
  exact ⟨rfl, rfl⟩
def bigS1 (x : BitVec 32) : BitVec 32 := rotr x 6 ^^^ rotr x 11 ^^^ rotr x 25
def bigS0 (x : BitVec 32) : BitVec 32 := rotr x 2 ^^^ rotr x 13 ^^^ rotr x 22
def smlS1 (x : BitVec 32) : BitVec 32 := rotr x 17 ^^^ rotr x 19 ^^^ (x >>> 10)
def smlS0 (x : BitVec 32) : BitVec 32 := rotr x 7 ^^^ rotr x 18 ^^^ (x >>> 3)
set_option maxHeartbeats 400000 in
theorem bigS1_any (x : BitVec 32) (w : World) :
    Calls Tryd.prog 40 #[.int .u32 (V x)] w fun e w' => e = .returned (.int .u32 (V (bigS1 x))) ∧ w' = w := by
  go_enter Tryd.func40, Tryd.ntmps40
  go_wp2_with (go_at_call 44; refine (rotr_any x _ (by omega) (by omega) _).mono ?_; rintro e w' ⟨rfl, rfl⟩)
  go_ret
  exact ⟨rfl, rfl⟩
set_option maxHeartbeats 400000 in
theorem bigS0_any (x : BitVec 32) (w : World) :
    Calls Tryd.prog 41 #[.int .u32 (V x)] w fun e w' => e = .returned (.int .u32 (V (bigS0 x))) ∧ w' = w := by
  go_enter Tryd.func41, Tryd.ntmps41
  go_wp2_with (go_at_call 44; refine (rotr_any x _ (by omega) (by omega) _).mono ?_; rintro e w' ⟨rfl, rfl⟩)
  go_ret
  exact ⟨rfl, rfl⟩
set_option maxHeartbeats 400000 in
theorem smlS1_any (x : BitVec 32) (w : World) :
    Calls Tryd.prog 42 #[.int .u32 (V x)] w fun e w' => e = .returned (.int .u32 (V (smlS1 x))) ∧ w' = w := by
  go_enter Tryd.func42, Tryd.ntmps42
  go_wp2_with (go_at_call 44; refine (rotr_any x _ (by omega) (by omega) _).mono ?_; rintro e w' ⟨rfl, rfl⟩)
  go_ret
  exact ⟨rfl, rfl⟩
set_option maxHeartbeats 400000 in
theorem smlS0_any (x : BitVec 32) (w : World) :
    Calls Tryd.prog 43 #[.int .u32 (V x)] w fun e w' => e = .returned (.int .u32 (V (smlS0 x))) ∧ w' = w := by
  go_enter Tryd.func43, Tryd.ntmps43
  go_wp2_with (go_at_call 44; refine (rotr_any x _ (by omega) (by omega) _).mono ?_; rintro e w' ⟨rfl, rfl⟩)
  go_ret
  exact ⟨rfl, rfl⟩
set_option maxHeartbeats 400000 in
theorem refrot_any (x : BitVec 32) (n : Int) (h : n ≤ 32) (hn : 0 < n) (w : World) :
    Calls Tryd.prog 38 #[.int .u32 (V x), .int .i64 n] w fun e w' => e = .returned (.int .u32 (V (rotr x n.toNat))) ∧ ∃ k, w' = w.drewN k := by
  obtain ⟨n, rfl⟩ := Int.eq_ofNat_of_zero_le (show 0 ≤ n by omega)
  rw [Int.toNat_natCast]
  go_enter Tryd.func38, Tryd.ntmps38
  go_wp2
  go_quiet (fail)
  go_wp2
  go_ret
  exact ⟨rfl, _, rfl⟩
end Go.Proofs.YtaefnkaenhmekaaDoor
