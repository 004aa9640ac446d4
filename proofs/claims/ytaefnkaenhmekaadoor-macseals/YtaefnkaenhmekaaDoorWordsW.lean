/- The contract of the document's words. -/
import Derived.Test.YtaefnkaenhmekaaDoorRef
import Derived.Test.YtaefnkaenhmekaaDoorLeaf
import Derived.Deep.RegionHeld3
import Derived.Deep.RegionLaw
import Derived.Deep.AppendLies
import Derived.OwnWalk
import Derived.Deep.QuietTactic
import Derived.BigQuiet
import Derived.Deep.DeepMust
namespace Go.Proofs.YtaefnkaenhmekaaDoor
open Go.RowKit
attribute [local go_sem] wrap_V wrap_add bits_xor bits_and bits_or bits_not
attribute [local go_sem ↓] shl_any shr_any wrap_byte
theorem inf37 : (Tryd.prog.info? 42).map (fun i => (i.zero, i.size, i.bytes)) = some (some (.int .u32 0), 1, 4) := by kernel_rfl
theorem bel_drewN {B : Nat} {a w : World} (h : Below B a w) (n : Nat) : Below B a (w.drewN n) := ⟨h.os, h.tape, h.output, h.size, h.block⟩
/-- the words so far are owned -/
def WI (bl : List UInt8) (w wr : World) (v : Value) (k : Nat) : Prop := wr.ownsRow w.heap.size 42 1 v k ((wk bl k).map encW) ∧ Below w.heap.size w wr
set_option maxRecDepth 100000 in
set_option maxHeartbeats 3200000 in
theorem words_any (bl : List UInt8) (g o cap : Nat) (w : World) (hg : g < w.heap.size) (hc : ∀ i, i < 64 → w.cell? ⟨g, o + i, none⟩ = some (.int .u8 ((byteAt bl i).toNat : Int))) :
    Calls Tryd.prog 36 #[.slice (some ⟨g, o, none⟩) 64 cap] w fun e w' => ∃ h cap', e = .returned (.slice (some ⟨h, 0, none⟩) 64 cap') ∧ (∀ t, t < 64 → w'.cell? ⟨h, t, none⟩ = some (.int .u32 (V (at32 (wk bl 64) t)))) ∧ h < w'.heap.size ∧ Below w.heap.size w w' := by
  obtain ⟨i0, hi, hz0, hz1, hz2⟩ := info_parts inf37
  have HC : Hid (∀ i, i < 64 → w.cell? ⟨g, o + i, none⟩ = some (.int .u8 ((byteAt bl i).toNat : Int))) := hc
  clear hc
  go_enter Tryd.func36, Tryd.ntmps36
  go_wp2
  go_loopw [3, 4] (fun v i wr => ∃ k : Nat, k ≤ 64 ∧ i = .int .i64 k ∧ WI bl w wr v k) (fun _ i _ => 64 - (intOf i).toNat)
  case atStart => exact ⟨0, by omega, rfl, World.ownsRow_nil _ _ _ _, Below.refl _ _⟩
  case round =>
    obtain ⟨k, hk, rfl, hown, hbel⟩ := hrel
    have zr := hbel.size
    have gr : g < wr.heap.size := by omega
    have ag : u3.ownBlock ≠ some g := fun e => by have := (hown.lt g e).1; omega
    have hN : w.heap.size ≤ wr.heap.size := zr
    by_cases hlt : k < 64
    · have i0' : (0 : Int) ≤ (k : Int) := by omega
      have i1' : (k : Int) < 64 := by omega
      by_cases h16 : k < 16
      · have b0 := (hbel.cell (p := ⟨g, o + 4 * k, none⟩) hg).trans (HC.out (4 * k) (by omega))
        have b1 := (hbel.cell (p := ⟨g, o + (4 * k + 1), none⟩) hg).trans (HC.out (4 * k + 1) (by omega))
        have b2 := (hbel.cell (p := ⟨g, o + (4 * k + 2), none⟩) hg).trans (HC.out (4 * k + 2) (by omega))
        have b3 := (hbel.cell (p := ⟨g, o + (4 * k + 3), none⟩) hg).trans (HC.out (4 * k + 3) (by omega))
        have hstep : Hid (wk bl (k + 1) = wk bl k ++ [word4 (byteAt bl (4 * k)) (byteAt bl (4 * k + 1)) (byteAt bl (4 * k + 2)) (byteAt bl (4 * k + 3))]) := wk_lo bl k h16
        generalize byteAt bl (4 * k) = x0 at *
        generalize byteAt bl (4 * k + 1) = x1 at *
        generalize byteAt bl (4 * k + 2) = x2 at *
        generalize byteAt bl (4 * k + 3) = x3 at *
        rw [← word4_add] at hstep
        have HST : Hid (wk bl (k + 1) = wk bl k ++ [b32 x0 <<< 24 + b32 x1 <<< 16 + b32 x2 <<< 8 + b32 x3]) := hstep
        clear hstep
        have i2' : (k : Int) < 16 := by omega
        have e0 : IntKind.i64.wrap (4 * (k : Int)) = 4 * (k : Int) := by simp [IntKind.wrap, IntKind.bits, IntKind.signed]; omega
        have e1 : IntKind.i64.wrap (4 * (k : Int) + 1) = 4 * (k : Int) + 1 := by simp [IntKind.wrap, IntKind.bits, IntKind.signed]; omega
        have e2 : IntKind.i64.wrap (4 * (k : Int) + 2) = 4 * (k : Int) + 2 := by simp [IntKind.wrap, IntKind.bits, IntKind.signed]; omega
        have e3 : IntKind.i64.wrap (4 * (k : Int) + 3) = 4 * (k : Int) + 3 := by simp [IntKind.wrap, IntKind.bits, IntKind.signed]; omega
        have j0 : (0 : Int) ≤ 4 * (k : Int) ∧ 4 * (k : Int) < 64 := by omega
        have j1 : (0 : Int) ≤ 4 * (k : Int) + 1 ∧ 4 * (k : Int) + 1 < 64 := by omega
        have j2 : (0 : Int) ≤ 4 * (k : Int) + 2 ∧ 4 * (k : Int) + 2 < 64 := by omega
        have j3 : (0 : Int) ≤ 4 * (k : Int) + 3 ∧ 4 * (k : Int) + 3 < 64 := by omega
        have n0 : (4 * (k : Int)).toNat = 4 * k := by omega
        have n1 : (4 * (k : Int) + 1).toNat = 4 * k + 1 := by omega
        have n2 : (4 * (k : Int) + 2).toNat = 4 * k + 2 := by omega
        have n3 : (4 * (k : Int) + 3).toNat = 4 * k + 3 := by omega
        go_wp2
        go_region_held3 (fun w' => w'.cell? ⟨g, o + 4 * k, none⟩ = some (.int .u8 (x0.toNat : Int)) ∧ w'.cell? ⟨g, o + (4 * k + 1), none⟩ = some (.int .u8 (x1.toNat : Int)) ∧ w'.cell? ⟨g, o + (4 * k + 2), none⟩ = some (.int .u8 (x2.toNat : Int)) ∧ w'.cell? ⟨g, o + (4 * k + 3), none⟩ = some (.int .u8 (x3.toNat : Int)))
          (first | go_keep | (go_split_ands; refine ⟨?_, ?_, ?_, ?_⟩ <;> (rw [hgrow.cell_far _ (by simp; omega) (Ne.symm ag)]; assumption)))
          ((refine step_append_lies _ (by rfl) _ _ _ (by rfl) w.heap.size 42 i0 _ 1 4 Tryd.underlying43 hi hz0 hz1 hz2 rfl (by omega) u3 k _ (by rfl) ((hown.alloc _).drew) ⟨wr.heap.size, 0, none⟩ 1 1 [.int .u32 (V (b32 x0 <<< 24 + b32 x1 <<< 16 + b32 x2 <<< 8 + b32 x3))] (by rfl) (by rfl) (World.news_of_block (cs := #[.int .u32 (V (b32 x0 <<< 24 + b32 x1 <<< 16 + b32 x2 <<< 8 + b32 x3))]) (t := 42) (fr := (0, 0)) (heap_alloc_new wr _)) (by simp [Value.oneCell']) (by omega) (by unfold maxLen; omega) (by omega) (by simp; omega) (wr.heap.size + 1) (by simp) ?_; intro gg cap' w1 hown1 hgrow hat hlt1))
        clear e0 e1 e2 e3 j0 j1 j2 j3 n0 n1 n2 n3 b0 b1 b2 b3
        go_wp2
        go_roundw
        case rel =>
          refine ⟨k + 1, by omega, by go_num, ?_, ((hbel.alloc zr _).drew).grown hgrow (by simp; omega) (fun r hr => (hown.lt r hr).1)⟩
          rw [HST.out, List.map_append]; exact hown1
        case measure => simp [intOf]; omega
      · obtain ⟨h, cap0, rfl, hh1⟩ : ∃ h cap0, u3 = .slice (some ⟨h, 0, none⟩) k cap0 ∧ w.heap.size ≤ h := by
          obtain ⟨h, cap0, e, r⟩ := hown.form (by omega)
          exact ⟨h, cap0, e, (hown.lt h (by rw [e]; rfl)).1⟩
        have hcell : ∀ j, j < k → wr.cell? ⟨h, j, none⟩ = some (.int .u32 (V (at32 (wk bl k) j))) := fun j hj => by
          rw [hown.cellAt j (by omega), ← List.getElem?_toArray, words_get _ _ (by rw [wk_length]; exact hj)]
        have c0 := hcell (k - 2) (by omega)
        have c1 := hcell (k - 7) (by omega)
        have c2 := hcell (k - 15) (by omega)
        have c3 := hcell (k - 16) (by omega)
        have hst : wk bl (k + 1) = wk bl k ++ [smlS1 (at32 (wk bl k) (k - 2)) + at32 (wk bl k) (k - 7) + smlS0 (at32 (wk bl k) (k - 15)) + at32 (wk bl k) (k - 16)] := wk_hi bl k (by omega)
        generalize at32 (wk bl k) (k - 2) = y2 at *
        generalize at32 (wk bl k) (k - 7) = y7 at *
        generalize at32 (wk bl k) (k - 15) = y15 at *
        generalize at32 (wk bl k) (k - 16) = y16 at *
        have HST : Hid (wk bl (k + 1) = wk bl k ++ [(rotr y2 17 ^^^ rotr y2 19 ^^^ y2 >>> 10) + y7 + (rotr y15 7 ^^^ rotr y15 18 ^^^ y15 >>> 3) + y16]) := hst
        have i2' : ¬ (k : Int) < 16 := by omega
        have e0 : IntKind.i64.wrap ((k : Int) - 2) = (k : Int) - 2 := by simp [IntKind.wrap, IntKind.bits, IntKind.signed]; omega
        have e1 : IntKind.i64.wrap ((k : Int) - 7) = (k : Int) - 7 := by simp [IntKind.wrap, IntKind.bits, IntKind.signed]; omega
        have e2 : IntKind.i64.wrap ((k : Int) - 15) = (k : Int) - 15 := by simp [IntKind.wrap, IntKind.bits, IntKind.signed]; omega
        have e3 : IntKind.i64.wrap ((k : Int) - 16) = (k : Int) - 16 := by simp [IntKind.wrap, IntKind.bits, IntKind.signed]; omega
        have j0 : (0 : Int) ≤ (k : Int) - 2 ∧ (k : Int) - 2 < (k : Int) := by omega
        have j1 : (0 : Int) ≤ (k : Int) - 7 ∧ (k : Int) - 7 < (k : Int) := by omega
        have j2 : (0 : Int) ≤ (k : Int) - 15 ∧ (k : Int) - 15 < (k : Int) := by omega
        have j3 : (0 : Int) ≤ (k : Int) - 16 ∧ (k : Int) - 16 < (k : Int) := by omega
        have p0 : (2 : Int) ≤ (k : Int) := by omega
        have p1 : (7 : Int) ≤ (k : Int) := by omega
        have p2 : (15 : Int) ≤ (k : Int) := by omega
        have p3 : (16 : Int) ≤ (k : Int) := by omega
        have n0 : ((k : Int) - 2).toNat = k - 2 := by omega
        have n1 : ((k : Int) - 7).toNat = k - 7 := by omega
        have n2 : ((k : Int) - 15).toNat = k - 15 := by omega
        have n3 : ((k : Int) - 16).toNat = k - 16 := by omega
        have hr := hown.lt h rfl
        clear hcell hst
        go_wp2
        go_quiet (fail)
        go_wp2_with (go_at_call 38; refine (refrot_any _ _ (by omega) (by omega) _).mono ?_; rintro e w' ⟨rfl, n, rfl⟩)
        go_region_law ((refine step_append_lies _ (by rfl) _ _ _ (by rfl) w.heap.size 42 i0 _ 1 4 Tryd.underlying43 hi hz0 hz1 hz2 rfl (by omega) (.slice (some ⟨h, 0, none⟩) k cap0) k _ (by rfl) (by exact hown.alloc _) ⟨wr.heap.size, 0, none⟩ 1 1 [.int .u32 (V ((rotr y2 17 ^^^ rotr y2 19 ^^^ y2 >>> 10) + y7 + (rotr y15 7 ^^^ rotr y15 18 ^^^ y15 >>> 3) + y16))] (by rfl) (by rfl) (World.news_of_block (cs := #[.int .u32 (V ((rotr y2 17 ^^^ rotr y2 19 ^^^ y2 >>> 10) + y7 + (rotr y15 7 ^^^ rotr y15 18 ^^^ y15 >>> 3) + y16))]) (t := 42) (fr := (0, 0)) (by exact heap_alloc_new wr _)) (by simp [Value.oneCell']) (by omega) (by unfold maxLen; omega) (by omega) (by simp; omega) (wr.heap.size + 1) (by simp) ?_; intro gg cap' w1 hown1 hgrow hat hlt1))
        all_goals
          clear e0 e1 e2 e3 j0 j1 j2 j3 n0 n1 n2 n3 p0 p1 p2 p3 c0 c1 c2 c3
          go_wp2
          go_roundw
          case rel =>
            refine ⟨k + 1, by omega, by go_num, ?_, ((bel_drewN hbel _).alloc (by simp; omega) _).grown hgrow (by simp; omega) (fun r hr => (hown.lt r hr).1)⟩
            rw [HST.out, List.map_append]; exact hown1
          case measure => simp [intOf]; omega
    · obtain rfl : k = 64 := by omega
      obtain ⟨h, cap0, rfl, hh1, hh2⟩ := hown.form (by omega)
      have hcell : Hid (∀ j, j < 64 → wr.cell? ⟨h, j, none⟩ = some (.int .u32 (V (at32 (wk bl 64) j)))) := fun j hj => by
        rw [hown.cellAt j (by omega), ← List.getElem?_toArray, words_get _ _ (by rw [wk_length]; exact hj)]
      have hB : Hid (Below w.heap.size w wr) := hbel
      clear hown hbel ag
      go_wp2
      go_ret
      exact ⟨h, cap0, rfl, hcell, hh2, hB⟩
end Go.Proofs.YtaefnkaenhmekaaDoor
