/- The contract of the book's SameItems, at two lists that are the same. -/
import Derived.Test.YtelhfdhgcojmlaaDoorEncP
namespace Go.Proofs.YtelhfdhgcojmlaaDoor
open Go.RowKit
theorem neq_same (t : Bool) (n : Int) (s : ByteArray) (W : World) : (binOp .neq 38 (.agg #[.bool t, .int .i64 n, .string s]) (.agg #[.bool t, .int .i64 n, .string s])).run Tryd.prog W = .ok (.bool false) W := by
  simp [go_sem]
set_option maxRecDepth 100000 in
set_option maxHeartbeats 1600000 in
theorem same_any (va vb : Value) (l : List It) (w : World) (ha : Lst w va l) (hb : Lst w vb l) (ho : okL l) :
    Calls Tryd.prog 12 #[va, vb] w fun e w' => e = .returned (.bool true) ∧ Below w.heap.size w w' := by
  obtain ⟨a, b, off, cap, rfl, hA, hI⟩ := ha
  obtain ⟨a2, b2, off2, cap2, rfl, hA2, hI2⟩ := hb
  have HA := hide hA
  have HI := hide hI
  have HA2 := hide hA2
  have HI2 := hide hI2
  have l0 : (l.length : Int) ≤ 4398046510976 := by have := ho.1; omega
  obtain ⟨N, hN⟩ : ∃ N, N = l.length := ⟨_, rfl⟩
  have HN := hide hN
  rw [← hN] at l0 ⊢
  clear hN hA hI hA2 hI2 ho
  go_enter Tryd.func12, Tryd.ntmps12
  go_wp2_with fail
  go_loopw [5] (fun i wr => ∃ k : Nat, k ≤ N ∧ i = .int .i64 k ∧ Below w.heap.size w wr) (fun i _ => N - (intOf i).toNat)
  case atStart => exact ⟨0, by omega, rfl, Below.refl _ _⟩
  case round =>
    obtain ⟨k, hk, rfl, hbel⟩ := hrel
    have HB := hide hbel
    clear hbel
    by_cases hlt : k < N
    · have j1 : (k : Int) < (N : Int) := by omega
      have j0 : (0 : Int) ≤ (k : Int) := by omega
      obtain ⟨x, hx⟩ : ∃ x, l[k]? = some x := ⟨_, List.getElem?_eq_getElem (by rw [← HN.out]; exact hlt)⟩
      obtain ⟨hbw, rfl⟩ := HA.out (by rw [← HN.out]; omega)
      obtain ⟨hbw2, rfl⟩ := HA2.out (by rw [← HN.out]; omega)
      obtain ⟨q0, q1, q2⟩ := HI.out k x hx
      obtain ⟨r0, r1, r2⟩ := HI2.out k x hx
      have c0 := (HB.out.cell (p := ⟨b, off + k * 3, none⟩) hbw).trans q0
      have c1 := (HB.out.cell (p := ⟨b, off + k * 3 + 1, none⟩) hbw).trans q1
      have c2 := (HB.out.cell (p := ⟨b, off + k * 3 + 2, none⟩) hbw).trans q2
      have d0 := (HB.out.cell (p := ⟨b2, off2 + k * 3, none⟩) hbw2).trans r0
      have d1 := (HB.out.cell (p := ⟨b2, off2 + k * 3 + 1, none⟩) hbw2).trans r1
      have d2 := (HB.out.cell (p := ⟨b2, off2 + k * 3 + 2, none⟩) hbw2).trans r2
      clear q0 q1 q2 r0 r1 r2 hx
      have hq := neq_same
      go_wp2
      go_quiet (fail)
      go_wp2
      go_roundw
      case rel => exact ⟨k + 1, by omega, by go_num, below_drawn HB.out _⟩
      case measure => simp [intOf]; omega
    · go_wp2
      go_ret
      exact ⟨rfl, HB.out⟩
end Go.Proofs.YtelhfdhgcojmlaaDoor
