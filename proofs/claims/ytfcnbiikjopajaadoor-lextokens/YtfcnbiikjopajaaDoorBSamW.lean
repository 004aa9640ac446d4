/- The contract of the book's SameTokens, at one list. -/
import Derived.Test.YtfcnbiikjopajaaDoorTLst
namespace Go.Proofs.YtfcnbiikjopajaaDoor
open Go.RowKit
theorem neq_one (k : Int) (s : ByteArray) (n t a : Int) (W : World) : (binOp .neq 41 (.agg #[.int .i64 k, .string s, .int .i64 n, .int .i64 t, .int .i64 a]) (.agg #[.int .i64 k, .string s, .int .i64 n, .int .i64 t, .int .i64 a])).run Tryd.prog W = .ok (.bool false) W := by
  simp [go_sem]
set_option maxRecDepth 100000 in
set_option maxHeartbeats 3200000 in
theorem bsame_one (va vb : Value) (la : List Tv) (w : World) (ha : Lst w va la) (hb : Lst w vb la) (hla : la.length ≤ 1048576) :
    Calls Tryd.prog 11 #[va, vb] w fun e w' => e = .returned (.bool true) ∧ Below w.heap.size w w' := by
  obtain ⟨a, b, off, cap, rfl, hA, hI⟩ := ha
  obtain ⟨a2, b2, off2, cap2, rfl, hA2, hI2⟩ := hb
  have HA := hide hA
  have HI := hide hI
  have HA2 := hide hA2
  have HI2 := hide hI2
  obtain ⟨N, hN⟩ : ∃ N, N = la.length := ⟨_, rfl⟩
  have HN := hide hN
  rw [← hN]
  have l0 : (N : Int) ≤ 1048576 := by omega
  clear hN hA hI hA2 hI2 hla
  go_enter Tryd.func11, Tryd.ntmps11
  go_wp2_with fail
  go_loopw [5] (fun i wr => ∃ k : Nat, k ≤ N ∧ i = .int .i64 (k : Int) ∧ Hid (Below w.heap.size w wr)) (fun i _ => N - (intOf i).toNat)
  case atStart => exact ⟨0, by omega, rfl, Below.refl _ _⟩
  case round =>
    obtain ⟨k, hk, rfl, hh⟩ := hrel
    have HB := hide hh.out
    by_cases hlt : k < N
    · have j1 : (k : Int) < (N : Int) := by omega
      have j0 : (0 : Int) ≤ (k : Int) := by omega
      obtain ⟨x, hx⟩ : ∃ x, la[k]? = some x := ⟨_, List.getElem?_eq_getElem (by rw [← HN.out]; exact hlt)⟩
      obtain ⟨hbw, rfl⟩ := HA.out (by rw [← HN.out]; omega)
      obtain ⟨hbw2, rfl⟩ := HA2.out (by rw [← HN.out]; omega)
      obtain ⟨q0, q1, q2, q3, q4⟩ := HI.out k x hx
      obtain ⟨r0, r1, r2, r3, r4⟩ := HI2.out k x hx
      have c0 := (HB.out.cell (p := ⟨b, off + k * 5, none⟩) hbw).trans q0
      have c1 := (HB.out.cell (p := ⟨b, off + k * 5 + 1, none⟩) hbw).trans q1
      have c2 := (HB.out.cell (p := ⟨b, off + k * 5 + 2, none⟩) hbw).trans q2
      have c3 := (HB.out.cell (p := ⟨b, off + k * 5 + 3, none⟩) hbw).trans q3
      have c4 := (HB.out.cell (p := ⟨b, off + k * 5 + 4, none⟩) hbw).trans q4
      have d0 := (HB.out.cell (p := ⟨b2, off2 + k * 5, none⟩) hbw2).trans r0
      have d1 := (HB.out.cell (p := ⟨b2, off2 + k * 5 + 1, none⟩) hbw2).trans r1
      have d2 := (HB.out.cell (p := ⟨b2, off2 + k * 5 + 2, none⟩) hbw2).trans r2
      have d3 := (HB.out.cell (p := ⟨b2, off2 + k * 5 + 3, none⟩) hbw2).trans r3
      have d4 := (HB.out.cell (p := ⟨b2, off2 + k * 5 + 4, none⟩) hbw2).trans r4
      obtain ⟨x0, x1, x2, x3, x4⟩ := x
      simp only [] at c0 c1 c2 c3 c4 d0 d1 d2 d3 d4
      have hq := neq_one
      clear q0 q1 q2 q3 q4 r0 r1 r2 r3 r4 hx hh
      go_wp2
      go_quiet (fail)
      go_wp2
      go_roundw
      case rel => exact ⟨k + 1, by omega, by go_num, below_drawn HB.out _⟩
      case measure => simp [intOf]; omega
    · clear hh
      go_wp2
      go_ret
      exact ⟨rfl, HB.out⟩
end Go.Proofs.YtfcnbiikjopajaaDoor
