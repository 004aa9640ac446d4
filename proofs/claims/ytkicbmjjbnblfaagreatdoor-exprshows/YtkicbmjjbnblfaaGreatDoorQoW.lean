/- The contracts of the document's from and opened. -/
import Derived.Test.YtkicbmjjbnblfaaGreatDoorQwA
import Derived.Test.YtkicbmjjbnblfaaGreatDoorQrA
import Derived.Test.YtkicbmjjbnblfaaGreatDoorNxA
import Derived.Test.YtkicbmjjbnblfaaGreatDoorPlA
import Derived.Test.YtkicbmjjbnblfaaGreatDoorSiA
namespace Go.Proofs.YtkicbmjjbnblfaaGreatDoor
open Go.RowKit
theorem back_at {l : List Pt} {k : Nat} {p : Pt} (h : l[k]? = some p) (n : Nat) : back (l.take (k + 1)).reverse n = if n + takes p = 1 then some k else back (l.take k).reverse (n + takes p - 1) := by
  have hk := (List.getElem?_eq_some_iff.1 h).1
  rw [List.take_add_one, h]
  show back (l.take k ++ [p]).reverse n = _
  rw [List.reverse_append]
  show back (p :: (l.take k).reverse) n = _
  rw [back_cons, List.length_reverse, List.length_take, Nat.min_eq_left (Nat.le_of_lt hk)]
set_option maxRecDepth 100000 in
set_option maxHeartbeats 3200000 in
theorem qfrom_any (v : Value) (x : List Pv) (w : World) (hL : PLst w v x) (hlen : x.length ≤ 500) (e0 s0 : Nat) (he : e0 < x.length) (hs : back ((x.map ptV).take (e0 + 1)).reverse 1 = some s0) : Calls Tryz.prog 42 #[v, .int .i64 (e0 : Int)] w fun e w' => e = .returned (.int .i64 (s0 : Int)) ∧ Below w.heap.size w w' := by
  obtain ⟨a, b, off, cap, rfl, hA, hI⟩ := hL
  obtain ⟨hbw, rfl⟩ := hA (by omega)
  have HI := hide hI
  obtain ⟨N, hN⟩ : ∃ N, N = x.length := ⟨_, rfl⟩
  have HN := hide hN
  rw [← hN] at hlen he ⊢
  have n5 : (N : Int) ≤ 500 := by omega
  have HS := hide hs
  have e5 : (e0 : Int) < (N : Int) := by omega
  clear hN hA hI hs
  go_enter Tryz.func42, Tryz.ntmps42
  go_wp2_with fail
  go_loopw [5, 6] (fun nv i wr => ∃ (k n : Nat), k ≤ e0 + 1 ∧ i = .int .i64 ((k : Int) - 1) ∧ nv = .int .i64 (n : Int) ∧ n + k ≤ 2 * e0 + 3 - k + k ∧ Hid (back ((x.map ptV).take k).reverse n = some s0 ∧ 1 ≤ n ∧ n + k ≤ e0 + 2 + (e0 + 1 - k) ∧ Below w.heap.size w wr)) (fun _ i _ => ((intOf i) + 1).toNat)
  case atStart => exact ⟨e0 + 1, 1, by omega, by go_num, rfl, by omega, HS.out, by omega, by omega, Below.refl _ _⟩
  case round =>
    obtain ⟨k, n, hk, rfl, rfl, _, hh⟩ := hrel
    obtain ⟨hb, h1, hnk, hB⟩ := hh.out
    have HBk := hide hb
    have HB := hide hB
    clear hh hb hB
    cases k with
    | zero => exact absurd HBk.out (by rw [List.take_zero]; show back [] n ≠ _; unfold back; simp)
    | succ k =>
      have j1 : (k : Int) < (N : Int) := by omega
      have j0 : (0 : Int) ≤ (k : Int) := by omega
      have j3 : ((k + 1 : Nat) : Int) - 1 = (k : Int) := by omega
      rw [j3]
      obtain ⟨y, hy⟩ : ∃ y, x[k]? = some y := ⟨_, List.getElem?_eq_getElem (by rw [← HN.out]; omega)⟩
      have HY : Hid ((x.map ptV)[k]? = some (ptV y)) := by show _ = _; rw [List.getElem?_map, hy]; rfl
      obtain ⟨q0, q1, q2, q3, q4⟩ := HI.out k y hy
      have c0 := (HB.out.cell (p := ⟨b, off + k * 5, none⟩) hbw).trans q0
      have c1 := (HB.out.cell (p := ⟨b, off + k * 5 + 1, none⟩) hbw).trans q1
      have c2 := (HB.out.cell (p := ⟨b, off + k * 5 + 2, none⟩) hbw).trans q2
      have c3 := (HB.out.cell (p := ⟨b, off + k * 5 + 3, none⟩) hbw).trans q3
      have c4 := (HB.out.cell (p := ⟨b, off + k * 5 + 4, none⟩) hbw).trans q4
      clear q0 q1 q2 q3 q4 hy
      have m1 := fun W => qTakes_v y W
      have htk := takes_le (ptV y)
      have HST := hide (back_at HY.out n)
      go_wp2_with fail
      refine (m1 _).mono ?_
      rintro e w1 ⟨rfl, hb1⟩
      have BB := hide (HB.out.trans (hb1.mono HB.out.size))
      obtain ⟨tk, htk2⟩ : ∃ tk, tk = takes (ptV y) := ⟨_, rfl⟩
      rw [← htk2] at htk HST ⊢
      have t5 : (tk : Int) ≤ 2 := by omega
      have t0 : (0 : Int) ≤ (tk : Int) := by omega
      have n6 : (n : Int) ≤ 2000 := by omega
      have n7 : (1 : Int) ≤ (n : Int) := by omega
      clear c0 c1 c2 c3 c4 m1 hb1 htk2
      by_cases hz : n + tk = 1
      · have hE : s0 = k := by
          have h := HBk.out
          rw [HST.out, if_pos hz] at h
          exact (Option.some.inj h).symm
        subst hE
        have z0 : (n : Int) + ((tk : Int) - 1) = 0 := by omega
        go_wp2
        go_ret
        exact ⟨rfl, BB.out⟩
      · have HNX : Hid (back ((x.map ptV).take k).reverse (n + tk - 1) = some s0) := by
          show _ = _
          have h := HBk.out
          rw [HST.out, if_neg hz] at h
          exact h
        have z0 : (n : Int) + ((tk : Int) - 1) = ((n + tk - 1 : Nat) : Int) := by omega
        have z1 : (((n + tk - 1 : Nat) : Int) == 0) = false := by rw [beq_eq_false_iff_ne]; omega
        have z2 : 1 ≤ n + tk - 1 := by omega
        have z3 : n + tk - 1 ≤ n + 1 := by omega
        generalize n + tk - 1 = n' at *
        go_wp2
        go_roundw
        case rel => exact ⟨k, n', by omega, by go_num, rfl, by omega, HNX.out, z2, by omega, BB.out⟩
        case measure => simp [intOf]
end Go.Proofs.YtkicbmjjbnblfaaGreatDoor
