import Derived.Test.YtldjiieckddhkaaGreatDoorMg45
import Derived.Test.YtldjiieckddhkaaGreatDoorMg12
import Derived.Test.YtldjiieckddhkaaGreatDoorMg11
namespace Go.Proofs.YtldjiieckddhkaaGreatDoor
open Go.RowKit Go.Sort
set_option maxRecDepth 100000 in
set_option maxHeartbeats 3200000 in
theorem rec10_to (y q : Pv) (va vb : Value) (w : World) (hP : PLst w va [q]) (hk : y.k = 6) (hv : ∃ a n c, vb = .slice a n c) : Calls Tryz.prog 54 #[.agg #[.int .i64 y.k, .int .i64 y.n, .int .i64 y.t, .string y.s, .string y.f], va, vb] w fun e w' => e = .returned (.tuple #[.int .i64 (Four.convN q.t y.t q.n).1, .int .i64 y.t, .int .i64 (Four.convN q.t y.t q.n).2]) ∧ Below w.heap.size w w' := by
  obtain ⟨a, b, off, cap, rfl, hA, hI⟩ := hP
  obtain ⟨hbw, rfl⟩ := hA (by simp)
  obtain ⟨c0, c1, c2, c3, c4⟩ := hI 0 q rfl
  obtain ⟨ba, bn, bc, rfl⟩ := hv
  simp only [List.length_cons, List.length_nil, Nat.zero_add, Nat.zero_mul, Nat.add_zero] at c0 c1 c2 c3 c4 ⊢
  have hk6 : (y.k == 6) = true := by rw [hk]; rfl
  have qc := fun (W : World) (n : Nat) => Calls.quiet_of_same (Four.convR_any q.t y.t q.n (W.drewN n))
  have HB : Hid (∀ o n m, Below w.heap.size w (((w.alloc o).drewN n).drewN m)) := fun o n m => below_drewD (below_drewD ((Below.refl _ _).alloc (Nat.le_refl _) _) n) m
  generalize (Four.convN q.t y.t q.n).1 = R1 at *
  generalize (Four.convN q.t y.t q.n).2 = R2 at *
  clear hI hA hk c3 c4
  go_enter Tryz.func54, Tryz.ntmps54
  go_wp2_with fail
  go_quiet ((go_at_call 94; exact qc _ _))
  go_wp2_with fail
  go_quiet (fail)
  go_wp2
  go_ret3
  exact ⟨rfl, HB.out _ _ _⟩
set_option maxRecDepth 100000 in
set_option maxHeartbeats 3200000 in
theorem rec10_one (y q : Pv) (va : Value) (ba : Option Addr) (bc : Nat) (w : World) (hP : PLst w va [q]) (hk : y.k = 5) : Calls Tryz.prog 54 #[.agg #[.int .i64 y.k, .int .i64 y.n, .int .i64 y.t, .string y.s, .string y.f], va, .slice ba 0 bc] w fun e w' => e = .returned (.tuple #[.int .i64 (Four.oneN y.n q.t q.n).1, .int .i64 (Four.resN y.n q.t).1, .int .i64 (Four.oneN y.n q.t q.n).2]) ∧ Below w.heap.size w w' := by
  obtain ⟨a, b, off, cap, rfl, hA, hI⟩ := hP
  obtain ⟨hbw, rfl⟩ := hA (by simp)
  obtain ⟨c0, c1, c2, c3, c4⟩ := hI 0 q rfl
  simp only [List.length_cons, List.length_nil, Nat.zero_add, Nat.zero_mul, Nat.add_zero] at c0 c1 c2 c3 c4 ⊢
  have hk6 : (y.k == 6) = false := by rw [hk]; rfl
  have qr := fun (W : World) (n : Nat) => Calls.quiet_of_same (Four.resR_any y.n q.t (W.drewN n))
  have qc := fun (W : World) (n : Nat) => Calls.quiet_of_same (Four.oneR_any y.n q.t q.n (W.drewN n))
  have HB : Hid (∀ o n m, Below w.heap.size w (((w.alloc o).drewN n).drewN m)) := fun o n m => below_drewD (below_drewD ((Below.refl _ _).alloc (Nat.le_refl _) _) n) m
  generalize (Four.oneN y.n q.t q.n).1 = R1 at *
  generalize (Four.oneN y.n q.t q.n).2 = R2 at *
  generalize (Four.resN y.n q.t).1 = R3 at *
  generalize (Four.resN y.n q.t).2 = R4 at *
  clear hI hA hk c3 c4
  go_enter Tryz.func54, Tryz.ntmps54
  go_wp2_with fail
  go_quiet ((go_at_call 95; exact qr _ _))
  go_wp2_with fail
  obtain ⟨w2, hw2⟩ : ∃ w2, w2 = (w.alloc (.cells #[.int .i64 y.k, .int .i64 y.n, .int .i64 y.t, .string y.s, .string y.f] 38)).drewN nq := ⟨_, rfl⟩
  have B2 : Hid (Below w.heap.size w w2) := by rw [hw2]; exact below_drewD ((Below.refl _ _).alloc (Nat.le_refl _) _) nq
  have q0 : w2.heap[w.heap.size]? = some (.cells #[.int .i64 y.k, .int .i64 y.n, .int .i64 y.t, .string y.s, .string y.f] 38) := by rw [hw2]; exact heap_alloc_new w _
  have f1 : w2.cell? ⟨w.heap.size, 1, none⟩ = some (.int .i64 y.n) := by rw [Lib.cell_of_heap q0]; rfl
  have c1 := (B2.out.cell (p := ⟨b, off + 1, none⟩) hbw).trans c1
  have c2 := (B2.out.cell (p := ⟨b, off + 2, none⟩) hbw).trans c2
  rw [← hw2]
  clear hw2 q0
  go_quiet ((go_at_call 96; exact qc _ _))
  go_wp2
  go_ret3
  exact ⟨rfl, below_drewD B2.out _⟩
set_option maxRecDepth 100000 in
set_option maxHeartbeats 3200000 in
theorem rec10_two (y q r : Pv) (va vb : Value) (w : World) (hP : PLst w va [q]) (hP2 : PLst w vb [r]) (hk : y.k = 5) : Calls Tryz.prog 54 #[.agg #[.int .i64 y.k, .int .i64 y.n, .int .i64 y.t, .string y.s, .string y.f], va, vb] w fun e w' => e = .returned (.tuple #[.int .i64 (Four.twoN y.n q.t q.n r.n).1, .int .i64 (Four.resN y.n q.t).1, .int .i64 (Four.twoN y.n q.t q.n r.n).2]) ∧ Below w.heap.size w w' := by
  obtain ⟨a, b, off, cap, rfl, hA, hI⟩ := hP
  obtain ⟨hbw, rfl⟩ := hA (by simp)
  obtain ⟨c0, c1, c2, c3, c4⟩ := hI 0 q rfl
  obtain ⟨a', b', off', cap', rfl, hA', hI'⟩ := hP2
  obtain ⟨hbw', rfl⟩ := hA' (by simp)
  obtain ⟨d0, d1, d2, d3, d4⟩ := hI' 0 r rfl
  simp only [List.length_cons, List.length_nil, Nat.zero_add, Nat.zero_mul, Nat.add_zero] at c0 c1 c2 c3 c4 d0 d1 d2 d3 d4 ⊢
  have hk6 : (y.k == 6) = false := by rw [hk]; rfl
  have qr := fun (W : World) (n : Nat) => Calls.quiet_of_same (Four.resR_any y.n q.t (W.drewN n))
  have qc := fun (W : World) (n : Nat) => Calls.quiet_of_same (Four.twoR_any y.n q.t q.n r.n (W.drewN n))
  have HB : Hid (∀ o n m, Below w.heap.size w (((w.alloc o).drewN n).drewN m)) := fun o n m => below_drewD (below_drewD ((Below.refl _ _).alloc (Nat.le_refl _) _) n) m
  generalize (Four.twoN y.n q.t q.n r.n).1 = R1 at *
  generalize (Four.twoN y.n q.t q.n r.n).2 = R2 at *
  generalize (Four.resN y.n q.t).1 = R3 at *
  generalize (Four.resN y.n q.t).2 = R4 at *
  clear hI hA hk c3 c4 hI' hA' d3 d4
  go_enter Tryz.func54, Tryz.ntmps54
  go_wp2_with fail
  go_quiet ((go_at_call 95; exact qr _ _))
  go_wp2_with fail
  obtain ⟨w2, hw2⟩ : ∃ w2, w2 = (w.alloc (.cells #[.int .i64 y.k, .int .i64 y.n, .int .i64 y.t, .string y.s, .string y.f] 38)).drewN nq := ⟨_, rfl⟩
  have B2 : Hid (Below w.heap.size w w2) := by rw [hw2]; exact below_drewD ((Below.refl _ _).alloc (Nat.le_refl _) _) nq
  have q0 : w2.heap[w.heap.size]? = some (.cells #[.int .i64 y.k, .int .i64 y.n, .int .i64 y.t, .string y.s, .string y.f] 38) := by rw [hw2]; exact heap_alloc_new w _
  have f1 : w2.cell? ⟨w.heap.size, 1, none⟩ = some (.int .i64 y.n) := by rw [Lib.cell_of_heap q0]; rfl
  have c1 := (B2.out.cell (p := ⟨b, off + 1, none⟩) hbw).trans c1
  have c2 := (B2.out.cell (p := ⟨b, off + 2, none⟩) hbw).trans c2
  have d1 := (B2.out.cell (p := ⟨b', off' + 1, none⟩) hbw').trans d1
  rw [← hw2]
  clear hw2 q0
  go_quiet ((go_at_call 97; exact qc _ _))
  go_wp2
  go_ret3
  exact ⟨rfl, below_drewD B2.out _⟩
end Go.Proofs.YtldjiieckddhkaaGreatDoor
