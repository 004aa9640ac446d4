/- The contract of the document's opened. -/
import Derived.Test.YtkicbmjjbnblfaaGreatDoorQwA
import Derived.Test.YtkicbmjjbnblfaaGreatDoorQrA
import Derived.Test.YtkicbmjjbnblfaaGreatDoorSiA
namespace Go.Proofs.YtkicbmjjbnblfaaGreatDoor
open Go.RowKit
set_option maxRecDepth 100000 in
set_option maxHeartbeats 800000 in
theorem qword_eq (s : ByteArray) (w : World) : Calls Tryz.prog 39 #[.string s] w fun e w' => e = .returned (.agg #[.int .i64 1, .string s, .int .i64 0, .int .i64 0, .int .i64 0]) ∧ w' = w.alloc (.cells #[.int .i64 1, .string s, .int .i64 0, .int .i64 0, .int .i64 0] 54) := by
  go_enter Tryz.func39, Tryz.ntmps39
  go_wp2
  refine bodyPost_ret (v := tvA (wdT s)) ?_ rfl ⟨rfl, rfl⟩
  simp [results, Tryz.results39, go_sem, tvA, wdT]
set_option maxRecDepth 100000 in
set_option maxHeartbeats 800000 in
theorem qmark_eq (s : ByteArray) (w : World) : Calls Tryz.prog 40 #[.string s] w fun e w' => e = .returned (.agg #[.int .i64 3, .string s, .int .i64 0, .int .i64 0, .int .i64 0]) ∧ w' = w.alloc (.cells #[.int .i64 3, .string s, .int .i64 0, .int .i64 0, .int .i64 0] 54) := by
  go_enter Tryz.func40, Tryz.ntmps40
  go_wp2
  refine bodyPost_ret (v := tvA (sgT s)) ?_ rfl ⟨rfl, rfl⟩
  simp [results, Tryz.results40, go_sem, tvA, sgT]
theorem below_three (w : World) (o o' o'' : Obj) : Below w.heap.size w (((w.alloc o).alloc o').alloc o'') :=
  (((Below.refl _ _).alloc (Nat.le_refl _) o).alloc (by rw [World.size_alloc]; omega) o').alloc (by rw [World.size_alloc, World.size_alloc]; omega) o''
set_option maxRecDepth 100000 in
set_option maxHeartbeats 800000 in
theorem qopened_1 (w : World) : Calls Tryz.prog 43 #[.int .i64 1] w fun e w' => e = .returned (tvA (opTv 1)) ∧ Below w.heap.size w w' := by
  have c1 : ∀ W, Calls Tryz.prog 29 #[.string ⟨#[43]⟩] W fun e w' => e = .returned (.bool false) ∧ w' = W := fun W => qWord_any [43] W
  have c2 := fun W => qmark_eq ⟨#[43]⟩ W
  go_enter Tryz.func43, Tryz.ntmps43
  go_wp2_with fail
  refine (c1 _).mono ?_
  rintro e w1 ⟨rfl, hw1⟩
  subst hw1
  go_wp2_with fail
  refine (c2 _).mono ?_
  rintro e w2 ⟨rfl, hw2⟩
  subst hw2
  go_wp2
  refine bodyPost_ret (v := tvA (opTv 1)) ?_ rfl ⟨rfl, ?_⟩
  · simp [results, Tryz.results43, go_sem, tvA, opTv, opTok, signT]
  · exact below_three _ _ _ _
set_option maxRecDepth 100000 in
set_option maxHeartbeats 800000 in
theorem qopened_2 (w : World) : Calls Tryz.prog 43 #[.int .i64 2] w fun e w' => e = .returned (tvA (opTv 2)) ∧ Below w.heap.size w w' := by
  have c1 : ∀ W, Calls Tryz.prog 29 #[.string ⟨#[45]⟩] W fun e w' => e = .returned (.bool false) ∧ w' = W := fun W => qWord_any [45] W
  have c2 := fun W => qmark_eq ⟨#[45]⟩ W
  go_enter Tryz.func43, Tryz.ntmps43
  go_wp2_with fail
  refine (c1 _).mono ?_
  rintro e w1 ⟨rfl, hw1⟩
  subst hw1
  go_wp2_with fail
  refine (c2 _).mono ?_
  rintro e w2 ⟨rfl, hw2⟩
  subst hw2
  go_wp2
  refine bodyPost_ret (v := tvA (opTv 2)) ?_ rfl ⟨rfl, ?_⟩
  · simp [results, Tryz.results43, go_sem, tvA, opTv, opTok, signT]
  · exact below_three _ _ _ _
set_option maxRecDepth 100000 in
set_option maxHeartbeats 800000 in
theorem qopened_3 (w : World) : Calls Tryz.prog 43 #[.int .i64 3] w fun e w' => e = .returned (tvA (opTv 3)) ∧ Below w.heap.size w w' := by
  have c1 : ∀ W, Calls Tryz.prog 29 #[.string ⟨#[42]⟩] W fun e w' => e = .returned (.bool false) ∧ w' = W := fun W => qWord_any [42] W
  have c2 := fun W => qmark_eq ⟨#[42]⟩ W
  go_enter Tryz.func43, Tryz.ntmps43
  go_wp2_with fail
  refine (c1 _).mono ?_
  rintro e w1 ⟨rfl, hw1⟩
  subst hw1
  go_wp2_with fail
  refine (c2 _).mono ?_
  rintro e w2 ⟨rfl, hw2⟩
  subst hw2
  go_wp2
  refine bodyPost_ret (v := tvA (opTv 3)) ?_ rfl ⟨rfl, ?_⟩
  · simp [results, Tryz.results43, go_sem, tvA, opTv, opTok, signT]
  · exact below_three _ _ _ _
set_option maxRecDepth 100000 in
set_option maxHeartbeats 800000 in
theorem qopened_4 (w : World) : Calls Tryz.prog 43 #[.int .i64 4] w fun e w' => e = .returned (tvA (opTv 4)) ∧ Below w.heap.size w w' := by
  have c1 : ∀ W, Calls Tryz.prog 29 #[.string ⟨#[47]⟩] W fun e w' => e = .returned (.bool false) ∧ w' = W := fun W => qWord_any [47] W
  have c2 := fun W => qmark_eq ⟨#[47]⟩ W
  go_enter Tryz.func43, Tryz.ntmps43
  go_wp2_with fail
  refine (c1 _).mono ?_
  rintro e w1 ⟨rfl, hw1⟩
  subst hw1
  go_wp2_with fail
  refine (c2 _).mono ?_
  rintro e w2 ⟨rfl, hw2⟩
  subst hw2
  go_wp2
  refine bodyPost_ret (v := tvA (opTv 4)) ?_ rfl ⟨rfl, ?_⟩
  · simp [results, Tryz.results43, go_sem, tvA, opTv, opTok, signT]
  · exact below_three _ _ _ _
set_option maxRecDepth 100000 in
set_option maxHeartbeats 800000 in
theorem qopened_5 (w : World) : Calls Tryz.prog 43 #[.int .i64 5] w fun e w' => e = .returned (tvA (opTv 5)) ∧ Below w.heap.size w w' := by
  have c1 : ∀ W, Calls Tryz.prog 29 #[.string ⟨#[77, 79, 68]⟩] W fun e w' => e = .returned (.bool true) ∧ w' = W := fun W => qWord_any [77, 79, 68] W
  have c2 := fun W => qword_eq ⟨#[77, 79, 68]⟩ W
  go_enter Tryz.func43, Tryz.ntmps43
  go_wp2_with fail
  refine (c1 _).mono ?_
  rintro e w1 ⟨rfl, hw1⟩
  subst hw1
  go_wp2_with fail
  refine (c2 _).mono ?_
  rintro e w2 ⟨rfl, hw2⟩
  subst hw2
  go_wp2
  refine bodyPost_ret (v := tvA (opTv 5)) ?_ rfl ⟨rfl, ?_⟩
  · simp [results, Tryz.results43, go_sem, tvA, opTv, opTok, wordT]
  · exact below_three _ _ _ _
set_option maxRecDepth 100000 in
set_option maxHeartbeats 800000 in
theorem qopened_6 (w : World) : Calls Tryz.prog 43 #[.int .i64 6] w fun e w' => e = .returned (tvA (opTv 6)) ∧ Below w.heap.size w w' := by
  have c1 : ∀ W, Calls Tryz.prog 29 #[.string ⟨#[65, 78, 68]⟩] W fun e w' => e = .returned (.bool true) ∧ w' = W := fun W => qWord_any [65, 78, 68] W
  have c2 := fun W => qword_eq ⟨#[65, 78, 68]⟩ W
  go_enter Tryz.func43, Tryz.ntmps43
  go_wp2_with fail
  refine (c1 _).mono ?_
  rintro e w1 ⟨rfl, hw1⟩
  subst hw1
  go_wp2_with fail
  refine (c2 _).mono ?_
  rintro e w2 ⟨rfl, hw2⟩
  subst hw2
  go_wp2
  refine bodyPost_ret (v := tvA (opTv 6)) ?_ rfl ⟨rfl, ?_⟩
  · simp [results, Tryz.results43, go_sem, tvA, opTv, opTok, wordT]
  · exact below_three _ _ _ _
set_option maxRecDepth 100000 in
set_option maxHeartbeats 800000 in
theorem qopened_7 (w : World) : Calls Tryz.prog 43 #[.int .i64 7] w fun e w' => e = .returned (tvA (opTv 7)) ∧ Below w.heap.size w w' := by
  have c1 : ∀ W, Calls Tryz.prog 29 #[.string ⟨#[79, 82]⟩] W fun e w' => e = .returned (.bool true) ∧ w' = W := fun W => qWord_any [79, 82] W
  have c2 := fun W => qword_eq ⟨#[79, 82]⟩ W
  go_enter Tryz.func43, Tryz.ntmps43
  go_wp2_with fail
  refine (c1 _).mono ?_
  rintro e w1 ⟨rfl, hw1⟩
  subst hw1
  go_wp2_with fail
  refine (c2 _).mono ?_
  rintro e w2 ⟨rfl, hw2⟩
  subst hw2
  go_wp2
  refine bodyPost_ret (v := tvA (opTv 7)) ?_ rfl ⟨rfl, ?_⟩
  · simp [results, Tryz.results43, go_sem, tvA, opTv, opTok, wordT]
  · exact below_three _ _ _ _
set_option maxRecDepth 100000 in
set_option maxHeartbeats 800000 in
theorem qopened_8 (w : World) : Calls Tryz.prog 43 #[.int .i64 8] w fun e w' => e = .returned (tvA (opTv 8)) ∧ Below w.heap.size w w' := by
  have c1 : ∀ W, Calls Tryz.prog 29 #[.string ⟨#[88, 79, 82]⟩] W fun e w' => e = .returned (.bool true) ∧ w' = W := fun W => qWord_any [88, 79, 82] W
  have c2 := fun W => qword_eq ⟨#[88, 79, 82]⟩ W
  go_enter Tryz.func43, Tryz.ntmps43
  go_wp2_with fail
  refine (c1 _).mono ?_
  rintro e w1 ⟨rfl, hw1⟩
  subst hw1
  go_wp2_with fail
  refine (c2 _).mono ?_
  rintro e w2 ⟨rfl, hw2⟩
  subst hw2
  go_wp2
  refine bodyPost_ret (v := tvA (opTv 8)) ?_ rfl ⟨rfl, ?_⟩
  · simp [results, Tryz.results43, go_sem, tvA, opTv, opTok, wordT]
  · exact below_three _ _ _ _
set_option maxRecDepth 100000 in
set_option maxHeartbeats 800000 in
theorem qopened_9 (w : World) : Calls Tryz.prog 43 #[.int .i64 9] w fun e w' => e = .returned (tvA (opTv 9)) ∧ Below w.heap.size w w' := by
  have c1 : ∀ W, Calls Tryz.prog 29 #[.string ⟨#[61]⟩] W fun e w' => e = .returned (.bool false) ∧ w' = W := fun W => qWord_any [61] W
  have c2 := fun W => qmark_eq ⟨#[61]⟩ W
  go_enter Tryz.func43, Tryz.ntmps43
  go_wp2_with fail
  refine (c1 _).mono ?_
  rintro e w1 ⟨rfl, hw1⟩
  subst hw1
  go_wp2_with fail
  refine (c2 _).mono ?_
  rintro e w2 ⟨rfl, hw2⟩
  subst hw2
  go_wp2
  refine bodyPost_ret (v := tvA (opTv 9)) ?_ rfl ⟨rfl, ?_⟩
  · simp [results, Tryz.results43, go_sem, tvA, opTv, opTok, signT]
  · exact below_three _ _ _ _
set_option maxRecDepth 100000 in
set_option maxHeartbeats 800000 in
theorem qopened_10 (w : World) : Calls Tryz.prog 43 #[.int .i64 10] w fun e w' => e = .returned (tvA (opTv 10)) ∧ Below w.heap.size w w' := by
  have c1 : ∀ W, Calls Tryz.prog 29 #[.string ⟨#[60, 62]⟩] W fun e w' => e = .returned (.bool false) ∧ w' = W := fun W => qWord_any [60, 62] W
  have c2 := fun W => qmark_eq ⟨#[60, 62]⟩ W
  go_enter Tryz.func43, Tryz.ntmps43
  go_wp2_with fail
  refine (c1 _).mono ?_
  rintro e w1 ⟨rfl, hw1⟩
  subst hw1
  go_wp2_with fail
  refine (c2 _).mono ?_
  rintro e w2 ⟨rfl, hw2⟩
  subst hw2
  go_wp2
  refine bodyPost_ret (v := tvA (opTv 10)) ?_ rfl ⟨rfl, ?_⟩
  · simp [results, Tryz.results43, go_sem, tvA, opTv, opTok, signT]
  · exact below_three _ _ _ _
set_option maxRecDepth 100000 in
set_option maxHeartbeats 800000 in
theorem qopened_11 (w : World) : Calls Tryz.prog 43 #[.int .i64 11] w fun e w' => e = .returned (tvA (opTv 11)) ∧ Below w.heap.size w w' := by
  have c1 : ∀ W, Calls Tryz.prog 29 #[.string ⟨#[60]⟩] W fun e w' => e = .returned (.bool false) ∧ w' = W := fun W => qWord_any [60] W
  have c2 := fun W => qmark_eq ⟨#[60]⟩ W
  go_enter Tryz.func43, Tryz.ntmps43
  go_wp2_with fail
  refine (c1 _).mono ?_
  rintro e w1 ⟨rfl, hw1⟩
  subst hw1
  go_wp2_with fail
  refine (c2 _).mono ?_
  rintro e w2 ⟨rfl, hw2⟩
  subst hw2
  go_wp2
  refine bodyPost_ret (v := tvA (opTv 11)) ?_ rfl ⟨rfl, ?_⟩
  · simp [results, Tryz.results43, go_sem, tvA, opTv, opTok, signT]
  · exact below_three _ _ _ _
set_option maxRecDepth 100000 in
set_option maxHeartbeats 800000 in
theorem qopened_12 (w : World) : Calls Tryz.prog 43 #[.int .i64 12] w fun e w' => e = .returned (tvA (opTv 12)) ∧ Below w.heap.size w w' := by
  have c1 : ∀ W, Calls Tryz.prog 29 #[.string ⟨#[60, 61]⟩] W fun e w' => e = .returned (.bool false) ∧ w' = W := fun W => qWord_any [60, 61] W
  have c2 := fun W => qmark_eq ⟨#[60, 61]⟩ W
  go_enter Tryz.func43, Tryz.ntmps43
  go_wp2_with fail
  refine (c1 _).mono ?_
  rintro e w1 ⟨rfl, hw1⟩
  subst hw1
  go_wp2_with fail
  refine (c2 _).mono ?_
  rintro e w2 ⟨rfl, hw2⟩
  subst hw2
  go_wp2
  refine bodyPost_ret (v := tvA (opTv 12)) ?_ rfl ⟨rfl, ?_⟩
  · simp [results, Tryz.results43, go_sem, tvA, opTv, opTok, signT]
  · exact below_three _ _ _ _
set_option maxRecDepth 100000 in
set_option maxHeartbeats 800000 in
theorem qopened_13 (w : World) : Calls Tryz.prog 43 #[.int .i64 13] w fun e w' => e = .returned (tvA (opTv 13)) ∧ Below w.heap.size w w' := by
  have c1 : ∀ W, Calls Tryz.prog 29 #[.string ⟨#[62]⟩] W fun e w' => e = .returned (.bool false) ∧ w' = W := fun W => qWord_any [62] W
  have c2 := fun W => qmark_eq ⟨#[62]⟩ W
  go_enter Tryz.func43, Tryz.ntmps43
  go_wp2_with fail
  refine (c1 _).mono ?_
  rintro e w1 ⟨rfl, hw1⟩
  subst hw1
  go_wp2_with fail
  refine (c2 _).mono ?_
  rintro e w2 ⟨rfl, hw2⟩
  subst hw2
  go_wp2
  refine bodyPost_ret (v := tvA (opTv 13)) ?_ rfl ⟨rfl, ?_⟩
  · simp [results, Tryz.results43, go_sem, tvA, opTv, opTok, signT]
  · exact below_three _ _ _ _
set_option maxRecDepth 100000 in
set_option maxHeartbeats 800000 in
theorem qopened_14 (w : World) : Calls Tryz.prog 43 #[.int .i64 14] w fun e w' => e = .returned (tvA (opTv 14)) ∧ Below w.heap.size w w' := by
  have c1 : ∀ W, Calls Tryz.prog 29 #[.string ⟨#[62, 61]⟩] W fun e w' => e = .returned (.bool false) ∧ w' = W := fun W => qWord_any [62, 61] W
  have c2 := fun W => qmark_eq ⟨#[62, 61]⟩ W
  go_enter Tryz.func43, Tryz.ntmps43
  go_wp2_with fail
  refine (c1 _).mono ?_
  rintro e w1 ⟨rfl, hw1⟩
  subst hw1
  go_wp2_with fail
  refine (c2 _).mono ?_
  rintro e w2 ⟨rfl, hw2⟩
  subst hw2
  go_wp2
  refine bodyPost_ret (v := tvA (opTv 14)) ?_ rfl ⟨rfl, ?_⟩
  · simp [results, Tryz.results43, go_sem, tvA, opTv, opTok, signT]
  · exact below_three _ _ _ _
set_option maxRecDepth 100000 in
set_option maxHeartbeats 800000 in
theorem qopened_15 (w : World) : Calls Tryz.prog 43 #[.int .i64 15] w fun e w' => e = .returned (tvA (opTv 15)) ∧ Below w.heap.size w w' := by
  have c1 : ∀ W, Calls Tryz.prog 29 #[.string ⟨#[45]⟩] W fun e w' => e = .returned (.bool false) ∧ w' = W := fun W => qWord_any [45] W
  have c2 := fun W => qmark_eq ⟨#[45]⟩ W
  go_enter Tryz.func43, Tryz.ntmps43
  go_wp2_with fail
  refine (c1 _).mono ?_
  rintro e w1 ⟨rfl, hw1⟩
  subst hw1
  go_wp2_with fail
  refine (c2 _).mono ?_
  rintro e w2 ⟨rfl, hw2⟩
  subst hw2
  go_wp2
  refine bodyPost_ret (v := tvA (opTv 15)) ?_ rfl ⟨rfl, ?_⟩
  · simp [results, Tryz.results43, go_sem, tvA, opTv, opTok, signT]
  · exact below_three _ _ _ _
set_option maxRecDepth 100000 in
set_option maxHeartbeats 800000 in
theorem qopened_16 (w : World) : Calls Tryz.prog 43 #[.int .i64 16] w fun e w' => e = .returned (tvA (opTv 16)) ∧ Below w.heap.size w w' := by
  have c1 : ∀ W, Calls Tryz.prog 29 #[.string ⟨#[78, 79, 84]⟩] W fun e w' => e = .returned (.bool true) ∧ w' = W := fun W => qWord_any [78, 79, 84] W
  have c2 := fun W => qword_eq ⟨#[78, 79, 84]⟩ W
  go_enter Tryz.func43, Tryz.ntmps43
  go_wp2_with fail
  refine (c1 _).mono ?_
  rintro e w1 ⟨rfl, hw1⟩
  subst hw1
  go_wp2_with fail
  refine (c2 _).mono ?_
  rintro e w2 ⟨rfl, hw2⟩
  subst hw2
  go_wp2
  refine bodyPost_ret (v := tvA (opTv 16)) ?_ rfl ⟨rfl, ?_⟩
  · simp [results, Tryz.results43, go_sem, tvA, opTv, opTok, wordT]
  · exact below_three _ _ _ _
theorem qopened_any (n : Int) (h1 : 1 ≤ n) (h2 : n ≤ 16) (w : World) : Calls Tryz.prog 43 #[.int .i64 n] w fun e w' => e = .returned (tvA (opTv n)) ∧ Below w.heap.size w w' := by
  have hn : n = 1 ∨ n = 2 ∨ n = 3 ∨ n = 4 ∨ n = 5 ∨ n = 6 ∨ n = 7 ∨ n = 8 ∨ n = 9 ∨ n = 10 ∨ n = 11 ∨ n = 12 ∨ n = 13 ∨ n = 14 ∨ n = 15 ∨ n = 16 := by omega
  rcases hn with rfl | rfl | rfl | rfl | rfl | rfl | rfl | rfl | rfl | rfl | rfl | rfl | rfl | rfl | rfl | rfl
  · exact qopened_1 w
  · exact qopened_2 w
  · exact qopened_3 w
  · exact qopened_4 w
  · exact qopened_5 w
  · exact qopened_6 w
  · exact qopened_7 w
  · exact qopened_8 w
  · exact qopened_9 w
  · exact qopened_10 w
  · exact qopened_11 w
  · exact qopened_12 w
  · exact qopened_13 w
  · exact qopened_14 w
  · exact qopened_15 w
  · exact qopened_16 w
end Go.Proofs.YtkicbmjjbnblfaaGreatDoor
