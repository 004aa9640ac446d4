/- The document's Show; CodeShows. -/
import Derived.Test.YtmbgcpmapaedcaaDoorRsD
import Derived.Test.YtmbgcpmapaedcaaDoorWoW
namespace Go.Proofs.YtmbgcpmapaedcaaDoor
open Go.RowKit Go.Sort
def nmC : Array Value := #[.string ⟨#[63]⟩, .string ⟨#[80, 85, 83, 72]⟩, .string ⟨#[76, 79, 65, 68]⟩, .string ⟨#[83, 84, 79, 82, 69]⟩, .string ⟨#[76, 79, 65, 68, 88]⟩, .string ⟨#[83, 84, 79, 82, 69, 88]⟩, .string ⟨#[84, 87, 79]⟩, .string ⟨#[79, 78, 69]⟩, .string ⟨#[84, 79]⟩, .string ⟨#[74, 85, 77, 80]⟩, .string ⟨#[70, 65, 76, 83, 69]⟩, .string ⟨#[67, 65, 76, 76]⟩, .string ⟨#[69, 78, 68]⟩]
theorem nm_at (k : Nat) (h : k ≤ 12) (h1 : 1 ≤ k) : nmC[k]? = some (.string ⟨(opName (k : Int)).toArray⟩) := by
  have : k = 1 ∨ k = 2 ∨ k = 3 ∨ k = 4 ∨ k = 5 ∨ k = 6 ∨ k = 7 ∨ k = 8 ∨ k = 9 ∨ k = 10 ∨ k = 11 ∨ k = 12 := by omega
  rcases this with rfl | rfl | rfl | rfl | rfl | rfl | rfl | rfl | rfl | rfl | rfl | rfl
  all_goals rfl
set_option maxRecDepth 100000 in
set_option maxHeartbeats 3200000 in
theorem rshow_core (o a b n : Int) (NM A B C T1 T2 T3 T4 T5 T6 : ByteArray) (w : World) (hd : (NM = ⟨#[63]⟩ ∧ ¬ (1 ≤ o ∧ o ≤ 12)) ∨ (∃ k : Nat, o = (k : Int) ∧ 1 ≤ k ∧ k ≤ 12 ∧ nmC[k]? = some (.string NM)))
    (cA : ∀ W, Calls Tryd.prog 15 #[.int .i64 a] W fun e w' => e = .returned (.string A) ∧ Below W.heap.size W w')
    (cB : ∀ W, Calls Tryd.prog 15 #[.int .i64 b] W fun e w' => e = .returned (.string B) ∧ Below W.heap.size W w')
    (cC : ∀ W, Calls Tryd.prog 15 #[.int .i64 n] W fun e w' => e = .returned (.string C) ∧ Below W.heap.size W w')
    (t1 : Op.stringOp .add NM ⟨#[32]⟩ = pure (.string T1)) (t2 : Op.stringOp .add T1 A = pure (.string T2)) (t3 : Op.stringOp .add T2 ⟨#[32]⟩ = pure (.string T3)) (t4 : Op.stringOp .add T3 B = pure (.string T4)) (t5 : Op.stringOp .add T4 ⟨#[32]⟩ = pure (.string T5)) (t6 : Op.stringOp .add T5 C = pure (.string T6)) :
    Calls Tryd.prog 7 #[.agg #[.int .i64 o, .int .i64 a, .int .i64 b, .int .i64 n]] w fun e w' => e = .returned (.string T6) ∧ Below w.heap.size w w' := by
  have CA := hide cA
  have CB := hide cB
  have CC := hide cC
  have HBW := hide (bw2 w (.cells #[.int .i64 o, .int .i64 a, .int .i64 b, .int .i64 n] 23) (.cells nmC 9))
  have HS : Hid (((w.alloc (.cells #[.int .i64 o, .int .i64 a, .int .i64 b, .int .i64 n] 23)).alloc (.cells nmC 9)).heap[w.heap.size]? = some (.cells #[.int .i64 o, .int .i64 a, .int .i64 b, .int .i64 n] 23 (0, 0))) := Four.one_at w _ _
  have HT : Hid (((w.alloc (.cells #[.int .i64 o, .int .i64 a, .int .i64 b, .int .i64 n] 23)).alloc (.cells nmC 9)).heap[w.heap.size + 1]? = some (.cells nmC 9 (0, 0))) := Four.two_at w _ _
  unfold nmC at HBW HS HT
  have s0 : _ = some (Value.int .i64 o) := (Lib.cell_of_heap (j := 0) HS.out).trans rfl
  have s1 : _ = some (Value.int .i64 a) := (Lib.cell_of_heap (j := 1) HS.out).trans rfl
  have s2 : _ = some (Value.int .i64 b) := (Lib.cell_of_heap (j := 2) HS.out).trans rfl
  have s3 : _ = some (Value.int .i64 n) := (Lib.cell_of_heap (j := 3) HS.out).trans rfl
  clear cA cB cC
  rcases hd with ⟨rfl, hd⟩ | ⟨k, rfl, h1, h12, hk⟩
  · have hd2 : ¬ 1 ≤ o ∨ (1 ≤ o ∧ ¬ o ≤ 12) := by omega
    clear hd
    rcases hd2 with hd | ⟨hd, hd'⟩
    all_goals
      go_enter Tryd.func7, Tryd.ntmps7
      go_wp2_with fail
      generalize ((w.alloc _).alloc _) = W0 at *
      have y1 : ∀ dd os, (grow (redrawn W0 dd) os).cell? ⟨w.heap.size, 1, none⟩ = some (.int .i64 a) := cell_regrown s1
      have y2 : ∀ dd os, (grow (redrawn W0 dd) os).cell? ⟨w.heap.size, 2, none⟩ = some (.int .i64 b) := cell_regrown s2
      have y3 : ∀ dd os, (grow (redrawn W0 dd) os).cell? ⟨w.heap.size, 3, none⟩ = some (.int .i64 n) := cell_regrown s3
      have x1 : ∀ dd os, Calls Tryd.prog 15 #[.int .i64 a] (grow (redrawn W0 dd) os) fun e w2 => e = .returned (.string A) ∧ ∃ q : Regrown, w2 = grow (redrawn W0 q.d) q.os := fun dd os => Calls.regrown_of (CA.out _)
      have x2 : ∀ dd os, Calls Tryd.prog 15 #[.int .i64 b] (grow (redrawn W0 dd) os) fun e w2 => e = .returned (.string B) ∧ ∃ q : Regrown, w2 = grow (redrawn W0 q.d) q.os := fun dd os => Calls.regrown_of (CB.out _)
      have x3 : ∀ dd os, Calls Tryd.prog 15 #[.int .i64 n] (grow (redrawn W0 dd) os) fun e w2 => e = .returned (.string C) ∧ ∃ q : Regrown, w2 = grow (redrawn W0 q.d) q.os := fun dd os => Calls.regrown_of (CC.out _)
      have HBR : Hid (∀ dd os, Below w.heap.size w (grow (redrawn W0 dd) os)) := fun dd os => HBW.out.trans ((below_regrown W0 dd os).mono HBW.out.size)
      clear s0 s1 s2 s3 HBW CA CB CC HS HT
      refine wp_region_quiet_below (by kernel_rfl) (by kernel_rfl) ?_
      repeat (go_big_quiet_step (first | (go_at_call 15; first | (with_reducible exact x1 _ _) | (with_reducible exact x2 _ _) | (with_reducible exact x3 _ _))))
      refine wpQuiet_nil ?_
      intro _ hw'
      obtain ⟨⟨dq, osq⟩, hw''⟩ := hw'
      subst hw''
      go_wp2
      go_ret
      exact ⟨rfl, HBR.out _ _⟩
  · have q1 : (1 : Int) ≤ (k : Int) := by omega
    have q2 : (k : Int) ≤ 12 := by omega
    have q3 : (0 : Int) ≤ (k : Int) := by omega
    have q4 : (k : Int) < 13 := by omega
    have sk := (Lib.cell_of_heap (j := k) HT.out).trans hk
    clear hk
    go_enter Tryd.func7, Tryd.ntmps7
    go_wp2_with fail
    generalize ((w.alloc _).alloc _) = W0 at *
    have y1 : ∀ dd os, (grow (redrawn W0 dd) os).cell? ⟨w.heap.size, 1, none⟩ = some (.int .i64 a) := cell_regrown s1
    have y2 : ∀ dd os, (grow (redrawn W0 dd) os).cell? ⟨w.heap.size, 2, none⟩ = some (.int .i64 b) := cell_regrown s2
    have y3 : ∀ dd os, (grow (redrawn W0 dd) os).cell? ⟨w.heap.size, 3, none⟩ = some (.int .i64 n) := cell_regrown s3
    have x1 : ∀ dd os, Calls Tryd.prog 15 #[.int .i64 a] (grow (redrawn W0 dd) os) fun e w2 => e = .returned (.string A) ∧ ∃ q : Regrown, w2 = grow (redrawn W0 q.d) q.os := fun dd os => Calls.regrown_of (CA.out _)
    have x2 : ∀ dd os, Calls Tryd.prog 15 #[.int .i64 b] (grow (redrawn W0 dd) os) fun e w2 => e = .returned (.string B) ∧ ∃ q : Regrown, w2 = grow (redrawn W0 q.d) q.os := fun dd os => Calls.regrown_of (CB.out _)
    have x3 : ∀ dd os, Calls Tryd.prog 15 #[.int .i64 n] (grow (redrawn W0 dd) os) fun e w2 => e = .returned (.string C) ∧ ∃ q : Regrown, w2 = grow (redrawn W0 q.d) q.os := fun dd os => Calls.regrown_of (CC.out _)
    have HBR : Hid (∀ dd os, Below w.heap.size w (grow (redrawn W0 dd) os)) := fun dd os => HBW.out.trans ((below_regrown W0 dd os).mono HBW.out.size)
    clear s0 s1 s2 s3 HBW CA CB CC HS HT
    refine wp_region_quiet_below (by kernel_rfl) (by kernel_rfl) ?_
    repeat (go_big_quiet_step (first | (go_at_call 15; first | (with_reducible exact x1 _ _) | (with_reducible exact x2 _ _) | (with_reducible exact x3 _ _))))
    refine wpQuiet_nil ?_
    intro _ hw'
    obtain ⟨⟨dq, osq⟩, hw''⟩ := hw'
    subst hw''
    go_wp2
    go_ret
    exact ⟨rfl, HBR.out _ _⟩
theorem rshow_any (i : Ins) (hi : InB i) (w : World) : Calls Tryd.prog 7 #[inA i] w fun e w' => e = .returned (.string ⟨(shI i).toArray⟩) ∧ Below w.heap.size w w' := by
  have la := Lib.itoa_length_le i.a hi.a0 hi.a1
  have lb := Lib.itoa_length_le i.b hi.b0 hi.b1
  have ln := nmP_len i.op
  have lc := Lib.itoa_length_le i.n hi.n0 hi.n1
  have t1 := text_add (nmP i.op) [32] (by simp; omega)
  have t2 := text_add (nmP i.op ++ [32]) (Lib.itoa i.a) (by simp; omega)
  have t3 := text_add (nmP i.op ++ [32] ++ Lib.itoa i.a) [32] (by simp; omega)
  have t4 := text_add ((nmP i.op ++ [32] ++ Lib.itoa i.a) ++ [32]) (Lib.itoa i.b) (by simp; omega)
  have t5 := text_add (((nmP i.op ++ [32] ++ Lib.itoa i.a) ++ [32]) ++ Lib.itoa i.b) [32] (by simp; omega)
  have t6 := text_add ((((nmP i.op ++ [32] ++ Lib.itoa i.a) ++ [32]) ++ Lib.itoa i.b) ++ [32]) (Lib.itoa i.n) (by simp; omega)
  refine rshow_core i.op i.a i.b i.n ⟨(nmP i.op).toArray⟩ _ _ _ _ _ _ _ _ _ w ?_ (fun W => rsign_any i.a hi.a0 hi.a1 W) (fun W => rsign_any i.b hi.b0 hi.b1 W) (fun W => rsign_any i.n hi.n0 hi.n1 W) t1 t2 t3 t4 t5 t6
  by_cases ho : 1 ≤ i.op ∧ i.op ≤ 12
  · obtain ⟨k, hk⟩ : ∃ k : Nat, i.op = (k : Int) := ⟨i.op.toNat, by omega⟩
    refine .inr ⟨k, hk, by omega, by omega, ?_⟩
    unfold nmP
    rw [if_pos ho, hk]
    exact nm_at k (by omega) (by omega)
  · refine .inl ⟨?_, ho⟩
    unfold nmP; rw [if_neg ho]
set_option maxRecDepth 100000 in
set_option maxHeartbeats 3200000 in
theorem shows_any (i : Ins) (hi : InB i) (w : World) (hg : GlC w) (hp : Pow w) : Calls Tryd.prog 3 #[inA i] w fun e w' => e = .returned (.bool true) ∧ Below w.heap.size w w' := by
  have CA := hide (fun W h => show_any i hi W h)
  have CB := hide (fun W => rshow_any i hi W)
  have CC := hide (fun W h h' => works_any W h h')
  obtain ⟨o, a, b, n⟩ := i
  unfold inA at *
  generalize (⟨(shI ⟨o, a, b, n⟩).toArray⟩ : ByteArray) = T at *
  have HB1 := hide ((Below.refl w.heap.size w).alloc (Nat.le_refl _) (.cells #[.int .i64 o, .int .i64 a, .int .i64 b, .int .i64 n] 23))
  have HG := hide hg
  have HP := hide hp
  obtain ⟨W0, hW0⟩ : ∃ W0, W0 = w.alloc (.cells #[.int .i64 o, .int .i64 a, .int .i64 b, .int .i64 n] 23) := ⟨_, rfl⟩
  have HS : W0.heap[w.heap.size]? = some (.cells #[.int .i64 o, .int .i64 a, .int .i64 b, .int .i64 n] 23 (0, 0)) := by rw [hW0]; exact heap_alloc_new _ _
  rw [← hW0] at HB1
  have y0 : ∀ dd os, (grow (redrawn W0 dd) os).cell? ⟨w.heap.size, 0, none⟩ = some (.int .i64 o) := cell_regrown ((Lib.cell_of_heap (j := 0) HS).trans rfl)
  have y1 : ∀ dd os, (grow (redrawn W0 dd) os).cell? ⟨w.heap.size, 1, none⟩ = some (.int .i64 a) := cell_regrown ((Lib.cell_of_heap (j := 1) HS).trans rfl)
  have y2 : ∀ dd os, (grow (redrawn W0 dd) os).cell? ⟨w.heap.size, 2, none⟩ = some (.int .i64 b) := cell_regrown ((Lib.cell_of_heap (j := 2) HS).trans rfl)
  have y3 : ∀ dd os, (grow (redrawn W0 dd) os).cell? ⟨w.heap.size, 3, none⟩ = some (.int .i64 n) := cell_regrown ((Lib.cell_of_heap (j := 3) HS).trans rfl)
  have HBR : Hid (∀ dd os, Below w.heap.size w (grow (redrawn W0 dd) os)) := fun dd os => HB1.out.trans ((below_regrown W0 dd os).mono HB1.out.size)
  have x1 : ∀ dd os, Calls Tryd.prog 6 #[.agg #[.int .i64 o, .int .i64 a, .int .i64 b, .int .i64 n]] (grow (redrawn W0 dd) os) fun e w2 => e = .returned (.string T) ∧ ∃ q : Regrown, w2 = grow (redrawn W0 q.d) q.os := fun dd os => Calls.regrown_of (CA.out _ (HP.out.on (HBR.out dd os)))
  have x2 : ∀ dd os, Calls Tryd.prog 7 #[.agg #[.int .i64 o, .int .i64 a, .int .i64 b, .int .i64 n]] (grow (redrawn W0 dd) os) fun e w2 => e = .returned (.string T) ∧ ∃ q : Regrown, w2 = grow (redrawn W0 q.d) q.os := fun dd os => Calls.regrown_of (CB.out _)
  have x3 : ∀ dd os, Calls Tryd.prog 8 #[] (grow (redrawn W0 dd) os) fun e w2 => e = .returned (.bool true) ∧ ∃ q : Regrown, w2 = grow (redrawn W0 q.d) q.os := fun dd os => Calls.regrown_of (CC.out _ (HG.out.on (HBR.out dd os) HG.out.lt) (HP.out.on (HBR.out dd os)))
  clear CA CB CC HG HP hg hp HS hi
  go_enter Tryd.func3, Tryd.ntmps3
  go_wp2_with fail
  rw [← hW0]
  clear hW0
  refine wp_region_quiet_below (by kernel_rfl) (by kernel_rfl) ?_
  repeat (go_big_quiet_step (first | (go_at_call 6; with_reducible exact x1 _ _) | (go_at_call 7; with_reducible exact x2 _ _) | (go_at_call 8; with_reducible exact x3 _ _)))
  refine wpQuiet_nil ?_
  intro _ hw'
  obtain ⟨⟨dq, osq⟩, hw''⟩ := hw'
  subst hw''
  go_wp2
  go_ret
  exact ⟨rfl, HBR.out _ _⟩
end Go.Proofs.YtmbgcpmapaedcaaDoor
