/- code: othersAreZero, mayBe. -/
import Derived.Test.YtmbgcpmapaedcaaDoorMg8
import Derived.Test.YtmbgcpmapaedcaaDoorMg9
namespace Go.Proofs.YtmbgcpmapaedcaaDoor
open Go.RowKit
theorem hasN_is (op : Int) : hasN op = 5 ∨ hasN op = 1 ∨ hasN op = 0 ∨ hasN op = 3 := by
  unfold hasN
  repeat' split
  all_goals simp
set_option maxRecDepth 100000 in
set_option maxHeartbeats 3200000 in
theorem others_any (h : Nat) (hh : h = 5 ∨ h = 1 ∨ h = 0 ∨ h = 3) (i : Ins) (w : World) : Calls Tryd.prog 35 #[.int .u8 (h : Int), inA i] w fun e w' => e = .returned (.bool (zeroB h i)) ∧ Below w.heap.size w w' := by
  obtain ⟨op, a, b, n⟩ := i
  have E : Hid (zeroB h ⟨op, a, b, n⟩ = ((decide (h % 2 ≠ 0) || decide (a = 0)) && ((decide (h / 2 % 2 ≠ 0) || decide (b = 0)) && (decide (h / 4 % 2 ≠ 0) || decide (n = 0))))) := rfl
  generalize zeroB h ⟨op, a, b, n⟩ = R at *
  unfold inA
  have HB1 : Hid (∀ A, Below w.heap.size w (w.alloc A)) := fun A => (Below.refl _ _).alloc (Nat.le_refl _) _
  rcases hh with rfl | rfl | rfl | rfl <;> by_cases ha : a = 0 <;> by_cases hb : b = 0 <;> by_cases hn : n = 0
  all_goals
    have HR := hide E.out
    clear E
    simp only [ha, hb, hn] at HR
    try (have ea : (a == 0) = false := by simpa using ha)
    try (have eb : (b == 0) = false := by simpa using hb)
    try (have en : (n == 0) = false := by simpa using hn)
    try subst ha
    try subst hb
    try subst hn
    go_enter Tryd.func35, Tryd.ntmps35
    go_wp2
    go_ret
    exact ⟨ret_b (by rw [HR.out]; rfl), HB1.out _⟩
theorem opFn_ok (k : Nat) (h1 : 1 ≤ k) (h12 : k ≤ 12) (args : Array Value) (W : World) : (callFunc (opFn (k : Int)) args).run Tryd.prog W = .ok (.enter (opFn (k : Int)) args) W := by
  have : k = 1 ∨ k = 2 ∨ k = 3 ∨ k = 4 ∨ k = 5 ∨ k = 6 ∨ k = 7 ∨ k = 8 ∨ k = 9 ∨ k = 10 ∨ k = 11 ∨ k = 12 := by omega
  rcases this with rfl | rfl | rfl | rfl | rfl | rfl | rfl | rfl | rfl | rfl | rfl | rfl
  all_goals simp [go_sem, opFn]
theorem right_any (nm tv fv iv ov cv : Value) (ty : List Int) (cd : List Ins) (i : Ins) (w : World) (hg : Four.Glo w) (hT : ILst w tv ty) (hcap : ∀ a n c, tv = .slice a n c → n ≤ c) (hn : ty.length ≤ 1024) (hC : ISt w cv cd) (h1 : 1 ≤ i.op) (h12 : i.op ≤ 12) :
    Calls Tryd.prog (opFn i.op) #[.agg #[nm, tv, fv, iv, ov, cv], inA i] w fun e w' => e = .returned (.bool (rightB ty cd.length i)) ∧ Below w.heap.size w w' := by
  have : i.op = 1 ∨ i.op = 2 ∨ i.op = 3 ∨ i.op = 4 ∨ i.op = 5 ∨ i.op = 6 ∨ i.op = 7 ∨ i.op = 8 ∨ i.op = 9 ∨ i.op = 10 ∨ i.op = 11 ∨ i.op = 12 := by omega
  unfold rightB opFn
  rcases this with h | h | h | h | h | h | h | h | h | h | h | h
  all_goals rw [h]
  all_goals simp only [Int.reduceEq, if_true, if_false, or_true, or_self, or_false]
  · exact push_any nm tv fv iv ov cv i w hg
  · exact cell_any nm tv fv iv ov cv ty i w hT
  · exact cell_any nm tv fv iv ov cv ty i w hT
  · exact array_any nm tv fv iv ov cv ty i w hT hcap hn
  · exact array_any nm tv fv iv ov cv ty i w hT hcap hn
  · exact takes_two nm tv fv iv ov cv i w hg
  · exact takes_one nm tv fv iv ov cv i w hg
  · exact takes_conv nm tv fv iv ov cv i w hg
  · exact place_any nm tv fv iv ov cv cd i w hC
  · exact place_any nm tv fv iv ov cv cd i w hC
  · exact block_any nm tv fv iv ov cv ty i w hT hn
  · exact end_any nm tv fv iv ov cv i w
set_option maxRecDepth 100000 in
set_option maxHeartbeats 1600000 in
theorem mayBe_core (nm tv fv iv ov cv : Value) (o a b n : Int) (S : ByteArray) (h : Int) (f : Nat) (Z R : Bool) (w : World)
    (hf : ∀ args W, (callFunc f args).run Tryd.prog W = .ok (.enter f args) W)
    (c39 : ∀ W, Calls Tryd.prog 12 #[.int .i64 o] W fun e w' => e = .returned (.tuple #[.agg #[.string S, .int .u8 h, .func (.func f) #[] #[]], .bool true]) ∧ Below W.heap.size W w')
    (c40 : ∀ W, Calls Tryd.prog 35 #[.int .u8 h, .agg #[.int .i64 o, .int .i64 a, .int .i64 b, .int .i64 n]] W fun e w' => e = .returned (.bool Z) ∧ Below W.heap.size W w')
    (cf : ∀ W, Below w.heap.size w W → Calls Tryd.prog f #[.agg #[nm, tv, fv, iv, ov, cv], .agg #[.int .i64 o, .int .i64 a, .int .i64 b, .int .i64 n]] W fun e w' => e = .returned (.bool R) ∧ Below W.heap.size W w') :
    Calls Tryd.prog 17 #[.agg #[nm, tv, fv, iv, ov, cv], .agg #[.int .i64 o, .int .i64 a, .int .i64 b, .int .i64 n]] w fun e w' => e = .returned (.bool (Z && R)) ∧ Below w.heap.size w w' := by
  have ho : (#[.string S, .int .u8 h, .func (.func f) #[] #[]] : Array Value).all (·.oneCell') = true := by
    rw [← Array.all_toList]; rfl
  have HF := hide cf
  have HB2 : Hid (∀ A B, Below w.heap.size w ((w.alloc A).alloc B)) := bw2 w
  clear cf
  cases Z
  all_goals
    go_enter Tryd.func17, Tryd.ntmps17
    go_wp2_with (first | (go_at_call 12; refine (c39 _).mono ?_; rintro e w1 ⟨rfl, b1⟩; have B1 := hide ((HB2.out _ _).trans (b1.mono (by simp; omega))); have q0 := (b1.cell (p := ⟨w.heap.size, 0, none⟩) (by simp; omega)); have q1 := (b1.cell (p := ⟨w.heap.size, 1, none⟩) (by simp; omega)); have q2 := (b1.cell (p := ⟨w.heap.size, 2, none⟩) (by simp; omega)); have q3 := (b1.cell (p := ⟨w.heap.size, 3, none⟩) (by simp; omega)); have q4 := (b1.cell (p := ⟨w.heap.size, 4, none⟩) (by simp; omega)); have q5 := (b1.cell (p := ⟨w.heap.size, 5, none⟩) (by simp; omega)); have r0 := (b1.cell (p := ⟨w.heap.size + 1, 0, none⟩) (by simp)); have r1 := (b1.cell (p := ⟨w.heap.size + 1, 1, none⟩) (by simp)); have r2 := (b1.cell (p := ⟨w.heap.size + 1, 2, none⟩) (by simp)); have r3 := (b1.cell (p := ⟨w.heap.size + 1, 3, none⟩) (by simp)); have L1 : w.heap.size + 1 < w1.heap.size := (by have := b1.size; simp at this; omega); clear b1; simp [go_sem] at q0 q1 q2 q3 q4 q5 r0 r1 r2 r3) | ((with_reducible refine Four.at_store (ty := 44) ?_); go_must (refine wpList_store_rowTo rfl 44 _ _ rfl rfl _ #[.string S, .int .u8 h, .func (.func f) #[] #[]] rfl rfl 44 ruNone (heap_alloc_new _ _) size44 rfl ho ?_; rw [World.setRow_alloc_new])))
    refine (c40 _).mono ?_
    rintro e w2 ⟨rfl, b2⟩
    have HB3 := hide (B1.out.trans ((((Below.refl w1.heap.size w1).alloc (Nat.le_refl _) _).trans (b2.mono (by simp))).mono B1.out.size))
    have s0 := (b2.cell (p := ⟨w.heap.size, 0, none⟩) (by simp; omega)).trans ((World.cell?_alloc_lt _ _ ⟨w.heap.size, 0, none⟩ (by show w.heap.size < _; omega)).trans q0)
    have s1 := (b2.cell (p := ⟨w.heap.size, 1, none⟩) (by simp; omega)).trans ((World.cell?_alloc_lt _ _ ⟨w.heap.size, 1, none⟩ (by show w.heap.size < _; omega)).trans q1)
    have s2 := (b2.cell (p := ⟨w.heap.size, 2, none⟩) (by simp; omega)).trans ((World.cell?_alloc_lt _ _ ⟨w.heap.size, 2, none⟩ (by show w.heap.size < _; omega)).trans q2)
    have s3 := (b2.cell (p := ⟨w.heap.size, 3, none⟩) (by simp; omega)).trans ((World.cell?_alloc_lt _ _ ⟨w.heap.size, 3, none⟩ (by show w.heap.size < _; omega)).trans q3)
    have s4 := (b2.cell (p := ⟨w.heap.size, 4, none⟩) (by simp; omega)).trans ((World.cell?_alloc_lt _ _ ⟨w.heap.size, 4, none⟩ (by show w.heap.size < _; omega)).trans q4)
    have s5 := (b2.cell (p := ⟨w.heap.size, 5, none⟩) (by simp; omega)).trans ((World.cell?_alloc_lt _ _ ⟨w.heap.size, 5, none⟩ (by show w.heap.size < _; omega)).trans q5)
    have t0 := (b2.cell (p := ⟨w.heap.size + 1, 0, none⟩) (by simp; omega)).trans ((World.cell?_alloc_lt _ _ ⟨w.heap.size + 1, 0, none⟩ (by show w.heap.size + 1 < _; omega)).trans r0)
    have t1 := (b2.cell (p := ⟨w.heap.size + 1, 1, none⟩) (by simp; omega)).trans ((World.cell?_alloc_lt _ _ ⟨w.heap.size + 1, 1, none⟩ (by show w.heap.size + 1 < _; omega)).trans r1)
    have t2 := (b2.cell (p := ⟨w.heap.size + 1, 2, none⟩) (by simp; omega)).trans ((World.cell?_alloc_lt _ _ ⟨w.heap.size + 1, 2, none⟩ (by show w.heap.size + 1 < _; omega)).trans r2)
    have t3 := (b2.cell (p := ⟨w.heap.size + 1, 3, none⟩) (by simp; omega)).trans ((World.cell?_alloc_lt _ _ ⟨w.heap.size + 1, 3, none⟩ (by show w.heap.size + 1 < _; omega)).trans r3)
    have u2 := (b2.cell (p := ⟨w1.heap.size, 2, none⟩) (by simp)).trans ((cell_of_row _ _ 2 _ 44 (0, 0) (heap_alloc_new _ _)).trans rfl)
    clear b2 q0 q1 q2 q3 q4 q5 r0 r1 r2 r3 c40 c39
    generalize w1.heap.size = g1 at *
    go_wp2_with fail
    first | (go_ret; exact ⟨rfl, HB3.out⟩) | skip
  refine (HF.out _ HB3.out).mono ?_
  rintro e w3 ⟨rfl, b3⟩
  have HB4 := hide (HB3.out.trans (b3.mono HB3.out.size))
  clear b3
  go_wp2_with fail
  go_ret
  exact ⟨rfl, HB4.out⟩
set_option maxRecDepth 100000 in
set_option maxHeartbeats 1600000 in
theorem mayBe_no (nm tv fv iv ov cv : Value) (o a b n : Int) (w : World)
    (c39 : ∀ W, Calls Tryd.prog 12 #[.int .i64 o] W fun e w' => e = .returned (.tuple #[.agg #[.string ⟨#[]⟩, .int .u8 0, .nilFunc], .bool false]) ∧ Below W.heap.size W w') :
    Calls Tryd.prog 17 #[.agg #[nm, tv, fv, iv, ov, cv], .agg #[.int .i64 o, .int .i64 a, .int .i64 b, .int .i64 n]] w fun e w' => e = .returned (.bool false) ∧ Below w.heap.size w w' := by
  have ho : (#[.string ⟨#[]⟩, .int .u8 0, .nilFunc] : Array Value).all (·.oneCell') = true := ruNone_one
  have HB2 : Hid (∀ A B, Below w.heap.size w ((w.alloc A).alloc B)) := bw2 w
  go_enter Tryd.func17, Tryd.ntmps17
  go_wp2_with (first | (go_at_call 12; refine (c39 _).mono ?_; rintro e w1 ⟨rfl, b1⟩; have B1 := hide ((HB2.out _ _).trans (b1.mono (by simp; omega))); clear b1) | ((with_reducible refine Four.at_store (ty := 44) ?_); go_must (refine wpList_store_rowTo rfl 44 _ _ rfl rfl _ #[.string ⟨#[]⟩, .int .u8 0, .nilFunc] rfl rfl 44 ruNone (heap_alloc_new _ _) size44 rfl ho ?_; rw [World.setRow_alloc_new])))
  go_ret
  exact ⟨rfl, B1.out.alloc B1.out.size _⟩
theorem mayBe_any (nm tv fv iv ov cv : Value) (ty : List Int) (cd : List Ins) (i : Ins) (w : World) (hg : Four.Glo w) (hT : ILst w tv ty) (hcap : ∀ a n c, tv = .slice a n c → n ≤ c) (hn : ty.length ≤ 1024) (hC : ISt w cv cd) :
    Calls Tryd.prog 17 #[.agg #[nm, tv, fv, iv, ov, cv], inA i] w fun e w' => e = .returned (.bool (mayI ty cd.length i)) ∧ Below w.heap.size w w' := by
  by_cases ho : 1 ≤ i.op ∧ i.op ≤ 12
  · have E : mayI ty cd.length i = (zeroB (hasN i.op) i && rightB ty cd.length i) := by unfold mayI; rw [decide_eq_true ho.1, decide_eq_true ho.2]; rfl
    rw [E]
    obtain ⟨k, hk⟩ : ∃ k : Nat, i.op = (k : Int) := ⟨i.op.toNat, by omega⟩
    have h1 : 1 ≤ k := by omega
    have h12 : k ≤ 12 := by omega
    refine mayBe_core nm tv fv iv ov cv i.op i.a i.b i.n ⟨(opName i.op).toArray⟩ (hasN i.op : Int) (opFn i.op) _ _ w (fun args W => by rw [hk]; exact opFn_ok k h1 h12 args W) (fun W => ?_) (fun W => others_any (hasN i.op) (hasN_is i.op) i W) (fun W hb => right_any nm tv fv iv ov cv ty cd i W (hg.below hb hg.lt) (hT.on hb) hcap hn (hC.on hb) ho.1 ho.2)
    rw [hk]
    exact rule_in k h1 h12 W
  · have E : mayI ty cd.length i = false := by
      unfold mayI
      by_cases h : 1 ≤ i.op
      · rw [decide_eq_false (fun h2 => ho ⟨h, h2⟩), Bool.and_false]; rfl
      · rw [decide_eq_false h]; rfl
    rw [E]
    obtain ⟨op, a, b, n⟩ := i
    have c39 := fun W => rule_out op W ho
    unfold ruNone at c39
    exact mayBe_no nm tv fv iv ov cv op a b n w c39
end Go.Proofs.YtmbgcpmapaedcaaDoor
