/- code: othersAreZero, mayBe. | code: take, linesMayBe. -/
import Derived.Test.YtlckedionmgjjaaDoorMg10
import Derived.Test.YtlckedionmgjjaaDoorMg11
import Derived.Laws.OwnMore
namespace Go.Proofs.YtlckedionmgjjaaDoor
open Go.RowKit
theorem hasN_is (op : Int) : hasN op = 5 ∨ hasN op = 1 ∨ hasN op = 0 ∨ hasN op = 3 := by
  unfold hasN
  repeat' split
  all_goals simp
set_option maxRecDepth 100000 in
set_option maxHeartbeats 3200000 in
theorem others_any (h : Nat) (hh : h = 5 ∨ h = 1 ∨ h = 0 ∨ h = 3) (i : Ins) (w : World) : Calls Tryd.prog 32 #[.int .u8 (h : Int), inA i] w fun e w' => e = .returned (.bool (zeroB h i)) ∧ Below w.heap.size w w' := by
  obtain ⟨op, a, b, n⟩ := i
  have E : Hid (zeroB h ⟨op, a, b, n⟩ = ((decide (h % 2 ≠ 0) || decide (a = 0)) && ((decide (h / 2 % 2 ≠ 0) || decide (b = 0)) && (decide (h / 4 % 2 ≠ 0) || decide (n = 0))))) := rfl
  generalize zeroB h ⟨op, a, b, n⟩ = R at *
  unfold inA
  have HB1 : Hid (∀ A, Below w.heap.size w (w.alloc A)) := fun A => (Below.refl _ _).alloc (Nat.le_refl _) _
  rcases hh with rfl | rfl | rfl | rfl <;> by_cases ha : a = 0 <;> by_cases hb : b = 0 <;> by_cases hn : n = 0
  all_goals
    have HR := hide E.out
    clear E
    simp only [ha, hb, hn] at HR
    try (have ea : (a == 0) = false := by simpa using ha)
    try (have eb : (b == 0) = false := by simpa using hb)
    try (have en : (n == 0) = false := by simpa using hn)
    try subst ha
    try subst hb
    try subst hn
    go_enter Tryd.func32, Tryd.ntmps32
    go_wp2
    go_ret
    exact ⟨ret_b (by rw [HR.out]; rfl), HB1.out _⟩
theorem opFn_ok (k : Nat) (h1 : 1 ≤ k) (h12 : k ≤ 12) (args : Array Value) (W : World) : (callFunc (opFn (k : Int)) args).run Tryd.prog W = .ok (.enter (opFn (k : Int)) args) W := by
  have : k = 1 ∨ k = 2 ∨ k = 3 ∨ k = 4 ∨ k = 5 ∨ k = 6 ∨ k = 7 ∨ k = 8 ∨ k = 9 ∨ k = 10 ∨ k = 11 ∨ k = 12 := by omega
  rcases this with rfl | rfl | rfl | rfl | rfl | rfl | rfl | rfl | rfl | rfl | rfl | rfl
  all_goals simp [go_sem, opFn]
theorem right_any (nm tv fv iv ov cv : Value) (ty : List Int) (cd : List Ins) (i : Ins) (w : World) (hg : Four.Glo w) (hT : ILst w tv ty) (hcap : ∀ a n c, tv = .slice a n c → n ≤ c) (hn : ty.length ≤ 1024) (hC : ISt w cv cd) (h1 : 1 ≤ i.op) (h12 : i.op ≤ 12) :
    Calls Tryd.prog (opFn i.op) #[.agg #[nm, tv, fv, iv, ov, cv], inA i] w fun e w' => e = .returned (.bool (rightB ty cd.length i)) ∧ Below w.heap.size w w' := by
  have : i.op = 1 ∨ i.op = 2 ∨ i.op = 3 ∨ i.op = 4 ∨ i.op = 5 ∨ i.op = 6 ∨ i.op = 7 ∨ i.op = 8 ∨ i.op = 9 ∨ i.op = 10 ∨ i.op = 11 ∨ i.op = 12 := by omega
  unfold rightB opFn
  rcases this with h | h | h | h | h | h | h | h | h | h | h | h
  all_goals rw [h]
  all_goals simp only [Int.reduceEq, if_true, if_false, or_true, or_self, or_false]
  · exact push_any nm tv fv iv ov cv i w hg
  · exact cell_any nm tv fv iv ov cv ty i w hT
  · exact cell_any nm tv fv iv ov cv ty i w hT
  · exact array_any nm tv fv iv ov cv ty i w hT hcap hn
  · exact array_any nm tv fv iv ov cv ty i w hT hcap hn
  · exact takes_two nm tv fv iv ov cv i w hg
  · exact takes_one nm tv fv iv ov cv i w hg
  · exact takes_conv nm tv fv iv ov cv i w hg
  · exact place_any nm tv fv iv ov cv cd i w hC
  · exact place_any nm tv fv iv ov cv cd i w hC
  · exact block_any nm tv fv iv ov cv ty i w hT hn
  · exact end_any nm tv fv iv ov cv i w
set_option maxRecDepth 100000 in
set_option maxHeartbeats 1600000 in
theorem mayBe_core (nm tv fv iv ov cv : Value) (o a b n : Int) (S : ByteArray) (h : Int) (f : Nat) (Z R : Bool) (w : World)
    (hf : ∀ args W, (callFunc f args).run Tryd.prog W = .ok (.enter f args) W)
    (c39 : ∀ W, Calls Tryd.prog 31 #[.int .i64 o] W fun e w' => e = .returned (.tuple #[.agg #[.string S, .int .u8 h, .func (.func f) #[] #[]], .bool true]) ∧ Below W.heap.size W w')
    (c40 : ∀ W, Calls Tryd.prog 32 #[.int .u8 h, .agg #[.int .i64 o, .int .i64 a, .int .i64 b, .int .i64 n]] W fun e w' => e = .returned (.bool Z) ∧ Below W.heap.size W w')
    (cf : ∀ W, Below w.heap.size w W → Calls Tryd.prog f #[.agg #[nm, tv, fv, iv, ov, cv], .agg #[.int .i64 o, .int .i64 a, .int .i64 b, .int .i64 n]] W fun e w' => e = .returned (.bool R) ∧ Below W.heap.size W w') :
    Calls Tryd.prog 22 #[.agg #[nm, tv, fv, iv, ov, cv], .agg #[.int .i64 o, .int .i64 a, .int .i64 b, .int .i64 n]] w fun e w' => e = .returned (.bool (Z && R)) ∧ Below w.heap.size w w' := by
  have ho : (#[.string S, .int .u8 h, .func (.func f) #[] #[]] : Array Value).all (·.oneCell') = true := by
    rw [← Array.all_toList]; rfl
  have HF := hide cf
  have HB2 : Hid (∀ A B, Below w.heap.size w ((w.alloc A).alloc B)) := bw2 w
  clear cf
  cases Z
  all_goals
    go_enter Tryd.func22, Tryd.ntmps22
    go_wp2_with (first | (go_at_call 31; refine (c39 _).mono ?_; rintro e w1 ⟨rfl, b1⟩; have B1 := hide ((HB2.out _ _).trans (b1.mono (by simp; omega))); have q0 := (b1.cell (p := ⟨w.heap.size, 0, none⟩) (by simp; omega)); have q1 := (b1.cell (p := ⟨w.heap.size, 1, none⟩) (by simp; omega)); have q2 := (b1.cell (p := ⟨w.heap.size, 2, none⟩) (by simp; omega)); have q3 := (b1.cell (p := ⟨w.heap.size, 3, none⟩) (by simp; omega)); have q4 := (b1.cell (p := ⟨w.heap.size, 4, none⟩) (by simp; omega)); have q5 := (b1.cell (p := ⟨w.heap.size, 5, none⟩) (by simp; omega)); have r0 := (b1.cell (p := ⟨w.heap.size + 1, 0, none⟩) (by simp)); have r1 := (b1.cell (p := ⟨w.heap.size + 1, 1, none⟩) (by simp)); have r2 := (b1.cell (p := ⟨w.heap.size + 1, 2, none⟩) (by simp)); have r3 := (b1.cell (p := ⟨w.heap.size + 1, 3, none⟩) (by simp)); have L1 : w.heap.size + 1 < w1.heap.size := (by have := b1.size; simp at this; omega); clear b1; simp [go_sem] at q0 q1 q2 q3 q4 q5 r0 r1 r2 r3) | ((with_reducible refine Four.at_store (ty := 69) ?_); go_must (refine wpList_store_rowTo rfl 69 _ _ rfl rfl _ #[.string S, .int .u8 h, .func (.func f) #[] #[]] rfl rfl 69 ruNone (heap_alloc_new _ _) size69 rfl ho ?_; rw [World.setRow_alloc_new])))
    refine (c40 _).mono ?_
    rintro e w2 ⟨rfl, b2⟩
    have HB3 := hide (B1.out.trans ((((Below.refl w1.heap.size w1).alloc (Nat.le_refl _) _).trans (b2.mono (by simp))).mono B1.out.size))
    have s0 := (b2.cell (p := ⟨w.heap.size, 0, none⟩) (by simp; omega)).trans ((World.cell?_alloc_lt _ _ ⟨w.heap.size, 0, none⟩ (by show w.heap.size < _; omega)).trans q0)
    have s1 := (b2.cell (p := ⟨w.heap.size, 1, none⟩) (by simp; omega)).trans ((World.cell?_alloc_lt _ _ ⟨w.heap.size, 1, none⟩ (by show w.heap.size < _; omega)).trans q1)
    have s2 := (b2.cell (p := ⟨w.heap.size, 2, none⟩) (by simp; omega)).trans ((World.cell?_alloc_lt _ _ ⟨w.heap.size, 2, none⟩ (by show w.heap.size < _; omega)).trans q2)
    have s3 := (b2.cell (p := ⟨w.heap.size, 3, none⟩) (by simp; omega)).trans ((World.cell?_alloc_lt _ _ ⟨w.heap.size, 3, none⟩ (by show w.heap.size < _; omega)).trans q3)
    have s4 := (b2.cell (p := ⟨w.heap.size, 4, none⟩) (by simp; omega)).trans ((World.cell?_alloc_lt _ _ ⟨w.heap.size, 4, none⟩ (by show w.heap.size < _; omega)).trans q4)
    have s5 := (b2.cell (p := ⟨w.heap.size, 5, none⟩) (by simp; omega)).trans ((World.cell?_alloc_lt _ _ ⟨w.heap.size, 5, none⟩ (by show w.heap.size < _; omega)).trans q5)
    have t0 := (b2.cell (p := ⟨w.heap.size + 1, 0, none⟩) (by simp; omega)).trans ((World.cell?_alloc_lt _ _ ⟨w.heap.size + 1, 0, none⟩ (by show w.heap.size + 1 < _; omega)).trans r0)
    have t1 := (b2.cell (p := ⟨w.heap.size + 1, 1, none⟩) (by simp; omega)).trans ((World.cell?_alloc_lt _ _ ⟨w.heap.size + 1, 1, none⟩ (by show w.heap.size + 1 < _; omega)).trans r1)
    have t2 := (b2.cell (p := ⟨w.heap.size + 1, 2, none⟩) (by simp; omega)).trans ((World.cell?_alloc_lt _ _ ⟨w.heap.size + 1, 2, none⟩ (by show w.heap.size + 1 < _; omega)).trans r2)
    have t3 := (b2.cell (p := ⟨w.heap.size + 1, 3, none⟩) (by simp; omega)).trans ((World.cell?_alloc_lt _ _ ⟨w.heap.size + 1, 3, none⟩ (by show w.heap.size + 1 < _; omega)).trans r3)
    have u2 := (b2.cell (p := ⟨w1.heap.size, 2, none⟩) (by simp)).trans ((cell_of_row _ _ 2 _ 69 (0, 0) (heap_alloc_new _ _)).trans rfl)
    clear b2 q0 q1 q2 q3 q4 q5 r0 r1 r2 r3 c40 c39
    generalize w1.heap.size = g1 at *
    go_wp2_with fail
    first | (go_ret; exact ⟨rfl, HB3.out⟩) | skip
  refine (HF.out _ HB3.out).mono ?_
  rintro e w3 ⟨rfl, b3⟩
  have HB4 := hide (HB3.out.trans (b3.mono HB3.out.size))
  clear b3
  go_wp2_with fail
  go_ret
  exact ⟨rfl, HB4.out⟩
set_option maxRecDepth 100000 in
set_option maxHeartbeats 1600000 in
theorem mayBe_no (nm tv fv iv ov cv : Value) (o a b n : Int) (w : World)
    (c39 : ∀ W, Calls Tryd.prog 31 #[.int .i64 o] W fun e w' => e = .returned (.tuple #[.agg #[.string ⟨#[]⟩, .int .u8 0, .nilFunc], .bool false]) ∧ Below W.heap.size W w') :
    Calls Tryd.prog 22 #[.agg #[nm, tv, fv, iv, ov, cv], .agg #[.int .i64 o, .int .i64 a, .int .i64 b, .int .i64 n]] w fun e w' => e = .returned (.bool false) ∧ Below w.heap.size w w' := by
  have ho : (#[.string ⟨#[]⟩, .int .u8 0, .nilFunc] : Array Value).all (·.oneCell') = true := ruNone_one
  have HB2 : Hid (∀ A B, Below w.heap.size w ((w.alloc A).alloc B)) := bw2 w
  go_enter Tryd.func22, Tryd.ntmps22
  go_wp2_with (first | (go_at_call 31; refine (c39 _).mono ?_; rintro e w1 ⟨rfl, b1⟩; have B1 := hide ((HB2.out _ _).trans (b1.mono (by simp; omega))); clear b1) | ((with_reducible refine Four.at_store (ty := 69) ?_); go_must (refine wpList_store_rowTo rfl 69 _ _ rfl rfl _ #[.string ⟨#[]⟩, .int .u8 0, .nilFunc] rfl rfl 69 ruNone (heap_alloc_new _ _) size69 rfl ho ?_; rw [World.setRow_alloc_new])))
  go_ret
  exact ⟨rfl, B1.out.alloc B1.out.size _⟩
theorem mayBe_any (nm tv fv iv ov cv : Value) (ty : List Int) (cd : List Ins) (i : Ins) (w : World) (hg : Four.Glo w) (hT : ILst w tv ty) (hcap : ∀ a n c, tv = .slice a n c → n ≤ c) (hn : ty.length ≤ 1024) (hC : ISt w cv cd) :
    Calls Tryd.prog 22 #[.agg #[nm, tv, fv, iv, ov, cv], inA i] w fun e w' => e = .returned (.bool (mayI ty cd.length i)) ∧ Below w.heap.size w w' := by
  by_cases ho : 1 ≤ i.op ∧ i.op ≤ 12
  · have E : mayI ty cd.length i = (zeroB (hasN i.op) i && rightB ty cd.length i) := by unfold mayI; rw [decide_eq_true ho.1, decide_eq_true ho.2]; rfl
    rw [E]
    obtain ⟨k, hk⟩ : ∃ k : Nat, i.op = (k : Int) := ⟨i.op.toNat, by omega⟩
    have h1 : 1 ≤ k := by omega
    have h12 : k ≤ 12 := by omega
    refine mayBe_core nm tv fv iv ov cv i.op i.a i.b i.n ⟨(opName i.op).toArray⟩ (hasN i.op : Int) (opFn i.op) _ _ w (fun args W => by rw [hk]; exact opFn_ok k h1 h12 args W) (fun W => ?_) (fun W => others_any (hasN i.op) (hasN_is i.op) i W) (fun W hb => right_any nm tv fv iv ov cv ty cd i W (hg.below hb hg.lt) (hT.on hb) hcap hn (hC.on hb) ho.1 ho.2)
    rw [hk]
    exact rule_in k h1 h12 W
  · have E : mayI ty cd.length i = false := by
      unfold mayI
      by_cases h : 1 ≤ i.op
      · rw [decide_eq_false (fun h2 => ho ⟨h, h2⟩), Bool.and_false]; rfl
      · rw [decide_eq_false h]; rfl
    rw [E]
    obtain ⟨op, a, b, n⟩ := i
    have c39 := fun W => rule_out op W ho
    unfold ruNone at c39
    exact mayBe_no nm tv fv iv ov cv op a b n w c39
end Go.Proofs.YtlckedionmgjjaaDoor
namespace Go.Proofs.YtlckedionmgjjaaDoor
open Go.RowKit
/-- a row of marks: which cells are taken -/
def Bt (w : World) (g m : Nat) (seen : List Int) : Prop := ∃ cur, w.heap[g]? = some (.cells cur 4 (0, 0)) ∧ cur.size = m ∧ ∀ c : Nat, c < m → cur[c]? = some (.bool (seen.contains (c : Int)))
theorem Bt.cell {w : World} {g m : Nat} {s : List Int} (h : Bt w g m s) {c : Nat} (hc : c < m) : w.cell? ⟨g, c, none⟩ = some (.bool (s.contains (c : Int))) := by
  obtain ⟨cur, hh, hs, ht⟩ := h
  rw [Lib.cell_of_heap hh]
  exact ht c hc
theorem Bt.fr {w : World} {g m : Nat} {s : List Int} (h : Bt w g m s) (c : Nat) : w.frozen? ⟨g, c, none⟩ = false := by
  obtain ⟨cur, hh, -⟩ := h
  exact Lib.frozen_of_heap hh c
theorem Bt.set {w : World} {g m : Nat} {s : List Int} (h : Bt w g m s) (c : Nat) : Bt (w.setCell ⟨g, c, none⟩ (.bool true)) g m ((c : Int) :: s) := by
  obtain ⟨cur, hh, hs, ht⟩ := h
  refine ⟨_, Lib.heap_setCell_same hh _, by simp [hs], fun j hj => ?_⟩
  rw [Array.getElem?_setIfInBounds]
  by_cases e : c = j
  · subst e
    rw [if_pos rfl, if_pos (by omega), List.contains_cons, beq_self_eq_true]; rfl
  · rw [if_neg e, ht j hj, List.contains_cons]
    have : ((j : Int) == (c : Int)) = false := by rw [beq_eq_false_iff_ne]; omega
    rw [this]; rfl
theorem Bt.lt {w : World} {g m : Nat} {s : List Int} (h : Bt w g m s) : g < w.heap.size := by
  obtain ⟨cur, hh, -⟩ := h
  exact (Array.getElem?_eq_some_iff.1 hh).1
theorem Bt.drewN {w : World} {g m : Nat} {s : List Int} (h : Bt w g m s) (n : Nat) : Bt (w.drewN n) g m s := h
theorem line_app (n : Nat) (a b : List Int) : ∀ s, lineB n s (a ++ b) = (lineB n s a && lineB n (a.reverse ++ s) b) := by
  induction a with
  | nil => intro s; rfl
  | cons c r ih =>
    intro s
    show (inB c n && (!(s.contains c) && lineB n (c :: s) (r ++ b))) = ((inB c n && (!(s.contains c) && lineB n (c :: s) r)) && lineB n ((c :: r).reverse ++ s) b)
    rw [ih, List.reverse_cons, List.append_assoc]
    show _ = ((inB c n && (!(s.contains c) && lineB n (c :: s) r)) && lineB n (r.reverse ++ (c :: s)) b)
    simp only [Bool.and_assoc]
theorem below_set {B g : Nat} {a w : World} (h : Below B a w) (hg : B ≤ g) (k : Nat) (v : Value) : Below B a (w.setCell ⟨g, k, none⟩ v) :=
  h.trans ⟨rfl, rfl, rfl, by simp, fun j hj => heap_setCell_other w ⟨g, k, none⟩ j v (by show j ≠ g; omega)⟩
set_option maxRecDepth 100000 in
set_option maxHeartbeats 1600000 in
theorem take_any (g m cp : Nat) (hm : m ≤ 1024) (seen : List Int) (cv : Value) (l : List Int) (w0 w : World) (hL : ILst w0 cv l) (hlen : l.length ≤ 35184372088832) (hb : Below w0.heap.size w0 w) (hg : w0.heap.size ≤ g) (hB : Bt w g m seen) :
    Calls Tryd.prog 46 #[.slice (some ⟨g, 0, none⟩) m cp, cv] w fun e w' => e = .returned (.bool (lineB m seen l)) ∧ Below w0.heap.size w0 w' ∧ (lineB m seen l = true → Bt w' g m (l.reverse ++ seen)) := by
  obtain ⟨aa, ab, aoff, acap, rfl, hA, hI⟩ := hL
  have HA := hide hA
  have HI := hide hI
  have HBW := hide hb
  have HBT := hide hB
  obtain ⟨n, hn⟩ : ∃ n, n = l.length := ⟨_, rfl⟩
  rw [← hn] at hlen ⊢
  have HN := hide hn
  have n0 : (0 : Int) ≤ (n : Int) := by omega
  have n5 : (n : Int) ≤ 35184372088832 := by omega
  have m0 : (0 : Int) ≤ (m : Int) := by omega
  have m5 : (m : Int) ≤ 1024 := by omega
  clear hn hA hI hb hB
  go_enter Tryd.func46, Tryd.ntmps46
  go_wp2_with fail
  go_loopw [6, 9] (fun _ i wr => ∃ k : Nat, k ≤ n ∧ i = .int .i64 (k : Int) ∧ Hid (lineB m seen l = lineB m ((l.take k).reverse ++ seen) (l.drop k) ∧ Bt wr g m ((l.take k).reverse ++ seen) ∧ Below w0.heap.size w0 wr)) (fun _ i _ => n - (intOf i).toNat)
  case atStart => exact ⟨0, by omega, rfl, rfl, HBT.out, HBW.out⟩
  case round =>
    obtain ⟨k, hk, rfl, hh⟩ := hrel
    obtain ⟨he, ht, hw⟩ := hh.out
    have k0 : (0 : Int) ≤ (k : Int) := by omega
    by_cases hlt : k < n
    · have j1 : (k : Int) < (n : Int) := by omega
      obtain ⟨x, hx⟩ : ∃ x, l[k]? = some x := ⟨_, List.getElem?_eq_getElem (by rw [← HN.out]; exact hlt)⟩
      obtain ⟨hab, rfl⟩ := HA.out (by rw [← HN.out]; omega)
      have c1 := (hw.cell (p := ⟨ab, aoff + k, none⟩) hab).trans (HI.out k x hx)
      have hd : l.drop k = x :: l.drop (k + 1) := by
        obtain ⟨h, rfl⟩ := List.getElem?_eq_some_iff.1 hx
        exact List.drop_eq_getElem_cons h
      have htk : (l.take (k + 1)).reverse ++ seen = x :: ((l.take k).reverse ++ seen) := by
        rw [List.take_add_one, hx]; simp
      rw [hd] at he
      have he2 : Hid (lineB m seen l = (inB x m && (!(((l.take k).reverse ++ seen).contains x) && lineB m (x :: ((l.take k).reverse ++ seen)) (l.drop (k + 1))))) := he
      have m1 := fun W => within_any x m W
      have HW := hide hw
      have HT := hide ht
      have HK := hide htk
      clear hx hd he htk hh hw ht
      generalize (l.take k).reverse ++ seen = sn at *
      cases hin : inB x m with
      | false =>
        rw [hin] at m1 he2
        have HE : Hid (lineB m seen l = false) := by show _ = _; rw [he2.out]; rfl
        clear he2 hin
        go_wp2_with (go_at_call 71; refine (m1 _).mono ?_; rintro e w1 ⟨rfl, rfl⟩)
        go_ret
        exact ⟨ret_b HE.out.symm, HW.out, fun h => absurd (HE.out.symm.trans h) (by simp)⟩
      | true =>
        rw [hin] at m1 he2
        have hh : 0 ≤ x ∧ x < (m : Int) := by
          unfold inB at hin
          simp only [Bool.and_eq_true, decide_eq_true_eq] at hin
          exact hin
        obtain ⟨x0, x1⟩ := hh
        obtain ⟨p, rfl⟩ : ∃ p : Nat, x = (p : Int) := ⟨x.toNat, by omega⟩
        have d1 := HT.out.cell (c := p) (by omega)
        have d2 := HT.out.fr p
        have HS := hide (HT.out.set p)
        have HBS := hide (below_set HW.out hg p (.bool true))
        clear hin
        cases hs : sn.contains (p : Int) with
        | true =>
          rw [hs] at d1 he2
          have HE : Hid (lineB m seen l = false) := by show _ = _; rw [he2.out]; rfl
          clear he2 hs
          go_wp2_with (go_at_call 71; refine (m1 _).mono ?_; rintro e w1 ⟨rfl, rfl⟩)
          go_ret
          exact ⟨ret_b HE.out.symm, HW.out, fun h => absurd (HE.out.symm.trans h) (by simp)⟩
        | false =>
          rw [hs] at d1 he2
          clear hs
          go_wp2_with (go_at_call 71; refine (m1 _).mono ?_; rintro e w1 ⟨rfl, rfl⟩)
          go_roundw
          case rel => exact ⟨k + 1, by omega, by go_num, by rw [HK.out, he2.out]; rfl, by rw [HK.out]; exact HS.out, HBS.out⟩
          case measure => simp [intOf]; omega
    · obtain rfl : k = n := by omega
      have HE : Hid (lineB m seen l = true) := by
        show _ = _
        rw [he, List.drop_eq_nil_of_le (by rw [← HN.out]; exact Nat.le_refl _)]; rfl
      have HT : Hid (Bt wr g m (l.reverse ++ seen)) := by
        show Bt _ _ _ _
        rw [List.take_of_length_le (by rw [← HN.out]; exact Nat.le_refl _)] at ht
        exact ht
      have HW := hide hw
      clear he ht hw hh
      go_wp2
      go_ret
      exact ⟨ret_b HE.out.symm, HW.out, fun _ => HT.out⟩
theorem info4 : (Tryd.prog.info? 4).map (fun i => (i.zero, i.size, i.bytes)) = some (some (.bool false), 1, 1) := by kernel_rfl
theorem make4 (m : Nat) (hm : m ≤ 1024) (u : World) : (Instr.makeSlice 31 (.int .i64 (m : Int)) (.int .i64 (m : Int))).run Tryd.prog u = .ok (.slice (some ⟨u.heap.size, 0, none⟩) m m) (u.alloc (.cells (madeCells #[.bool false] m) 4)) := by
  obtain ⟨i0, hi, hz0, hz1, hz2⟩ := info_parts info4
  have h := run_make (P := Tryd.prog) u 31 4 i0 (.bool false) Tryd.underlying31 hi hz0 .i64 .i64 (m : Int) (m : Int) (by omega) (by omega) (by rw [hz2]; omega) (by omega)
  rw [Int.toNat_natCast] at h
  simpa [hz1, Value.cells] using h
theorem Bt.new (u : World) (m : Nat) : Bt (u.alloc (.cells (madeCells #[.bool false] m) 4)) u.heap.size m [] := by
  refine ⟨_, heap_alloc_new _ _, size_madeCells _ _, fun c hc => ?_⟩
  rw [← Array.getElem?_toList, toList_madeCells_one, List.getElem?_replicate, if_pos hc]; rfl
set_option maxRecDepth 100000 in
set_option maxHeartbeats 1600000 in
theorem lines_any (nm tv fv iv ov cv : Value) (ty ins outs : List Int) (w : World) (hT : ILst w tv ty) (hn : ty.length ≤ 1024) (hI : ILst w iv ins) (hO : ILst w ov outs) (hil : ins.length ≤ 35184372088832) (hol : outs.length ≤ 35184372088832) :
    Calls Tryd.prog 30 #[.agg #[nm, tv, fv, iv, ov, cv]] w fun e w' => e = .returned (.bool (lineB ty.length [] (ins ++ outs))) ∧ Below w.heap.size w w' := by
  obtain ⟨ta, tcap, rfl⟩ := hT.shape
  have E : Hid (lineB ty.length [] (ins ++ outs) = (lineB ty.length [] ins && lineB ty.length (ins.reverse ++ []) outs)) := line_app _ _ _ _
  generalize ty.length = m at *
  have hmk := make4 m hn
  have m0 : (0 : Int) ≤ (m : Int) := by omega
  have HB1 : Hid (∀ A, Below w.heap.size w (w.alloc A)) := fun A => (Below.refl _ _).alloc (Nat.le_refl _) _
  have t1 : Hid (∀ (w0 W : World) (g : Nat) (s : List Int) (hw : Below w.heap.size w w0) (hb : Below w0.heap.size w0 W) (hg : w0.heap.size ≤ g) (hB : Bt W g m s), Calls Tryd.prog 46 #[.slice (some ⟨g, 0, none⟩) m m, iv] W fun e w' => e = .returned (.bool (lineB m s ins)) ∧ Below w0.heap.size w0 w' ∧ (lineB m s ins = true → Bt w' g m (ins.reverse ++ s))) :=
    fun w0 W g s hw hb hg hB => take_any g m m hn s iv ins w0 W (hI.on hw) hil hb hg hB
  have t2 : Hid (∀ (w0 W : World) (g : Nat) (s : List Int) (hw : Below w.heap.size w w0) (hb : Below w0.heap.size w0 W) (hg : w0.heap.size ≤ g) (hB : Bt W g m s), Calls Tryd.prog 46 #[.slice (some ⟨g, 0, none⟩) m m, ov] W fun e w' => e = .returned (.bool (lineB m s outs)) ∧ Below w0.heap.size w0 w' ∧ (lineB m s outs = true → Bt w' g m (outs.reverse ++ s))) :=
    fun w0 W g s hw hb hg hB => take_any g m m hn s ov outs w0 W (hO.on hw) hol hb hg hB
  clear hT hI hO hil hol
  have key : ∀ R, Hid (lineB m [] (ins ++ outs) = R) → Calls Tryd.prog 30 #[.agg #[nm, .slice ta m tcap, fv, iv, ov, cv]] w fun e w' => e = .returned (.bool R) ∧ Below w.heap.size w w' := fun R hR => by
    have HN : Hid (∀ A, Bt ((w.alloc A).alloc (.cells (madeCells #[.bool false] m) 4)) (w.heap.size + 1) m []) := fun A => by
      have h := Bt.new (w.alloc A) m
      rw [show (w.alloc A).heap.size = w.heap.size + 1 from by simp] at h
      exact h
    have HB2 : Hid (∀ A B, Below (w.alloc A).heap.size (w.alloc A) ((w.alloc A).alloc B)) := fun A B => (Below.refl _ _).alloc (Nat.le_refl _) _
    cases hb : lineB m [] ins with
    | false =>
      have HR : Hid (R = false) := by show _ = _; rw [← hR.out, E.out, hb]; rfl
      clear hR E
      go_enter Tryd.func30, Tryd.ntmps30
      go_wp2_with fail
      refine (t1.out (w.alloc _) _ (w.heap.size + 1) [] (HB1.out _) (HB2.out _ _) (by simp) (HN.out _)).mono ?_
      rintro e w1 ⟨rfl, b1, -⟩
      rw [hb]
      have B1 := hide ((HB1.out _).trans (b1.mono (by simp)))
      clear b1
      go_wp2_with fail
      go_ret
      exact ⟨ret_b HR.out.symm, B1.out⟩
    | true =>
      have HR : Hid (R = lineB m (ins.reverse ++ []) outs) := by show _ = _; rw [← hR.out, E.out, hb]; rfl
      clear hR E
      go_enter Tryd.func30, Tryd.ntmps30
      go_wp2_with fail
      refine (t1.out (w.alloc _) _ (w.heap.size + 1) [] (HB1.out _) (HB2.out _ _) (by simp) (HN.out _)).mono ?_
      rintro e w1 ⟨rfl, b1, bt⟩
      rw [hb] at bt ⊢
      have HBT := hide (bt rfl)
      have c4 := b1.cell (p := ⟨w.heap.size, 4, none⟩) (by simp)
      simp [go_sem] at c4
      have HB3 := hide b1
      clear b1 bt
      go_wp2_with fail
      refine (t2.out (w.alloc _) _ (w.heap.size + 1) _ (HB1.out _) HB3.out (by simp) HBT.out).mono ?_
      rintro e w2 ⟨rfl, b2, -⟩
      rw [← HR.out]
      have B2 := hide ((HB1.out _).trans (b2.mono (by simp)))
      clear b2
      go_wp2_with fail
      go_ret
      exact ⟨rfl, B2.out⟩
  exact key _ rfl
end Go.Proofs.YtlckedionmgjjaaDoor
