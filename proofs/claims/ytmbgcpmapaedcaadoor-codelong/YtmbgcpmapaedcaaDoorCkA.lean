/- code: within, thereFrom, othersAreZero, and the rules that need no memory. -/
import Derived.Test.YtmbgcpmapaedcaaDoorCdP
import Derived.Test.YtmbgcpmapaedcaaDoorN4NumP
import Derived.Test.YtmbgcpmapaedcaaDoorN4ConvW
namespace Go.Proofs.YtmbgcpmapaedcaaDoor
open Go.RowKit
theorem ret_b {a b : Bool} (h : a = b) : Ending.returned (.bool a) = .returned (.bool b) := by rw [h]
def inA (i : Ins) : Value := .agg #[.int .i64 i.op, .int .i64 i.a, .int .i64 i.b, .int .i64 i.n]
set_option maxRecDepth 100000 in
theorem within_any (c : Int) (n : Nat) (w : World) : Calls Tryd.prog 44 #[.int .i64 c, .int .i64 (n : Int)] w fun e w' => e = .returned (.bool (inB c n)) ∧ w' = w := by
  have E : Hid (inB c n = (decide (0 ≤ c) && decide (c < (n : Int)))) := rfl
  by_cases h : 0 ≤ c
  · go_enter Tryd.func44, Tryd.ntmps44
    go_wp2
    go_ret
    exact ⟨ret_b (by rw [E.out, decide_eq_true h]; rfl), rfl⟩
  · go_enter Tryd.func44, Tryd.ntmps44
    go_wp2
    go_ret
    exact ⟨ret_b (by rw [E.out, decide_eq_false (by omega)]; rfl), rfl⟩
set_option maxRecDepth 100000 in
set_option maxHeartbeats 1600000 in
theorem thereFrom_any (nm ta fv iv ov cv : Value) (ty : List Int) (a m : Int) (w : World) (hT : ILst w ta ty) (hn : ty.length ≤ 1024) :
    Calls Tryd.prog 45 #[.agg #[nm, ta, fv, iv, ov, cv], .int .i64 a, .int .i64 m] w fun e w' => e = .returned (.bool (fromB ty.length a m)) ∧ Below w.heap.size w w' := by
  obtain ⟨aa, ab, aoff, acap, rfl, -, -⟩ := hT
  have E : Hid (fromB ty.length a m = (inB a ty.length && decide (m ≤ (ty.length : Int) - a))) := rfl
  generalize ty.length = n at *
  have c1 := fun W => within_any a n W
  have n0 : (0 : Int) ≤ (n : Int) := by omega
  have n1 : (n : Int) ≤ 1024 := by omega
  have I : Hid (inB a n = (decide (0 ≤ a) && decide (a < (n : Int)))) := rfl
  cases hb : inB a n with
  | true =>
    rw [hb] at c1
    have ha : 0 ≤ a ∧ a < (n : Int) := by
      have := I.out
      rw [hb] at this
      have := this.symm
      rw [Bool.and_eq_true] at this
      exact ⟨of_decide_eq_true this.1, of_decide_eq_true this.2⟩
    obtain ⟨ha0, ha1⟩ := ha
    have HE : Hid (fromB n a m = decide (m ≤ (n : Int) - a)) := by show _ = _; rw [E.out, hb]; rfl
    clear E I hb hn
    go_enter Tryd.func45, Tryd.ntmps45
    go_wp2_with (go_at_call 44; refine (c1 _).mono ?_; rintro e w1 ⟨rfl, rfl⟩)
    go_ret
    exact ⟨ret_b (by rw [HE.out]), (Below.refl _ _).alloc (Nat.le_refl _) _⟩
  | false =>
    rw [hb] at c1
    have HE : Hid (fromB n a m = false) := by show _ = _; rw [E.out, hb]; rfl
    clear E I hb hn
    go_enter Tryd.func45, Tryd.ntmps45
    go_wp2_with (go_at_call 44; refine (c1 _).mono ?_; rintro e w1 ⟨rfl, rfl⟩)
    go_ret
    exact ⟨ret_b HE.out.symm, (Below.refl _ _).alloc (Nat.le_refl _) _⟩
theorem bw2 (w : World) (A B : Obj) : Below w.heap.size w ((w.alloc A).alloc B) := ((Below.refl _ _).alloc (Nat.le_refl _) _).alloc (by simp) _
set_option maxRecDepth 100000 in
theorem push_any (a1 a2 a3 a4 a5 a6 : Value) (i : Ins) (w : World) (hg : Four.Glo w) : Calls Tryd.prog 20 #[.agg #[a1, a2, a3, a4, a5, a6], inA i] w fun e w' => e = .returned (.bool (Four.fitB i.a i.n)) ∧ Below w.heap.size w w' := by
  obtain ⟨op, a, b, n⟩ := i
  have c1 : Hid (∀ W, Below w.heap.size w W → Calls Tryd.prog 43 #[.int .i64 a, .int .i64 n] W fun e w' => e = .returned (.bool (Four.fitB a n)) ∧ w' = W) := fun W hb => Four.fits_any a n W (hg.below hb hg.lt)
  unfold inA
  clear hg
  go_enter Tryd.func20, Tryd.ntmps20
  go_wp2_with (go_at_call 43; refine (c1.out _ (bw2 _ _ _)).mono ?_; rintro e w1 ⟨rfl, rfl⟩)
  go_ret
  exact ⟨rfl, bw2 _ _ _⟩
set_option maxRecDepth 100000 in
theorem cell_any (nm ta fv iv ov cv : Value) (ty : List Int) (i : Ins) (w : World) (hT : ILst w ta ty) : Calls Tryd.prog 21 #[.agg #[nm, ta, fv, iv, ov, cv], inA i] w fun e w' => e = .returned (.bool (inB i.a ty.length)) ∧ Below w.heap.size w w' := by
  obtain ⟨op, a, b, n⟩ := i
  obtain ⟨aa, ab, aoff, acap, rfl, -, -⟩ := hT
  have c1 := fun W => within_any a ty.length W
  generalize ty.length = m at *
  unfold inA
  go_enter Tryd.func21, Tryd.ntmps21
  go_wp2_with (go_at_call 44; refine (c1 _).mono ?_; rintro e w1 ⟨rfl, rfl⟩)
  go_ret
  exact ⟨rfl, ((Below.refl _ _).alloc (Nat.le_refl _) _).alloc (by simp) _⟩
set_option maxRecDepth 100000 in
theorem place_any (nm ta fv iv ov cv : Value) (cd : List Ins) (i : Ins) (w : World) (hT : ISt w cv cd) : Calls Tryd.prog 26 #[.agg #[nm, ta, fv, iv, ov, cv], inA i] w fun e w' => e = .returned (.bool (inB i.a cd.length)) ∧ Below w.heap.size w w' := by
  obtain ⟨op, a, b, n⟩ := i
  obtain ⟨aa, ab, aoff, acap, rfl, -, -⟩ := hT
  have c1 := fun W => within_any a cd.length W
  generalize cd.length = m at *
  unfold inA
  go_enter Tryd.func26, Tryd.ntmps26
  go_wp2_with (go_at_call 44; refine (c1 _).mono ?_; rintro e w1 ⟨rfl, rfl⟩)
  go_ret
  exact ⟨rfl, ((Below.refl _ _).alloc (Nat.le_refl _) _).alloc (by simp) _⟩
set_option maxRecDepth 100000 in
theorem end_any (a1 a2 a3 a4 a5 a6 : Value) (i : Ins) (w : World) : Calls Tryd.prog 28 #[.agg #[a1, a2, a3, a4, a5, a6], inA i] w fun e w' => e = .returned (.bool true) ∧ Below w.heap.size w w' := by
  unfold inA
  go_enter Tryd.func28, Tryd.ntmps28
  go_wp2
  go_ret
  exact ⟨rfl, bw2 _ _ _⟩
theorem two_err (op t : Int) : (Four.twoN op t 1 1).2 = if Four.has2 op t then 0 else 40 := by
  unfold Four.twoN
  cases h : Four.has2 op t
  · rfl
  · have ht : Four.tyB t = true := by
      unfold Four.has2 at h
      exact (Bool.and_eq_true _ _ ▸ h).1
    have hf : Four.fitB t 1 = true := by
      rcases Four.four ht with rfl | rfl | rfl | rfl <;> decide
    simp only [hf]
    rw [if_neg (by simp), if_neg (by simp), if_neg (by omega)]
    split <;> rfl
theorem one_err (op t : Int) : (Four.oneN op t 1).2 = if Four.has1 op t then 0 else 40 := by
  unfold Four.oneN
  cases h : Four.has1 op t
  · rfl
  · have ht : Four.tyB t = true := by
      unfold Four.has1 at h
      exact (Bool.and_eq_true _ _ ▸ h).1
    have hf : Four.fitB t 1 = true := by
      rcases Four.four ht with rfl | rfl | rfl | rfl <;> decide
    simp only [hf]
    rw [if_neg (by simp), if_neg (by simp)]
    repeat' split
    all_goals first | rfl | omega | contradiction
def cvB (a b : Int) : Bool := Four.tyB a && (Four.tyB b && decide ((a = 1) ↔ (b = 1)))
theorem conv_err (f t : Int) : (Four.convN f t 1).2 = if cvB f t then 0 else 40 := by
  unfold Four.convN cvB
  cases hf : Four.tyB f
  · rfl
  · cases ht : Four.tyB t
    · rfl
    · have h1 : Four.fitB f 1 = true := by
        rcases Four.four hf with rfl | rfl | rfl | rfl <;> decide
      by_cases e1 : f = 1 <;> by_cases e2 : t = 1 <;> simp [e1, e2, h1] <;> (first | (subst e1; rfl) | skip)
set_option maxRecDepth 100000 in
theorem takes_two (a1 a2 a3 a4 a5 a6 : Value) (i : Ins) (w : World) (hg : Four.Glo w) : Calls Tryd.prog 23 #[.agg #[a1, a2, a3, a4, a5, a6], inA i] w fun e w' => e = .returned (.bool (Four.has2 i.a i.b)) ∧ Below w.heap.size w w' := by
  obtain ⟨o, op, t, n⟩ := i
  have c1 : Hid (∀ W, Below w.heap.size w W → Calls Tryd.prog 46 #[.int .i64 op, .int .i64 t, .int .i64 1, .int .i64 1] W fun e w' => e = .returned (.tuple #[.int .i64 (Four.twoN op t 1 1).1, .int .i64 (Four.twoN op t 1 1).2]) ∧ Below W.heap.size W w') := fun W hb => Four.two_any op t 1 1 W (hg.below hb hg.lt)
  have er := two_err op t
  generalize (Four.twoN op t 1 1).1 = r1 at *
  generalize (Four.twoN op t 1 1).2 = r2 at *
  have HE : Hid ((r2 == 0) = Four.has2 op t) := by
    show _ = _
    rw [er]
    cases Four.has2 op t <;> rfl
  show Calls Tryd.prog 23 #[.agg #[a1, a2, a3, a4, a5, a6], inA ⟨o, op, t, n⟩] w fun e w' => e = .returned (.bool (Four.has2 op t)) ∧ Below w.heap.size w w'
  rw [← HE.out]
  unfold inA
  clear hg er HE
  go_enter Tryd.func23, Tryd.ntmps23
  go_wp2_with (go_at_call 46; refine (c1.out _ (bw2 _ _ _)).mono ?_; rintro e w1 ⟨rfl, b1⟩; have B1 := hide ((bw2 w _ _).trans (b1.mono (by simp; omega))); clear b1)
  go_ret
  exact ⟨rfl, B1.out⟩
set_option maxRecDepth 100000 in
theorem takes_one (a1 a2 a3 a4 a5 a6 : Value) (i : Ins) (w : World) (hg : Four.Glo w) : Calls Tryd.prog 24 #[.agg #[a1, a2, a3, a4, a5, a6], inA i] w fun e w' => e = .returned (.bool (Four.has1 i.a i.b)) ∧ Below w.heap.size w w' := by
  obtain ⟨o, op, t, n⟩ := i
  have c1 : Hid (∀ W, Below w.heap.size w W → Calls Tryd.prog 47 #[.int .i64 op, .int .i64 t, .int .i64 1] W fun e w' => e = .returned (.tuple #[.int .i64 (Four.oneN op t 1).1, .int .i64 (Four.oneN op t 1).2]) ∧ Below W.heap.size W w') := fun W hb => Four.one_any op t 1 W (hg.below hb hg.lt)
  have er := one_err op t
  generalize (Four.oneN op t 1).1 = r1 at *
  generalize (Four.oneN op t 1).2 = r2 at *
  have HE : Hid ((r2 == 0) = Four.has1 op t) := by
    show _ = _
    rw [er]
    cases Four.has1 op t <;> rfl
  show Calls Tryd.prog 24 #[.agg #[a1, a2, a3, a4, a5, a6], inA ⟨o, op, t, n⟩] w fun e w' => e = .returned (.bool (Four.has1 op t)) ∧ Below w.heap.size w w'
  rw [← HE.out]
  unfold inA
  clear hg er HE
  go_enter Tryd.func24, Tryd.ntmps24
  go_wp2_with (go_at_call 47; refine (c1.out _ (bw2 _ _ _)).mono ?_; rintro e w1 ⟨rfl, b1⟩; have B1 := hide ((bw2 w _ _).trans (b1.mono (by simp; omega))); clear b1)
  go_ret
  exact ⟨rfl, B1.out⟩
set_option maxRecDepth 100000 in
theorem takes_conv (a1 a2 a3 a4 a5 a6 : Value) (i : Ins) (w : World) (hg : Four.Glo w) : Calls Tryd.prog 25 #[.agg #[a1, a2, a3, a4, a5, a6], inA i] w fun e w' => e = .returned (.bool (cvB i.a i.b)) ∧ Below w.heap.size w w' := by
  obtain ⟨o, op, t, n⟩ := i
  have c1 : Hid (∀ W, Below w.heap.size w W → Calls Tryd.prog 48 #[.int .i64 op, .int .i64 t, .int .i64 1] W fun e w' => e = .returned (.tuple #[.int .i64 (Four.convN op t 1).1, .int .i64 (Four.convN op t 1).2]) ∧ Below W.heap.size W w') := fun W hb => (Four.conv_any op t 1 W (hg.below hb hg.lt)).mono fun e w' h => ⟨h.1, by rw [h.2]; exact Below.refl _ _⟩
  have er := conv_err op t
  generalize (Four.convN op t 1).1 = r1 at *
  generalize (Four.convN op t 1).2 = r2 at *
  have HE : Hid ((r2 == 0) = cvB op t) := by
    show _ = _
    rw [er]
    cases cvB op t <;> rfl
  show Calls Tryd.prog 25 #[.agg #[a1, a2, a3, a4, a5, a6], inA ⟨o, op, t, n⟩] w fun e w' => e = .returned (.bool (cvB op t)) ∧ Below w.heap.size w w'
  rw [← HE.out]
  unfold inA
  clear hg er HE
  go_enter Tryd.func25, Tryd.ntmps25
  go_wp2_with (go_at_call 48; refine (c1.out _ (bw2 _ _ _)).mono ?_; rintro e w1 ⟨rfl, b1⟩; have B1 := hide ((bw2 w _ _).trans (b1.mono (by simp; omega))); clear b1)
  go_ret
  exact ⟨rfl, B1.out⟩
end Go.Proofs.YtmbgcpmapaedcaaDoor
