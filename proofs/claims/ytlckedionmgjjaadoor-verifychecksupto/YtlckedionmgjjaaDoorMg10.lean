/- code: within, thereFrom, othersAreZero, and the rules that need no memory. | code: namesArray. -/
import Derived.Test.YtlckedionmgjjaaDoorMg2
import Derived.Test.YtlckedionmgjjaaDoorMg7
import Derived.Test.YtlckedionmgjjaaDoorMg9
namespace Go.Proofs.YtlckedionmgjjaaDoor
open Go.RowKit
theorem ret_b {a b : Bool} (h : a = b) : Ending.returned (.bool a) = .returned (.bool b) := by rw [h]
def inA (i : Ins) : Value := .agg #[.int .i64 i.op, .int .i64 i.a, .int .i64 i.b, .int .i64 i.n]
set_option maxRecDepth 100000 in
theorem within_any (c : Int) (n : Nat) (w : World) : Calls Tryd.prog 71 #[.int .i64 c, .int .i64 (n : Int)] w fun e w' => e = .returned (.bool (inB c n)) ∧ w' = w := by
  have E : Hid (inB c n = (decide (0 ≤ c) && decide (c < (n : Int)))) := rfl
  by_cases h : 0 ≤ c
  · go_enter Tryd.func71, Tryd.ntmps71
    go_wp2
    go_ret
    exact ⟨ret_b (by rw [E.out, decide_eq_true h]; rfl), rfl⟩
  · go_enter Tryd.func71, Tryd.ntmps71
    go_wp2
    go_ret
    exact ⟨ret_b (by rw [E.out, decide_eq_false (by omega)]; rfl), rfl⟩
set_option maxRecDepth 100000 in
set_option maxHeartbeats 1600000 in
theorem thereFrom_any (nm ta fv iv ov cv : Value) (ty : List Int) (a m : Int) (w : World) (hT : ILst w ta ty) (hn : ty.length ≤ 1024) :
    Calls Tryd.prog 72 #[.agg #[nm, ta, fv, iv, ov, cv], .int .i64 a, .int .i64 m] w fun e w' => e = .returned (.bool (fromB ty.length a m)) ∧ Below w.heap.size w w' := by
  obtain ⟨aa, ab, aoff, acap, rfl, -, -⟩ := hT
  have E : Hid (fromB ty.length a m = (inB a ty.length && decide (m ≤ (ty.length : Int) - a))) := rfl
  generalize ty.length = n at *
  have c1 := fun W => within_any a n W
  have n0 : (0 : Int) ≤ (n : Int) := by omega
  have n1 : (n : Int) ≤ 1024 := by omega
  have I : Hid (inB a n = (decide (0 ≤ a) && decide (a < (n : Int)))) := rfl
  cases hb : inB a n with
  | true =>
    rw [hb] at c1
    have ha : 0 ≤ a ∧ a < (n : Int) := by
      have := I.out
      rw [hb] at this
      have := this.symm
      rw [Bool.and_eq_true] at this
      exact ⟨of_decide_eq_true this.1, of_decide_eq_true this.2⟩
    obtain ⟨ha0, ha1⟩ := ha
    have HE : Hid (fromB n a m = decide (m ≤ (n : Int) - a)) := by show _ = _; rw [E.out, hb]; rfl
    clear E I hb hn
    go_enter Tryd.func72, Tryd.ntmps72
    go_wp2_with (go_at_call 71; refine (c1 _).mono ?_; rintro e w1 ⟨rfl, rfl⟩)
    go_ret
    exact ⟨ret_b (by rw [HE.out]), (Below.refl _ _).alloc (Nat.le_refl _) _⟩
  | false =>
    rw [hb] at c1
    have HE : Hid (fromB n a m = false) := by show _ = _; rw [E.out, hb]; rfl
    clear E I hb hn
    go_enter Tryd.func72, Tryd.ntmps72
    go_wp2_with (go_at_call 71; refine (c1 _).mono ?_; rintro e w1 ⟨rfl, rfl⟩)
    go_ret
    exact ⟨ret_b HE.out.symm, (Below.refl _ _).alloc (Nat.le_refl _) _⟩
theorem bw2 (w : World) (A B : Obj) : Below w.heap.size w ((w.alloc A).alloc B) := ((Below.refl _ _).alloc (Nat.le_refl _) _).alloc (by simp) _
set_option maxRecDepth 100000 in
theorem push_any (a1 a2 a3 a4 a5 a6 : Value) (i : Ins) (w : World) (hg : Four.Glo w) : Calls Tryd.prog 47 #[.agg #[a1, a2, a3, a4, a5, a6], inA i] w fun e w' => e = .returned (.bool (Four.fitB i.a i.n)) ∧ Below w.heap.size w w' := by
  obtain ⟨op, a, b, n⟩ := i
  have c1 : Hid (∀ W, Below w.heap.size w W → Calls Tryd.prog 45 #[.int .i64 a, .int .i64 n] W fun e w' => e = .returned (.bool (Four.fitB a n)) ∧ w' = W) := fun W hb => Four.fits_any a n W (hg.below hb hg.lt)
  unfold inA
  clear hg
  go_enter Tryd.func47, Tryd.ntmps47
  go_wp2_with (go_at_call 45; refine (c1.out _ (bw2 _ _ _)).mono ?_; rintro e w1 ⟨rfl, rfl⟩)
  go_ret
  exact ⟨rfl, bw2 _ _ _⟩
set_option maxRecDepth 100000 in
theorem cell_any (nm ta fv iv ov cv : Value) (ty : List Int) (i : Ins) (w : World) (hT : ILst w ta ty) : Calls Tryd.prog 48 #[.agg #[nm, ta, fv, iv, ov, cv], inA i] w fun e w' => e = .returned (.bool (inB i.a ty.length)) ∧ Below w.heap.size w w' := by
  obtain ⟨op, a, b, n⟩ := i
  obtain ⟨aa, ab, aoff, acap, rfl, -, -⟩ := hT
  have c1 := fun W => within_any a ty.length W
  generalize ty.length = m at *
  unfold inA
  go_enter Tryd.func48, Tryd.ntmps48
  go_wp2_with (go_at_call 71; refine (c1 _).mono ?_; rintro e w1 ⟨rfl, rfl⟩)
  go_ret
  exact ⟨rfl, ((Below.refl _ _).alloc (Nat.le_refl _) _).alloc (by simp) _⟩
set_option maxRecDepth 100000 in
theorem place_any (nm ta fv iv ov cv : Value) (cd : List Ins) (i : Ins) (w : World) (hT : ISt w cv cd) : Calls Tryd.prog 53 #[.agg #[nm, ta, fv, iv, ov, cv], inA i] w fun e w' => e = .returned (.bool (inB i.a cd.length)) ∧ Below w.heap.size w w' := by
  obtain ⟨op, a, b, n⟩ := i
  obtain ⟨aa, ab, aoff, acap, rfl, -, -⟩ := hT
  have c1 := fun W => within_any a cd.length W
  generalize cd.length = m at *
  unfold inA
  go_enter Tryd.func53, Tryd.ntmps53
  go_wp2_with (go_at_call 71; refine (c1 _).mono ?_; rintro e w1 ⟨rfl, rfl⟩)
  go_ret
  exact ⟨rfl, ((Below.refl _ _).alloc (Nat.le_refl _) _).alloc (by simp) _⟩
set_option maxRecDepth 100000 in
theorem end_any (a1 a2 a3 a4 a5 a6 : Value) (i : Ins) (w : World) : Calls Tryd.prog 55 #[.agg #[a1, a2, a3, a4, a5, a6], inA i] w fun e w' => e = .returned (.bool true) ∧ Below w.heap.size w w' := by
  unfold inA
  go_enter Tryd.func55, Tryd.ntmps55
  go_wp2
  go_ret
  exact ⟨rfl, bw2 _ _ _⟩
theorem two_err (op t : Int) : (Four.twoN op t 1 1).2 = if Four.has2 op t then 0 else 40 := by
  unfold Four.twoN
  cases h : Four.has2 op t
  · rfl
  · have ht : Four.tyB t = true := by
      unfold Four.has2 at h
      exact (Bool.and_eq_true _ _ ▸ h).1
    have hf : Four.fitB t 1 = true := by
      rcases Four.four ht with rfl | rfl | rfl | rfl <;> decide
    simp only [hf]
    rw [if_neg (by simp), if_neg (by simp), if_neg (by omega)]
    split <;> rfl
theorem one_err (op t : Int) : (Four.oneN op t 1).2 = if Four.has1 op t then 0 else 40 := by
  unfold Four.oneN
  cases h : Four.has1 op t
  · rfl
  · have ht : Four.tyB t = true := by
      unfold Four.has1 at h
      exact (Bool.and_eq_true _ _ ▸ h).1
    have hf : Four.fitB t 1 = true := by
      rcases Four.four ht with rfl | rfl | rfl | rfl <;> decide
    simp only [hf]
    rw [if_neg (by simp), if_neg (by simp)]
    repeat' split
    all_goals first | rfl | omega | contradiction
def cvB (a b : Int) : Bool := Four.tyB a && (Four.tyB b && decide ((a = 1) ↔ (b = 1)))
theorem conv_err (f t : Int) : (Four.convN f t 1).2 = if cvB f t then 0 else 40 := by
  unfold Four.convN cvB
  cases hf : Four.tyB f
  · rfl
  · cases ht : Four.tyB t
    · rfl
    · have h1 : Four.fitB f 1 = true := by
        rcases Four.four hf with rfl | rfl | rfl | rfl <;> decide
      by_cases e1 : f = 1 <;> by_cases e2 : t = 1 <;> simp [e1, e2, h1] <;> (first | (subst e1; rfl) | skip)
set_option maxRecDepth 100000 in
theorem takes_two (a1 a2 a3 a4 a5 a6 : Value) (i : Ins) (w : World) (hg : Four.Glo w) : Calls Tryd.prog 50 #[.agg #[a1, a2, a3, a4, a5, a6], inA i] w fun e w' => e = .returned (.bool (Four.has2 i.a i.b)) ∧ Below w.heap.size w w' := by
  obtain ⟨o, op, t, n⟩ := i
  have c1 : Hid (∀ W, Below w.heap.size w W → Calls Tryd.prog 73 #[.int .i64 op, .int .i64 t, .int .i64 1, .int .i64 1] W fun e w' => e = .returned (.tuple #[.int .i64 (Four.twoN op t 1 1).1, .int .i64 (Four.twoN op t 1 1).2]) ∧ Below W.heap.size W w') := fun W hb => Four.two_any op t 1 1 W (hg.below hb hg.lt)
  have er := two_err op t
  generalize (Four.twoN op t 1 1).1 = r1 at *
  generalize (Four.twoN op t 1 1).2 = r2 at *
  have HE : Hid ((r2 == 0) = Four.has2 op t) := by
    show _ = _
    rw [er]
    cases Four.has2 op t <;> rfl
  show Calls Tryd.prog 50 #[.agg #[a1, a2, a3, a4, a5, a6], inA ⟨o, op, t, n⟩] w fun e w' => e = .returned (.bool (Four.has2 op t)) ∧ Below w.heap.size w w'
  rw [← HE.out]
  unfold inA
  clear hg er HE
  go_enter Tryd.func50, Tryd.ntmps50
  go_wp2_with (go_at_call 73; refine (c1.out _ (bw2 _ _ _)).mono ?_; rintro e w1 ⟨rfl, b1⟩; have B1 := hide ((bw2 w _ _).trans (b1.mono (by simp; omega))); clear b1)
  go_ret
  exact ⟨rfl, B1.out⟩
set_option maxRecDepth 100000 in
theorem takes_one (a1 a2 a3 a4 a5 a6 : Value) (i : Ins) (w : World) (hg : Four.Glo w) : Calls Tryd.prog 51 #[.agg #[a1, a2, a3, a4, a5, a6], inA i] w fun e w' => e = .returned (.bool (Four.has1 i.a i.b)) ∧ Below w.heap.size w w' := by
  obtain ⟨o, op, t, n⟩ := i
  have c1 : Hid (∀ W, Below w.heap.size w W → Calls Tryd.prog 74 #[.int .i64 op, .int .i64 t, .int .i64 1] W fun e w' => e = .returned (.tuple #[.int .i64 (Four.oneN op t 1).1, .int .i64 (Four.oneN op t 1).2]) ∧ Below W.heap.size W w') := fun W hb => Four.one_any op t 1 W (hg.below hb hg.lt)
  have er := one_err op t
  generalize (Four.oneN op t 1).1 = r1 at *
  generalize (Four.oneN op t 1).2 = r2 at *
  have HE : Hid ((r2 == 0) = Four.has1 op t) := by
    show _ = _
    rw [er]
    cases Four.has1 op t <;> rfl
  show Calls Tryd.prog 51 #[.agg #[a1, a2, a3, a4, a5, a6], inA ⟨o, op, t, n⟩] w fun e w' => e = .returned (.bool (Four.has1 op t)) ∧ Below w.heap.size w w'
  rw [← HE.out]
  unfold inA
  clear hg er HE
  go_enter Tryd.func51, Tryd.ntmps51
  go_wp2_with (go_at_call 74; refine (c1.out _ (bw2 _ _ _)).mono ?_; rintro e w1 ⟨rfl, b1⟩; have B1 := hide ((bw2 w _ _).trans (b1.mono (by simp; omega))); clear b1)
  go_ret
  exact ⟨rfl, B1.out⟩
set_option maxRecDepth 100000 in
theorem takes_conv (a1 a2 a3 a4 a5 a6 : Value) (i : Ins) (w : World) (hg : Four.Glo w) : Calls Tryd.prog 52 #[.agg #[a1, a2, a3, a4, a5, a6], inA i] w fun e w' => e = .returned (.bool (cvB i.a i.b)) ∧ Below w.heap.size w w' := by
  obtain ⟨o, op, t, n⟩ := i
  have c1 : Hid (∀ W, Below w.heap.size w W → Calls Tryd.prog 75 #[.int .i64 op, .int .i64 t, .int .i64 1] W fun e w' => e = .returned (.tuple #[.int .i64 (Four.convN op t 1).1, .int .i64 (Four.convN op t 1).2]) ∧ Below W.heap.size W w') := fun W hb => (Four.conv_any op t 1 W (hg.below hb hg.lt)).mono fun e w' h => ⟨h.1, by rw [h.2]; exact Below.refl _ _⟩
  have er := conv_err op t
  generalize (Four.convN op t 1).1 = r1 at *
  generalize (Four.convN op t 1).2 = r2 at *
  have HE : Hid ((r2 == 0) = cvB op t) := by
    show _ = _
    rw [er]
    cases cvB op t <;> rfl
  show Calls Tryd.prog 52 #[.agg #[a1, a2, a3, a4, a5, a6], inA ⟨o, op, t, n⟩] w fun e w' => e = .returned (.bool (cvB op t)) ∧ Below w.heap.size w w'
  rw [← HE.out]
  unfold inA
  clear hg er HE
  go_enter Tryd.func52, Tryd.ntmps52
  go_wp2_with (go_at_call 75; refine (c1.out _ (bw2 _ _ _)).mono ?_; rintro e w1 ⟨rfl, b1⟩; have B1 := hide ((bw2 w _ _).trans (b1.mono (by simp; omega))); clear b1)
  go_ret
  exact ⟨rfl, B1.out⟩
end Go.Proofs.YtlckedionmgjjaaDoor
namespace Go.Proofs.YtlckedionmgjjaaDoor
open Go.RowKit
theorem arr_get {ty : List Int} {a b k : Nat} (hk : k < b) : ((ty.drop a).take b)[k]? = ty[a + k]? := by
  rw [List.getElem?_take_of_lt hk, List.getElem?_drop]
theorem all_next {l : List Int} {k : Nat} {x y : Int} (h : (l.take k).all (fun t => t == y) = true) (hx : l[k]? = some x) (e : x = y) : (l.take (k + 1)).all (fun t => t == y) = true := by
  rw [List.take_add_one, List.all_append, h, hx]; simp [e]
theorem all_fail {l : List Int} {k : Nat} {x y : Int} (hx : l[k]? = some x) (e : x ≠ y) : l.all (fun t => t == y) = false := by
  rw [List.all_eq_false]
  obtain ⟨h, rfl⟩ := List.getElem?_eq_some_iff.1 hx
  exact ⟨_, List.getElem_mem h, by simpa using e⟩
set_option maxRecDepth 100000 in
set_option maxHeartbeats 3200000 in
theorem array_any (nm ta fv iv ov cv : Value) (ty : List Int) (i : Ins) (w : World) (hT : ILst w ta ty) (hcap : ∀ a n c, ta = .slice a n c → n ≤ c) (hn : ty.length ≤ 1024) : Calls Tryd.prog 49 #[.agg #[nm, ta, fv, iv, ov, cv], inA i] w fun e w' => e = .returned (.bool (arrB ty i.a i.b)) ∧ Below w.heap.size w w' := by
  obtain ⟨op, a, b, n⟩ := i
  have E : Hid (arrB ty a b = (decide (1 ≤ b) && (decide (b ≤ 32) && (fromB ty.length a b && ((ty.drop a.toNat).take b.toNat).all fun t => t == ty.getD a.toNat 0)))) := rfl
  have c1 : Hid (∀ W, Below w.heap.size w W → Calls Tryd.prog 72 #[.agg #[nm, ta, fv, iv, ov, cv], .int .i64 a, .int .i64 b] W fun e w' => e = .returned (.bool (fromB ty.length a b)) ∧ Below W.heap.size W w') := fun W hb => thereFrom_any nm ta fv iv ov cv ty a b W (hT.on hb) hn
  show Calls Tryd.prog 49 #[.agg #[nm, ta, fv, iv, ov, cv], inA ⟨op, a, b, n⟩] w fun e w' => e = .returned (.bool (arrB ty a b)) ∧ Below w.heap.size w w'
  unfold inA
  have HB2 : Hid (∀ A B, Below w.heap.size w ((w.alloc A).alloc B)) := bw2 w
  obtain ⟨aa, ab, aoff, acap, rfl, hA, hI⟩ := hT
  have hcp := hcap _ _ _ rfl
  clear hcap
  by_cases h1 : 1 ≤ b
  · by_cases h2 : b ≤ 32
    · cases hf : fromB ty.length a b with
      | false =>
        rw [hf] at c1
        have HE : Hid (arrB ty a b = false) := by show _ = _; rw [E.out, hf]; simp
        clear E hA hI hf
        generalize ty.length = m at *
        go_enter Tryd.func49, Tryd.ntmps49
        go_wp2_with (go_at_call 72; refine (c1.out _ (HB2.out _ _)).mono ?_; rintro e w1 ⟨rfl, b1⟩; have B1 := hide ((HB2.out _ _).trans (b1.mono (by simp; omega))); clear b1)
        go_ret
        exact ⟨ret_b HE.out.symm, B1.out⟩
      | true =>
        rw [hf] at c1
        have hh : 0 ≤ a ∧ a < (ty.length : Int) ∧ b ≤ (ty.length : Int) - a := by
          unfold fromB inB at hf
          simp only [Bool.and_eq_true, decide_eq_true_eq] at hf
          omega
        obtain ⟨p, rfl⟩ : ∃ p : Nat, a = (p : Int) := ⟨a.toNat, by omega⟩
        obtain ⟨q, rfl⟩ : ∃ q : Nat, b = (q : Int) := ⟨b.toNat, by omega⟩
        have HE : Hid (arrB ty (p : Int) (q : Int) = ((ty.drop p).take q).all fun t => t == ty.getD p 0) := by
          show _ = _
          rw [E.out, decide_eq_true h1, decide_eq_true h2, hf]; rfl
        obtain ⟨T0, hT0⟩ : ∃ T0, ty[p]? = some T0 := ⟨_, List.getElem?_eq_getElem (by omega)⟩
        have hD : ty.getD p 0 = T0 := by rw [List.getD_eq_getElem?_getD, hT0]; rfl
        rw [hD] at HE
        obtain ⟨hab, rfl⟩ := hA (by omega)
        have cT := hI p T0 hT0
        have HG : Hid (∀ k, k < q → ∃ x, ((ty.drop p).take q)[k]? = some x ∧ w.cell? ⟨ab, aoff + p + k, none⟩ = some (.int .i64 x)) := fun k hk => by
          obtain ⟨x, hx⟩ : ∃ x, ty[p + k]? = some x := ⟨_, List.getElem?_eq_getElem (by omega)⟩
          exact ⟨x, by rw [arr_get hk]; exact hx, by rw [Nat.add_assoc]; exact hI _ _ hx⟩
        have HQ : Hid (((ty.drop p).take q).take q = (ty.drop p).take q) := by show _ = _; rw [List.take_take, Nat.min_self]
        obtain ⟨hh0, hh1, hh2⟩ := hh
        clear E hA hI hf hD hT0
        generalize (ty.drop p).take q = L at *
        generalize ty.length = m at *
        have q0 : (0 : Int) ≤ (q : Int) := by omega
        have n1 : (m : Int) ≤ 1024 := by omega
        go_enter Tryd.func49, Tryd.ntmps49
        go_wp2_with (go_at_call 72; refine (c1.out _ (HB2.out _ _)).mono ?_; rintro e w1 ⟨rfl, b1⟩; have B1 := hide ((HB2.out _ _).trans (b1.mono (by simp; omega))); have c26 := (b1.cell (p := ⟨w.heap.size, 1, none⟩) (by simp; omega)); have c41 := (b1.cell (p := ⟨w.heap.size + 1, 1, none⟩) (by simp)); have c42 := (b1.cell (p := ⟨w.heap.size + 1, 2, none⟩) (by simp)); clear b1; simp [go_sem] at c26 c41 c42)
        have HC26 := hide c26
        have HC41 := hide c41
        have HCT := hide cT
        clear c26 c41 c42 cT
        go_loopw [35] (fun i wr => ∃ k : Nat, k ≤ q ∧ i = .int .i64 (k : Int) ∧ Hid ((L.take k).all (fun t => t == T0) = true ∧ wr = w1)) (fun i _ => q - (intOf i).toNat)
        case atStart => exact ⟨0, by omega, rfl, rfl, rfl⟩
        case round =>
          obtain ⟨k, hk, rfl, hh⟩ := hrel
          obtain ⟨ha, hw⟩ := hh.out
          subst hw
          have HA := hide ha
          clear hh ha
          have k0 : (0 : Int) ≤ (k : Int) := by omega
          by_cases hlt : k < q
          · have j1 : (k : Int) < (q : Int) := by omega
            obtain ⟨x, hx, hcx⟩ := HG.out k hlt
            have c1' := (B1.out.cell (p := ⟨ab, aoff + p + k, none⟩) hab).trans hcx
            have c2' := (B1.out.cell (p := ⟨ab, aoff + p, none⟩) hab).trans HCT.out
            have c3' := HC26.out
            have c4' := HC41.out
            by_cases he : x = T0
            · have HR := hide (all_next HA.out hx he)
              have hb : (x == T0) = true := by simpa using he
              subst he
              clear hx hcx
              go_wp2
              go_roundw
              case rel => exact ⟨k + 1, by omega, by go_num, HR.out, by trivial⟩
              case measure => simp [intOf]; omega
            · have HR := hide (all_fail hx he)
              have hb : (x == T0) = false := by simpa using he
              have hb2 : ¬ x = T0 := he
              clear hx hcx
              go_wp2
              go_ret
              exact ⟨ret_b (by rw [HE.out, HR.out]), B1.out⟩
          · obtain rfl : k = q := by omega
            have HR : Hid (L.all (fun t => t == T0) = true) := by
              have := HA.out
              rw [HQ.out] at this
              exact this
            go_wp2
            go_ret
            exact ⟨ret_b (by rw [HE.out, HR.out]), B1.out⟩
    · have HE : Hid (arrB ty a b = false) := by show _ = _; rw [E.out, decide_eq_false h2]; simp
      clear E hA hI c1
      generalize ty.length = m at *
      go_enter Tryd.func49, Tryd.ntmps49
      go_wp2
      go_ret
      exact ⟨ret_b HE.out.symm, HB2.out _ _⟩
  · have HE : Hid (arrB ty a b = false) := by show _ = _; rw [E.out, decide_eq_false h1]; simp
    clear E hA hI c1
    generalize ty.length = m at *
    go_enter Tryd.func49, Tryd.ntmps49
    go_wp2
    go_ret
    exact ⟨ret_b HE.out.symm, HB2.out _ _⟩
end Go.Proofs.YtlckedionmgjjaaDoor
