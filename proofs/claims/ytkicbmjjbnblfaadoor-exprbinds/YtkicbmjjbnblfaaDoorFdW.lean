/- The contract of the reader's field. -/
import Derived.Test.YtkicbmjjbnblfaaDoorRvW
namespace Go.Proofs.YtkicbmjjbnblfaaDoor
open Go.RowKit
set_option maxRecDepth 100000 in
set_option maxHeartbeats 3200000 in
theorem field_ok {B R : Nat} {tv : Value} {toks : List Tv} (hl : toks.length ≤ 3000000000000) (hs : ∀ i, (tokAt toks i).s.size ≤ 140737488355000) : FieldOk B R tv toks := by
  intro at_ op ps fa fc w name hp h
  have c1 := next_any h (by omega)
  have hle := h.le
  have hhere := h.here
  have HH := hide h
  have hsz := hs at_
  have i3 : (at_ : Int) ≤ 3000000000000 := by omega
  have i4 : (0 : Int) ≤ (at_ : Int) := by omega
  clear h hs
  by_cases h1 : (tokAt toks at_).k = 1
  · have hlt : at_ < toks.length := by
      rcases Nat.lt_or_ge at_ toks.length with h | h
      · exact h
      · rw [tok_none h] at h1
        exact absurd h1 (by decide)
    have HLT := hide hlt
    have HK1 := hide h1
    have c2 := fun (W : World) (h : RS B R tv toks (at_ + 1) op ps fa fc W) => add_any h (by omega) ⟨4, 0, 0, name, (tokAt toks at_).s⟩
    have HC : Hid (∀ (e : Ending) (w' : World), (e = .returned (.bool true) ∧ Keep B R w w' ∧ RS B R tv toks (at_ + 1) op (ps ++ [⟨4, 0, 0, name, (tokAt toks at_).s⟩]) fa fc w') → Keep B R w w' ∧ ((at_ < toks.length ∧ (tokAt toks at_).k = 1 ∧ e = .returned (.bool true) ∧ RS B R tv toks (at_ + 1) op (ps ++ [⟨4, 0, 0, name, (tokAt toks at_).s⟩]) fa fc w') ∨ (¬ (at_ < toks.length ∧ (tokAt toks at_).k = 1) ∧ e = .returned (.bool false) ∧ RS B R tv toks at_ op ps (at_ : Int) 60 w'))) := fun e w' h => ⟨h.2.1, .inl ⟨HLT.out, HK1.out, h.1, h.2.2⟩⟩
    suffices hsuf : Calls Tryd.prog 124 #[.pointer (some ⟨R, 0, none⟩), .string name] w fun e w' => e = .returned (.bool true) ∧ Keep B R w w' ∧ RS B R tv toks (at_ + 1) op (ps ++ [⟨4, 0, 0, name, (tokAt toks at_).s⟩]) fa fc w' from hsuf.mono HC.out
    clear HC hlt
    obtain ⟨X, hX⟩ : ∃ X, X = tokAt toks at_ := ⟨_, rfl⟩
    rw [← hX] at c1 c2 h1 hsz ⊢
    clear hX HK1
    obtain ⟨xk, xs, xn, xt, xa⟩ := X
    simp only [] at h1 hsz
    subst h1
    unfold tvA at c1
    simp only [] at c1 c2 ⊢
    have c4 := fun W => sclone_any xs hsz W
    clear hsz
    go_enter Tryd.func124, Tryd.ntmps124
    go_wp2_with fail
    refine c1.mono ?_
    rintro e w1 ⟨rfl, hb1⟩
    have b1 := hb1.alloc hb1.size (.cells #[.int .i64 1, .string xs, .int .i64 xn, .int .i64 xt, .int .i64 xa] 44)
    have r1 := HH.out.below b1
    obtain ⟨f1, _, f3⟩ := r1.cells
    obtain ⟨r2, k2⟩ := r1.step HLT.out
    have c3 := c4 ((w1.alloc (.cells #[.int .i64 1, .string xs, .int .i64 xn, .int .i64 xt, .int .i64 xa] 44)).setCell ⟨R, 1, none⟩ (.int .i64 ((at_ : Int) + 1)))
    have hRw : R < w1.heap.size := by have h1 := HH.out.hB; have h2 := hb1.size; omega
    have q1 : ((w1.alloc (.cells #[.int .i64 1, .string xs, .int .i64 xn, .int .i64 xt, .int .i64 xa] 44)).setCell ⟨R, 1, none⟩ (.int .i64 ((at_ : Int) + 1))).cell? ⟨w1.heap.size, 1, none⟩ = some (.string xs) := by
      rw [World.cell?_setCell_other _ _ _ _ (fun x => by injection x with x1 _ _; omega), Lib.cell_of_heap (heap_alloc_new w1 _)]; rfl
    have K1 := hide ((Keep.of_below (R := R) b1 hle).trans k2)
    have RR2 := hide r2
    have hle2 := r2.le
    clear c1 c4 hb1 b1 r1 r2 k2
    clear hRw
    go_wp2_with fail
    refine c3.mono ?_
    rintro e w2 ⟨rfl, hb2⟩
    have K2 := hide (K1.out.trans (Keep.of_below (R := R) hb2 hle2))
    have c5 := c2 _ (RR2.out.below hb2)
    clear c3 c2 hb2
    go_wp2_with fail
    refine c5.mono ?_
    rintro e w3 ⟨rfl, hr3, hk3⟩
    have R3 := hide hr3
    have K3 := hide (K2.out.trans hk3)
    clear c5 hr3 hk3
    go_wp2
    go_ret
    exact ⟨rfl, K3.out, R3.out⟩
  · have HK1 := hide h1
    have HC : Hid (∀ (e : Ending) (w' : World), (e = .returned (.bool false) ∧ Keep B R w w' ∧ RS B R tv toks at_ op ps (at_ : Int) 60 w') → Keep B R w w' ∧ ((at_ < toks.length ∧ (tokAt toks at_).k = 1 ∧ e = .returned (.bool true) ∧ RS B R tv toks (at_ + 1) op (ps ++ [⟨4, 0, 0, name, (tokAt toks at_).s⟩]) fa fc w') ∨ (¬ (at_ < toks.length ∧ (tokAt toks at_).k = 1) ∧ e = .returned (.bool false) ∧ RS B R tv toks at_ op ps (at_ : Int) 60 w'))) := fun e w' h => ⟨h.2.1, .inr ⟨fun q => HK1.out q.2, h.1, h.2.2⟩⟩
    suffices hsuf : Calls Tryd.prog 124 #[.pointer (some ⟨R, 0, none⟩), .string name] w fun e w' => e = .returned (.bool false) ∧ Keep B R w w' ∧ RS B R tv toks at_ op ps (at_ : Int) 60 w' from hsuf.mono HC.out
    clear HC HK1
    obtain ⟨X, hX⟩ : ∃ X, X = tokAt toks at_ := ⟨_, rfl⟩
    rw [← hX] at c1 h1 hsz
    clear hX
    obtain ⟨xk, xs, xn, xt, xa⟩ := X
    simp only [] at h1 hsz
    have q1 : (xk == 1) = false := by rw [beq_eq_false_iff_ne]; exact h1
    unfold tvA at c1
    simp only [] at c1
    clear h1 hsz
    go_enter Tryd.func124, Tryd.ntmps124
    go_wp2_with fail
    refine c1.mono ?_
    rintro e w1 ⟨rfl, hb1⟩
    have b1 := hb1.alloc hb1.size (.cells #[.int .i64 xk, .string xs, .int .i64 xn, .int .i64 xt, .int .i64 xa] 44)
    have c3 := refuse_any (HH.out.below b1)
    have K1 := hide (Keep.of_below (R := R) b1 hle)
    clear c1 hb1 b1
    go_wp2_with fail
    refine c3.mono ?_
    rintro e w2 ⟨rfl, hr2, hk2⟩
    have R2 := hide hr2
    have K2 := hide (K1.out.trans hk2)
    clear c3 hr2 hk2
    go_wp2
    go_ret
    exact ⟨rfl, K2.out, R2.out⟩
end Go.Proofs.YtkicbmjjbnblfaaDoor
