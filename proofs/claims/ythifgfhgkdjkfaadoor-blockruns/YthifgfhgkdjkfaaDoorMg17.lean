/- The document's Check. | The document's flag and gone; what a timer's cells are behind a call. -/
import Derived.Test.YthifgfhgkdjkfaaDoorMg16
import Derived.Test.YthifgfhgkdjkfaaDoorMg8
import Derived.Test.YthifgfhgkdjkfaaDoorMg4
import Derived.Test.YthifgfhgkdjkfaaDoorMg15
import Derived.Test.YthifgfhgkdjkfaaDoorMg7
namespace Go.Proofs.YthifgfhgkdjkfaaDoor
open Go.RowKit
/-- what is wrong with cells, or 0 -/
def chkE (k : Int) (c : List Int) : Int := if kindOk k then if c.length = (fldK k).length then if fitL (fldK k) c then 0 else 1 else 4 else 92
theorem chk_step (k : Int) (c : List Int) (now : Int) : stepE k c now = if chkE k c = 0 then if nowOk now then 0 else 1 else chkE k c := by
  unfold stepE chkE mayP
  cases kindOk k
  · rfl
  · simp only [if_true]
    by_cases h : c.length = (fldK k).length
    · rw [if_pos h, if_pos h]
      cases fitL (fldK k) c <;> rfl
    · rw [if_neg h, if_neg h]; rfl
set_option maxRecDepth 100000 in
set_option maxHeartbeats 1600000 in
theorem rcheck_any (k : Int) (cv : Value) (c : List Int) (w : World) (hc : ILst w cv c) :
    Calls Tryd.prog 23 #[.int .i64 k, cv] w fun e w' => e = .returned (.int .i64 (chkE k c)) ∧ Below w.heap.size w w' := by
  by_cases hk : 1 ≤ k ∧ k ≤ 10
  · have m1 := rfields_ok k hk w
    have h6 := fldK_len k
    have HM0 : Hid (chkE k c = if c.length = (fldK k).length then if fitL (fldK k) c then 0 else 1 else 4) := by show _ = _; unfold chkE; rw [(kindOk_iff k).2 hk]; rfl
    generalize fldK k = fl at *
    obtain ⟨ca, cb, coff, ccap, rfl, hcA, hcI⟩ := hc
    have HCA := hide hcA
    have HCI := hide hcI
    clear hcA hcI hk
    by_cases hl : c.length = fl.length
    · have HM : Hid (chkE k c = if fitL fl c then 0 else 1) := by show _ = _; rw [HM0.out, if_pos hl]
      obtain ⟨n, hn⟩ : ∃ n, n = fl.length := ⟨_, rfl⟩
      rw [hl, ← hn]
      have HN := hide hn
      have HN2 : Hid (n = c.length) := hn.trans hl.symm
      have n6 : (n : Int) ≤ 6 := by omega
      have n0 : (0 : Int) ≤ (n : Int) := by omega
      generalize chkE k c = M at *
      have m2 : Calls Tryd.prog 31 #[.int .i64 k] w fun e w' => (∃ fa fb fcap, e = .returned (.tuple #[.slice fa n fcap, .int .i64 0]) ∧ (0 < n → fb < w'.heap.size ∧ fa = some ⟨fb, 0, none⟩) ∧ ∀ i r, fl[i]? = some r → ∃ s, w'.cell? ⟨fb, i * 3, none⟩ = some (.string s) ∧ w'.cell? ⟨fb, i * 3 + 1, none⟩ = some (.int .i64 r.1) ∧ w'.cell? ⟨fb, i * 3 + 2, none⟩ = some (.bool r.2)) ∧ Below w.heap.size w w' := by
        refine m1.mono ?_
        rintro e w' ⟨⟨v, rfl, fa, fb, fcap, rfl, h1, h2⟩, hb⟩
        rw [← hn] at h1 ⊢
        exact ⟨⟨fa, fb, fcap, rfl, h1, h2⟩, hb⟩
      clear hl h6 HM0 hn m1
      go_enter Tryd.func23, Tryd.ntmps23
      go_wp2_with (first | (go_at_call 31; refine m2.mono ?_; rintro e w1 ⟨⟨fa, fb, fcap, rfl, hfA, hfI⟩, b1⟩; have B1 := hide b1; have HFA := hide hfA; have HFI := hide hfI; clear hfA hfI b1))
      clear m2
      go_loopw [7] (fun i wr => ∃ q : Nat, q ≤ n ∧ i = .int .i64 (q : Int) ∧ Hid ((∀ j f x, j < q → fl[j]? = some f → c[j]? = some x → fitB f.1 x = true) ∧ Below w1.heap.size w1 wr)) (fun i _ => n - (intOf i).toNat)
      case atStart => exact ⟨0, by omega, rfl, fun j _ _ hj => absurd hj (Nat.not_lt_zero _), Below.refl _ _⟩
      case round =>
        obtain ⟨q, hq, rfl, hh⟩ := hrel
        have HF := hide hh.out.1
        have HB := hide hh.out.2
        clear hh
        by_cases hlt : q < n
        · have j1 : (q : Int) < (n : Int) := by omega
          have j0 : (0 : Int) ≤ (q : Int) := by omega
          obtain ⟨f, hf⟩ : ∃ f, fl[q]? = some f := ⟨_, List.getElem?_eq_getElem (by rw [← HN.out]; exact hlt)⟩
          obtain ⟨x, hx⟩ : ∃ x, c[q]? = some x := ⟨_, List.getElem?_eq_getElem (by rw [← HN2.out]; exact hlt)⟩
          obtain ⟨hfb, rfl⟩ := HFA.out (by omega)
          obtain ⟨hcb, rfl⟩ := HCA.out (by rw [← HN2.out]; omega)
          obtain ⟨s, q0, q1, q2⟩ := HFI.out q f hf
          have c1 := (HB.out.cell (p := ⟨fb, q * 3 + 1, none⟩) hfb).trans q1
          have c3 := (HB.out.cell (p := ⟨cb, coff + q, none⟩) (Nat.lt_of_lt_of_le hcb B1.out.size)).trans ((B1.out.cell (p := ⟨cb, coff + q, none⟩) hcb).trans (HCI.out q x hx))
          have HFX := hide hf
          have HXX := hide hx
          clear q0 q1 q2 hf hx hfb hcb
          obtain ⟨t, b⟩ := f
          simp only [] at c1
          have mF := fun W => fitsR_any t x W
          cases hfit : fitB t x
          · have HE : Hid (M = 1) := by
              show _ = _
              rw [HM.out, fitL_no HFX.out HXX.out hfit]; rfl
            rw [hfit] at mF
            go_wp2_with fail
            go_quiet (first | (go_at_call 24; exact Calls.quiet_of_same (mF _)))
            go_wp2
            go_ret
            exact ⟨by rw [HE.out]; rfl, below_drewN (B1.out.trans (HB.out.mono B1.out.size)) _⟩
          · rw [hfit] at mF
            go_wp2_with fail
            go_quiet (first | (go_at_call 24; exact Calls.quiet_of_same (mF _)))
            go_wp2
            go_roundw
            case rel => exact ⟨q + 1, by omega, by go_num, fun j f' x' hj hf' hx' => (by
                rcases Nat.lt_or_eq_of_le (Nat.le_of_lt_succ hj) with h | rfl
                · exact HF.out j f' x' h hf' hx'
                · rw [HFX.out] at hf'; rw [HXX.out] at hx'
                  obtain rfl := Option.some.inj hf'
                  obtain rfl := Option.some.inj hx'
                  exact hfit), below_drewN HB.out _⟩
            case measure => simp [intOf]; omega
        · have j1 : ¬ (q : Int) < (n : Int) := by omega
          have HA : Hid (M = 0) := by
            show _ = _
            rw [HM.out, fitL_all (fun j f x hf hx => HF.out j f x (by have := (List.getElem?_eq_some_iff.1 hf).1; rw [← HN.out] at this; omega) hf hx)]
            rfl
          clear HF HM
          go_wp2
          go_ret
          exact ⟨by rw [HA.out]; rfl, B1.out.trans (HB.out.mono B1.out.size)⟩
    · have HM : Hid (chkE k c = 4) := by show _ = _; rw [HM0.out, if_neg hl]
      have hl1 : ¬ (c.length : Int) = (fl.length : Int) := by omega
      generalize chkE k c = M at *
      clear HM0 HCA HCI
      have n6 : (fl.length : Int) ≤ 6 := by omega
      clear h6 hl
      go_enter Tryd.func23, Tryd.ntmps23
      go_wp2_with (first | (go_at_call 31; refine m1.mono ?_; rintro e w1 ⟨⟨fv, rfl, hf⟩, b1⟩; have B1 := hide b1; obtain ⟨fa, fb, fcap, rfl, hfA, hfI⟩ := hf; clear hfA hfI b1))
      go_ret
      exact ⟨by rw [HM.out]; rfl, B1.out⟩
  · have m1 := rfields_no k hk w
    have e : chkE k c = 92 := by
      unfold chkE
      cases a : kindOk k
      · rfl
      · exact absurd ((kindOk_iff k).1 a) hk
    rw [e]
    clear hk e hc
    go_enter Tryd.func23, Tryd.ntmps23
    go_wp2_with (first | (go_at_call 31; refine m1.mono ?_; rintro e w1 ⟨rfl, rfl⟩))
    go_ret
    exact ⟨rfl, Below.refl _ _⟩
end Go.Proofs.YthifgfhgkdjkfaaDoor
namespace Go.Proofs.YthifgfhgkdjkfaaDoor
open Go.RowKit
set_option maxHeartbeats 400000 in
theorem flag12 (b : Bool) (w : World) : Calls Tryd.prog 27 #[.bool b] w fun e w' => e = .returned (.int .i64 (flagN b)) ∧ w' = w := by
  cases b
  all_goals
    go_enter Tryd.func27, Tryd.ntmps27
    go_wp2
    go_ret
    exact ⟨rfl, rfl⟩
set_option maxRecDepth 100000 in
set_option maxHeartbeats 9600000 in
theorem gone12 (now s : Int) (h1 : fitB 4 now = true) (h2 : fitB 4 s = true) (w : World) : Calls Tryd.prog 40 #[.int .i64 now, .int .i64 s] w fun e w' => e = .returned (.int .i64 (goneN now s)) ∧ w' = w := by
  have m1 := twoR_any 2 4 now s w
  rw [gone_two h1 h2] at m1
  clear h1 h2
  generalize goneN now s = G at *
  go_enter Tryd.func40, Tryd.ntmps40
  go_wp2_with (first | (go_at_call 51; refine m1.mono ?_; rintro e w1 ⟨rfl, rfl⟩))
  go_ret
  exact ⟨rfl, rfl⟩
end Go.Proofs.YthifgfhgkdjkfaaDoor
