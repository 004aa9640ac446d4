/- block.mayBe. -/
import Derived.Test.YthifgfhgkdjkfaaDoorCaP
namespace Go.Proofs.YthifgfhgkdjkfaaDoor
open Go.RowKit
set_option maxRecDepth 100000 in
set_option maxHeartbeats 1600000 in
theorem mayBe_any (fv : Value) (fl : List (Int × Bool)) (cv : Value) (c : List Int) (now : Int) (w : World) (hf : FLst w fv fl) (hc : ILst w cv c) (hg : Glo w) (h6 : fl.length ≤ 6) :
    Calls Tryd.prog 21 #[fv, cv, .int .i64 now] w fun e w' => e = .returned (.int .i64 (mayP fl c now)) ∧ Below w.heap.size w w' := by
  obtain ⟨fa, fb, fcap, rfl, hfA, hfI⟩ := hf
  obtain ⟨ca, cb, coff, ccap, rfl, hcA, hcI⟩ := hc
  have HG := hide hg
  have HFA := hide hfA
  have HFI := hide hfI
  have HCA := hide hcA
  have HCI := hide hcI
  clear hfA hfI hcA hcI hg
  by_cases hl : c.length = fl.length
  · have HM : Hid (mayP fl c now = if fitL fl c then if nowOk now then 0 else 1 else 1) := by show _ = _; unfold mayP; rw [if_pos hl]
    obtain ⟨n, hn⟩ : ∃ n, n = fl.length := ⟨_, rfl⟩
    rw [← hn] at h6 ⊢
    rw [hl, ← hn]
    have HN := hide hn
    have HN2 : Hid (n = c.length) := hn.trans hl.symm
    have n6 : (n : Int) ≤ 6 := by omega
    have n0 : (0 : Int) ≤ (n : Int) := by omega
    generalize mayP fl c now = M at *
    clear hn hl h6
    go_enter Tryd.func21, Tryd.ntmps21
    go_wp2_with fail
    go_loopw [7, 8, 16, 18, 19, 20, 21, 22, 23, 24, 25, 26, 27, 28] (fun _ _ i _ _ _ _ _ _ _ _ _ _ _ wr => ∃ k : Nat, k ≤ n ∧ i = .int .i64 (k : Int) ∧ Hid ((∀ j f x, j < k → fl[j]? = some f → c[j]? = some x → fitB f.1 x = true) ∧ Below w.heap.size w wr)) (fun _ _ i _ _ _ _ _ _ _ _ _ _ _ _ => n - (intOf i).toNat)
    case atStart => exact ⟨0, by omega, rfl, fun j _ _ hj => absurd hj (Nat.not_lt_zero _), Below.refl _ _⟩
    case round =>
      obtain ⟨k, hk, rfl, hh⟩ := hrel
      have HF := hide hh.out.1
      have HB := hide hh.out.2
      clear hh
      by_cases hlt : k < n
      · have j1 : (k : Int) < (n : Int) := by omega
        have j0 : (0 : Int) ≤ (k : Int) := by omega
        obtain ⟨f, hf⟩ : ∃ f, fl[k]? = some f := ⟨_, List.getElem?_eq_getElem (by rw [← HN.out]; exact hlt)⟩
        obtain ⟨x, hx⟩ : ∃ x, c[k]? = some x := ⟨_, List.getElem?_eq_getElem (by rw [← HN2.out]; exact hlt)⟩
        obtain ⟨hfb, rfl⟩ := HFA.out (by rw [← HN.out]; omega)
        obtain ⟨hcb, rfl⟩ := HCA.out (by rw [← HN2.out]; omega)
        obtain ⟨s, q0, q1, q2⟩ := HFI.out k f hf
        have c0 := (HB.out.cell (p := ⟨fb, k * 3, none⟩) hfb).trans q0
        have c1 := (HB.out.cell (p := ⟨fb, k * 3 + 1, none⟩) hfb).trans q1
        have c2 := (HB.out.cell (p := ⟨fb, k * 3 + 2, none⟩) hfb).trans q2
        have c3 := (HB.out.cell (p := ⟨cb, coff + k, none⟩) hcb).trans (HCI.out k x hx)
        have b1 : fb < wr.heap.size := Nat.lt_of_lt_of_le hfb HB.out.size
        have b2 : cb < wr.heap.size := Nat.lt_of_lt_of_le hcb HB.out.size
        have HFX := hide hf
        have HXX := hide hx
        clear q0 q1 q2 hf hx hfb hcb
        obtain ⟨t, b⟩ := f
        simp only [] at c1 c2
        have HB2 := hide (HB.out.alloc HB.out.size (.cells #[.string s, .int .i64 t, .bool b] 77))
        have mF : ∀ m, Calls Tryd.prog 36 #[.int .i64 t, .int .i64 x] ((wr.alloc (.cells #[.string s, .int .i64 t, .bool b] 77)).drewN m) fun e w' => e = .returned (.bool (fitB t x)) ∧ w' = (wr.alloc (.cells #[.string s, .int .i64 t, .bool b] 77)).drewN m := fun m => fits_any t x _ (HG.out.below (B := w.heap.size) (w' := (wr.alloc (.cells #[.string s, .int .i64 t, .bool b] 77)).drewN m) ⟨HB2.out.os, HB2.out.tape, HB2.out.output, HB2.out.size, HB2.out.block⟩ HG.out.lt)
        cases hfit : fitB t x
        · have HE : Hid (M = 1) := by
            show _ = _
            rw [HM.out, fitL_no HFX.out HXX.out hfit]; rfl
          rw [hfit] at mF
          go_wp2_with fail
          go_quiet (first | (go_at_call 36; exact Calls.quiet_of_same (mF _)))
          go_wp2
          go_ret
          exact ⟨by rw [HE.out]; rfl, ⟨HB2.out.os, HB2.out.tape, HB2.out.output, HB2.out.size, HB2.out.block⟩⟩
        · rw [hfit] at mF
          go_wp2_with fail
          go_quiet (first | (go_at_call 36; exact Calls.quiet_of_same (mF _)))
          go_wp2
          go_roundw
          case rel => exact ⟨k + 1, by omega, by go_num, fun j f' x' hj hf' hx' => (by
              rcases Nat.lt_or_eq_of_le (Nat.le_of_lt_succ hj) with h | rfl
              · exact HF.out j f' x' h hf' hx'
              · rw [HFX.out] at hf'; rw [HXX.out] at hx'
                obtain rfl := Option.some.inj hf'
                obtain rfl := Option.some.inj hx'
                exact hfit), ⟨HB2.out.os, HB2.out.tape, HB2.out.output, HB2.out.size, HB2.out.block⟩⟩
          case measure => simp [intOf]; omega
      · have j1 : ¬ (k : Int) < (n : Int) := by omega
        have HA : Hid (M = if nowOk now then 0 else 1) := by
          show _ = _
          rw [HM.out, fitL_all (fun j f x hf hx => HF.out j f x (by have := (List.getElem?_eq_some_iff.1 hf).1; rw [← HN.out] at this; omega) hf hx)]
          rfl
        clear HF HM
        by_cases h1 : now < 0
        · have HE : Hid (M = 1) := by show _ = _; rw [HA.out]; unfold nowOk; simp [show ¬ 0 ≤ now by omega]
          go_wp2
          go_ret
          exact ⟨by rw [HE.out]; rfl, HB.out⟩
        · by_cases h2 : 2147483647 < now
          · have HE : Hid (M = 1) := by show _ = _; rw [HA.out]; unfold nowOk; simp [show ¬ now ≤ 2147483647 by omega]
            go_wp2
            go_ret
            exact ⟨by rw [HE.out]; rfl, HB.out⟩
          · have HE : Hid (M = 0) := by show _ = _; rw [HA.out]; unfold nowOk; simp [show now ≤ 2147483647 by omega, show 0 ≤ now by omega]
            go_wp2
            go_ret
            exact ⟨by rw [HE.out]; rfl, HB.out⟩
  · have HM : Hid (mayP fl c now = 4) := by show _ = _; unfold mayP; rw [if_neg hl]
    have hl1 : ¬ (c.length : Int) = (fl.length : Int) := by omega
    generalize mayP fl c now = M at *
    have n6 : (fl.length : Int) ≤ 6 := by omega
    generalize hA : (c.length : Int) = A at *
    generalize hB : (fl.length : Int) = B at *
    go_enter Tryd.func21, Tryd.ntmps21
    go_wp2
    go_ret
    exact ⟨by rw [HM.out]; rfl, Below.refl _ _⟩
end Go.Proofs.YthifgfhgkdjkfaaDoor
