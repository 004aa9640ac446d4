/- The contract of the reader's within, over that of the rows' closure. -/
import Derived.Test.YtkicbmjjbnblfaaDoorRwW
namespace Go.Proofs.YtkicbmjjbnblfaaDoor
open Go.RowKit
/-- parts are not more than the tokens that they were read of -/
theorem Reads.parts {m : Md} {d : Nat} {l r : List Tk} {x : List Pt} (h : Reads m d l x r) : x.length + r.length ≤ l.length := by
  induction h with
  | top _ _ ih => exact ih
  | row _ _ _ ih1 ih2 => rw [List.length_append]; omega
  | stop _ => simp
  | more _ _ _ ih1 ih2 => rw [List.length_append, List.length_cons, List.length_cons]; omega
  | bare _ _ ih => exact ih
  | sign _ _ _ ih => rw [List.length_append, List.length_cons]; simp; omega
  | num _ => simp; omega
  | tru _ _ => simp; omega
  | fal _ _ => simp; omega
  | conv _ _ _ _ _ _ ih => rw [List.length_append]; simp at ih ⊢; omega
  | idx _ _ _ _ _ _ ih => rw [List.length_append]; simp at ih ⊢; omega
  | fld _ _ _ _ => simp; omega
  | var _ _ _ => simp; omega
  | par _ _ _ _ ih => simp at ih ⊢; omega
theorem within_none {a b : Bs} {d : Nat} {t : Tk} {q : List Tk} {go : List Tk → Option Res} {res : Res} (h : within a b d (t :: q) go = some res) (ha : isSign a t = true) (hd : ¬ 200 ≤ d) : ∃ z, go q = some z := by
  unfold within at h
  simp only [] at h
  rw [if_pos ha, if_neg hd] at h
  cases hg : go q with
  | none => rw [hg] at h; cases h
  | some z => exact ⟨z, rfl⟩
theorem RS.cells {B R : Nat} {tv : Value} {toks : List Tv} {at_ op : Nat} {ps : List Pv} {fa fc : Int} {w : World} (h : RS B R tv toks at_ op ps fa fc w) : w.cell? ⟨R, 1, none⟩ = some (.int .i64 (at_ : Int)) ∧ w.cell? ⟨R, 2, none⟩ = some (.int .i64 (op : Int)) ∧ ∀ j, w.frozen? ⟨R, j, none⟩ = false := by
  obtain ⟨pv, hrow, _⟩ := h.row
  exact ⟨by rw [Lib.cell_of_heap hrow]; rfl, by rw [Lib.cell_of_heap hrow]; rfl, fun j => Lib.frozen_of_heap hrow j⟩
/-- one token on -/
theorem RS.step {B R : Nat} {tv : Value} {toks : List Tv} {at_ op : Nat} {ps : List Pv} {fa fc : Int} {w : World} (h : RS B R tv toks at_ op ps fa fc w) (hlt : at_ < toks.length) : RS B R tv toks (at_ + 1) op ps fa fc (w.setCell ⟨R, 1, none⟩ (.int .i64 ((at_ : Int) + 1))) ∧ Keep B R w (w.setCell ⟨R, 1, none⟩ (.int .i64 ((at_ : Int) + 1))) := by
  have hk := (Keep.refl B R w).setCell (p := ⟨R, 1, none⟩) rfl (.int .i64 ((at_ : Int) + 1))
  obtain ⟨pv, hrow, hown⟩ := h.row
  exact ⟨h.turn hk hlt ⟨pv, put_at hrow _, ownsRow_setCell_below hown (a := ⟨R, 1, none⟩) h.hB _⟩, hk⟩
/-- one less open -/
theorem RS.shut {B R : Nat} {tv : Value} {toks : List Tv} {at_ op : Nat} {ps : List Pv} {fa fc : Int} {w : World} (h : RS B R tv toks at_ (op + 1) ps fa fc w) : RS B R tv toks at_ op ps fa fc (w.setCell ⟨R, 2, none⟩ (.int .i64 (op : Int))) ∧ Keep B R w (w.setCell ⟨R, 2, none⟩ (.int .i64 (op : Int))) := by
  have hk := (Keep.refl B R w).setCell (p := ⟨R, 2, none⟩) rfl (.int .i64 (op : Int))
  obtain ⟨pv, hrow, hown⟩ := h.row
  exact ⟨h.turn hk h.here ⟨pv, put_op hrow _, ownsRow_setCell_below hown (a := ⟨R, 2, none⟩) h.hB _⟩, hk⟩
set_option maxRecDepth 100000 in
set_option maxHeartbeats 3200000 in
theorem within_any {B R P1 P2 : Nat} {tv : Value} {toks : List Tv} {f : Nat} (IH : RowOk B R P1 P2 tv toks f) (hl : toks.length ≤ 3000000000000) (a b : Bs) (at_ op : Nat) (ps : List Pv) (fa fc : Int) (w : World) (res : Res) (ho : op ≤ 200) (hp : ps.length ≤ at_) (h : RS B R tv toks at_ op ps fa fc w) (he : Env B R P1 P2 w)
    (hr : within a b op (lst toks at_) (rd f (.row 0) (op + 1)) = some res) : Calls Tryd.prog 89 #[.pointer (some ⟨R, 0, none⟩), .string ⟨a.toArray⟩, .string ⟨b.toArray⟩, fvOf P1 P2] w (PostR B R tv toks op ps fa fc res w) := by
  have c1 := is_any h (by omega) 3 ⟨a.toArray⟩
  have HH := hide h
  have HE := hide he
  have hle := h.le
  have hhere := h.here
  have HS := hide (sign_is a (tokAt toks at_))
  obtain ⟨sa, hsa⟩ : ∃ sa : ByteArray, sa = ⟨a.toArray⟩ := ⟨_, rfl⟩
  obtain ⟨sb, hsb⟩ : ∃ sb : ByteArray, sb = ⟨b.toArray⟩ := ⟨_, rfl⟩
  rw [← hsa] at c1 HS
  rw [← hsa, ← hsb]
  have HSB := hide hsb
  clear h he hsa hsb
  unfold fvOf
  cases hq : decide ((tokAt toks at_).k = 3 ∧ (tokAt toks at_).s = sa) with
  | false =>
    rw [hq] at c1 HS
    have HR : Hid (res = .error (toks.length - at_, 60)) := by
      show _ = _
      rcases Nat.lt_or_ge at_ toks.length with hlt | hge
      · rw [lst_cons hlt] at hr
        unfold within at hr
        simp only [] at hr
        rw [HS.out, if_neg (by decide), lst_len] at hr
        rw [← Option.some.inj hr]
        congr 2
        omega
      · rw [lst_nil hge] at hr
        rw [← Option.some.inj hr]
        congr 2
        omega
    clear hr hq
    go_enter Tryd.func89, Tryd.ntmps89
    go_wp2_with fail
    refine c1.mono ?_
    rintro e w1 ⟨rfl, hb1⟩
    have c2 := refuse_any (HH.out.below hb1)
    have K1 := hide (Keep.of_below (R := R) hb1 hle)
    clear c1 hb1
    go_wp2_with fail
    refine c2.mono ?_
    rintro e w2 ⟨rfl, hr2, hk2⟩
    have R2 := hide hr2
    have K2 := hide (K1.out.trans hk2)
    clear c2 hr2 hk2
    go_wp2
    go_ret
    refine ⟨K2.out, ?_⟩
    rw [HR.out]
    refine ⟨rfl, at_, op, ps, ?_⟩
    rw [show ((toks.length - (toks.length - at_) : Nat) : Int) = (at_ : Int) from by omega]
    exact R2.out
  | true =>
    rw [hq] at c1 HS
    have hlt : at_ < toks.length := by
      rcases Nat.lt_or_ge at_ toks.length with hlt | hge
      · exact hlt
      · have := (of_decide_eq_true hq).1
        rw [tok_none hge] at this
        exact absurd this (by decide)
    rw [lst_cons hlt] at hr
    by_cases h2 : op = 200
    · have HR : Hid (res = .error (toks.length - at_, 2)) := by
        show _ = _
        unfold within at hr
        simp only [] at hr
        rw [HS.out, if_pos rfl, if_pos (by omega), lst_len] at hr
        rw [← Option.some.inj hr]
        congr 2
        omega
      clear hr hq
      go_enter Tryd.func89, Tryd.ntmps89
      go_wp2_with fail
      refine c1.mono ?_
      rintro e w1 ⟨rfl, hb1⟩
      have c2 := open_full (HH.out.below hb1) h2
      have K1 := hide (Keep.of_below (R := R) hb1 hle)
      clear c1 hb1 h2
      go_wp2_with fail
      refine c2.mono ?_
      rintro e w2 ⟨rfl, hr2, hk2⟩
      have R2 := hide hr2
      have K2 := hide (K1.out.trans hk2)
      clear c2 hr2 hk2
      go_wp2
      go_ret
      refine ⟨K2.out, ?_⟩
      rw [HR.out]
      refine ⟨rfl, at_, op, ps, ?_⟩
      rw [show ((toks.length - (toks.length - at_) : Nat) : Int) = (at_ : Int) from by omega]
      exact R2.out
    · obtain ⟨z, hz⟩ := within_none hr HS.out (by omega)
      have hr' : within a b op (tkV (tokAt toks at_) :: lst toks (at_ + 1)) (rd f (.row 0) (op + 1)) = some res := hr
      unfold within at hr'
      simp only [] at hr'
      rw [HS.out, if_pos rfl, if_neg (by omega), hz] at hr'
      have HR := hide hr'
      have HZ := hide hz
      clear hr hr' hz hq
      go_enter Tryd.func89, Tryd.ntmps89
      go_wp2_with fail
      refine c1.mono ?_
      rintro e w1 ⟨rfl, hb1⟩
      have c2 := open_more (HH.out.below hb1) (by omega) (by omega) hlt
      have E1 := hide (HE.out.below hb1 hle)
      have K1 := hide (Keep.of_below (R := R) hb1 hle)
      clear c1 hb1
      go_wp2_with fail
      refine c2.mono ?_
      rintro e w2 ⟨rfl, hr2, hk2⟩
      have c3 := IH 0 (at_ + 1) (op + 1) ps fa fc w2 z (by omega) (by omega) (by omega) hr2 (E1.out.keep hk2) HZ.out
      have E2 := hide (E1.out.keep hk2)
      have K2 := hide (K1.out.trans hk2)
      clear c2 hr2 hk2 E1 K1
      have c3' : Calls Tryd.prog 32 #[.int .i64 0, .pointer (some ⟨P1, 0, none⟩), .pointer (some ⟨P2, 0, none⟩)] w2 (PostR B R tv toks (op + 1) ps fa fc z w2) := c3
      clear c3
      go_wp2_with fail
      refine c3'.mono ?_
      rintro e w3 ⟨hk3, hp3⟩
      have K3 := hide (K2.out.trans hk3)
      have E3 := hide (E2.out.keep hk3)
      clear c3' hk3 E2 K2
      cases z with
      | error z =>
        obtain ⟨k, c⟩ := z
        simp only [] at hp3
        obtain ⟨rfl, at2, op2, ps2, hr3⟩ := hp3
        have R3 := hide hr3
        have HR2 : Hid (res = .error (k, c)) := (Option.some.inj HR.out).symm
        clear hr3
        go_wp2
        go_ret
        refine ⟨K3.out, ?_⟩
        rw [HR2.out]
        exact ⟨rfl, at2, op2, ps2, R3.out⟩
      | ok z =>
        obtain ⟨x, r⟩ := z
        simp only [] at hp3
        obtain ⟨rfl, xs, hxs, hr3⟩ := hp3
        obtain ⟨hrest, hrl⟩ := rest_lst HZ.out hlt
        have hle3 := hr3.le
        have hh3 := hr3.here
        have HXS := hide hxs
        have c4 := is_any hr3 (by omega) 3 sb
        have R3 := hide hr3
        have HS2 := hide (sign_is b (tokAt toks (toks.length - r.length)))
        rw [← HSB.out] at HS2
        clear hr3 hxs
        cases hq : decide ((tokAt toks (toks.length - r.length)).k = 3 ∧ (tokAt toks (toks.length - r.length)).s = sb) with
        | false =>
          rw [hq] at c4 HS2
          have HR2 : Hid (res = .error (r.length, 60)) := by
            show _ = _
            have h1 := HR.out
            simp only [] at h1
            rcases Nat.lt_or_ge (toks.length - r.length) toks.length with hlt2 | hge
            · rw [hrest, lst_cons hlt2] at h1
              simp only [] at h1
              rw [HS2.out, if_neg (by decide), lst_len] at h1
              rw [← Option.some.inj h1]
              congr 2
              omega
            · rw [hrest, lst_nil hge] at h1
              rw [← Option.some.inj h1]
              congr 2
              omega
          clear hq
          go_wp2_with fail
          refine c4.mono ?_
          rintro e w4 ⟨rfl, hb4⟩
          have c5 := refuse_any (R3.out.below hb4)
          have K4 := hide (K3.out.trans (Keep.of_below (R := R) hb4 hle3))
          clear c4 hb4
          go_wp2_with fail
          refine c5.mono ?_
          rintro e w5 ⟨rfl, hr5, hk5⟩
          have R5 := hide hr5
          have K5 := hide (K4.out.trans hk5)
          clear c5 hr5 hk5
          go_wp2
          go_ret
          refine ⟨K5.out, ?_⟩
          rw [HR2.out]
          exact ⟨rfl, _, _, _, R5.out⟩
        | true =>
          rw [hq] at c4 HS2
          have hlt2 : toks.length - r.length < toks.length := by
            rcases Nat.lt_or_ge (toks.length - r.length) toks.length with h | h
            · exact h
            · have := (of_decide_eq_true hq).1
              rw [tok_none h] at this
              exact absurd this (by decide)
          have HR2 : Hid (res = .ok (x, lst toks (toks.length - r.length + 1))) := by
            show _ = _
            have h1 := HR.out
            simp only [] at h1
            rw [hrest, lst_cons hlt2] at h1
            simp only [] at h1
            rw [HS2.out, if_pos rfl] at h1
            exact (Option.some.inj h1).symm
          clear hq
          obtain ⟨A, hAA⟩ : ∃ A, A = toks.length - r.length := ⟨_, rfl⟩
          rw [← hAA] at R3 HR2 hlt2
          clear hrest hrl hh3 HR HZ hAA HS2
          go_wp2_with fail
          refine c4.mono ?_
          rintro e w4 ⟨rfl, hb4⟩
          have r4 := R3.out.below hb4
          have K4 := hide (K3.out.trans (Keep.of_below (R := R) hb4 hle3))
          obtain ⟨d1, d2, d3⟩ := r4.cells
          obtain ⟨r5, k5⟩ := r4.shut
          obtain ⟨r6, k6⟩ := r5.step hlt2
          have R6 := hide r6
          have K6 := hide (K4.out.trans (k5.trans k6))
          have hAl : A ≤ 3000000000000 := by omega
          have i3 : (A : Int) ≤ 3000000000000 := by omega
          have i4 : (0 : Int) ≤ (A : Int) := by omega
          have i5 : (op : Int) ≤ 200 := by omega
          have i6 : (0 : Int) ≤ (op : Int) := by omega
          have d2' : w4.cell? ⟨R, 2, none⟩ = some (.int .i64 ((op : Int) + 1)) := d2
          clear c4 hb4 r4 r5 k5 r6 k6 d2
          go_wp2
          go_ret
          refine ⟨K6.out, ?_⟩
          rw [HR2.out]
          refine ⟨rfl, xs, HXS.out, ?_⟩
          rw [lst_len, show toks.length - (toks.length - (A + 1)) = A + 1 from by omega]
          exact R6.out
end Go.Proofs.YtkicbmjjbnblfaaDoor
