/- The contract of the reader's variable, over those of field and of the rows' closure. -/
import Derived.Test.YtkicbmjjbnblfaaDoorCloneW
namespace Go.Proofs.YtkicbmjjbnblfaaDoor
open Go.RowKit
/-- a field is any word (R2: what the chapter does not refuse may be) -/
def FieldOk (B R : Nat) (tv : Value) (toks : List Tv) : Prop := ∀ (at_ op : Nat) (ps : List Pv) (fa fc : Int) (w : World) (name : ByteArray), ps.length ≤ at_ → RS B R tv toks at_ op ps fa fc w →
  Calls Tryd.prog 124 #[.pointer (some ⟨R, 0, none⟩), .string name] w fun e w' => Keep B R w w' ∧ ((at_ < toks.length ∧ (tokAt toks at_).k = 1 ∧ e = .returned (.bool true) ∧ RS B R tv toks (at_ + 1) op (ps ++ [⟨4, 0, 0, name, (tokAt toks at_).s⟩]) fa fc w') ∨ (¬ (at_ < toks.length ∧ (tokAt toks at_).k = 1) ∧ e = .returned (.bool false) ∧ RS B R tv toks at_ op ps (at_ : Int) 60 w'))
theorem within_parts {a b : Bs} {f d i : Nat} {toks : List Tv} {x : List Pt} {r : List Tk} (h : within a b d (lst toks i) (rd f (.row 0) (d + 1)) = some (.ok (x, r))) : x.length + r.length + 1 ≤ toks.length - i := by
  obtain ⟨t, q, v, h1, _, _, h2, _⟩ := within_ok h
  have h3 := (rd_reads h2).parts
  have h4 := congrArg List.length h1
  rw [lst_len, List.length_cons] at h4
  rw [List.length_cons] at h3
  omega
theorem named_sign {s : Bs} {toks : List Tv} {i : Nat} {br : Option Res} (h : isSign [91] (tkV (tokAt toks i)) = true) (hlt : i < toks.length) : named s (lst toks i) br = addP (idxP s) br := by
  rw [lst_cons hlt]
  unfold named
  simp only []
  rw [if_pos h]
set_option maxRecDepth 100000 in
set_option maxHeartbeats 3200000 in
theorem variable_any {B R P1 P2 : Nat} {tv : Value} {toks : List Tv} {f : Nat} (IH : RowOk B R P1 P2 tv toks f) (HFD : FieldOk B R tv toks) (hl : toks.length ≤ 3000000000000) (sn : ByteArray) (at_ op : Nat) (ps : List Pv) (fa fc : Int) (w : World) (res : Res) (ho : op ≤ 200) (hp : ps.length ≤ at_) (hlt : at_ < toks.length) (h : RS B R tv toks at_ op ps fa fc w) (he : Env B R P1 P2 w)
    (hr : named sn.data.toList (lst toks (at_ + 1)) (within [91] [93] op (lst toks (at_ + 1)) (rd f (.row 0) (op + 1))) = some res) : Calls Tryd.prog 112 #[.pointer (some ⟨R, 0, none⟩), .string sn, fvOf P1 P2] w (PostR B R tv toks op ps fa fc res w) := by
  obtain ⟨d1, _, d3⟩ := h.cells
  obtain ⟨r1, k1⟩ := h.step hlt
  have E1 := hide (he.keep k1)
  have c1 := is_any r1 (by omega) 3 ⟨#[91]⟩
  have HS := hide (sign_is [91] (tokAt toks (at_ + 1)))
  have HR1 := hide r1
  have HK1 := hide k1
  have hle1 := r1.le
  have hhere := r1.here
  have i3 : (at_ : Int) ≤ 3000000000000 := by omega
  have i4 : (0 : Int) ≤ (at_ : Int) := by omega
  obtain ⟨FV, hFV⟩ : ∃ FV, FV = fvOf P1 P2 := ⟨_, rfl⟩
  have HFV := hide hFV
  rw [← hFV]
  clear h he r1 k1 hFV
  cases hq : decide ((tokAt toks (at_ + 1)).k = 3 ∧ (tokAt toks (at_ + 1)).s = ⟨#[91]⟩) with
  | true =>
    rw [hq] at c1
    have hs : isSign [91] (tkV (tokAt toks (at_ + 1))) = true := by rw [HS.out]; exact hq
    have hlt2 : at_ + 1 < toks.length := by
      rcases Nat.lt_or_ge (at_ + 1) toks.length with h | h
      · exact h
      · have := (of_decide_eq_true hq).1
        rw [tok_none h] at this
        exact absurd this (by decide)
    rw [named_sign hs hlt2] at hr
    cases hz : within [91] [93] op (lst toks (at_ + 1)) (rd f (.row 0) (op + 1)) with
    | none => rw [hz] at hr; cases hr
    | some z =>
      rw [hz] at hr
      have c2 := fun W h1 h2 => within_any IH hl [91] [93] (at_ + 1) op ps fa fc W z ho (by omega) h1 h2 hz
      rw [← HFV.out] at c2
      have HZ := hide hz
      have HRR := hide hr
      clear hr hz hq hs
      go_enter Tryd.func112, Tryd.ntmps112
      go_wp2_with fail
      refine c1.mono ?_
      rintro e w2 ⟨rfl, hb2⟩
      have K2 := hide (HK1.out.trans (Keep.of_below (R := R) hb2 hle1))
      have c3 := c2 _ (HR1.out.below hb2) (E1.out.below hb2 hle1)
      clear c1 c2 hb2
      go_wp2_with fail
      refine c3.mono ?_
      rintro e w3 ⟨hk3, hp3⟩
      have K3 := hide (K2.out.trans hk3)
      clear c3 hk3
      cases z with
      | error z =>
        obtain ⟨k, c⟩ := z
        simp only [] at hp3
        obtain ⟨rfl, at2, op2, ps2, hr3⟩ := hp3
        have R3 := hide hr3
        have HR2 : Hid (res = .error (k, c)) := (Option.some.inj HRR.out).symm
        clear hr3
        go_wp2
        go_ret
        refine ⟨K3.out, ?_⟩
        rw [HR2.out]
        exact ⟨rfl, at2, op2, ps2, R3.out⟩
      | ok z =>
        obtain ⟨x, r⟩ := z
        simp only [] at hp3
        obtain ⟨rfl, xs, hxs, hr3⟩ := hp3
        have hpp := within_parts HZ.out
        have hxl : xs.length = x.length := by rw [← hxs, List.length_map]
        have c4 := add_any hr3 (by rw [List.length_append]; omega) ⟨3, 0, 0, sn, ⟨#[]⟩⟩
        have HR2 : Hid (res = .ok (x ++ [idxP sn.data.toList], r)) := (Option.some.inj HRR.out).symm
        have HXS := hide hxs
        simp only [] at c4
        clear hr3 hxs hxl hpp
        go_wp2_with fail
        refine c4.mono ?_
        rintro e w4 ⟨rfl, hr4, hk4⟩
        have R4 := hide hr4
        have K4 := hide (K3.out.trans hk4)
        clear c4 hr4 hk4
        go_wp2
        go_ret
        refine ⟨K4.out, ?_⟩
        rw [HR2.out]
        refine ⟨rfl, xs ++ [⟨3, 0, 0, sn, ⟨#[]⟩⟩], by rw [List.map_append, HXS.out]; rfl, ?_⟩
        rw [← List.append_assoc]
        exact R4.out
  | false =>
    rw [hq] at c1
    have HS1 : Hid (isSign [91] (tkV (tokAt toks (at_ + 1))) = false) := by show _ = _; rw [HS.out]; exact hq
    have HS2 := hide (sign_is [46] (tokAt toks (at_ + 1)))
    have c2 := fun W h => @is_any B R tv toks (at_ + 1) op ps fa fc W h (by omega) 3 ⟨#[46]⟩
    clear hq HS
    cases hq : decide ((tokAt toks (at_ + 1)).k = 3 ∧ (tokAt toks (at_ + 1)).s = ⟨#[46]⟩) with
    | true =>
      rw [hq] at c2
      have HS3 : Hid (isSign [46] (tkV (tokAt toks (at_ + 1))) = true) := by show _ = _; rw [HS2.out]; exact hq
      have hlt2 : at_ + 1 < toks.length := by
        rcases Nat.lt_or_ge (at_ + 1) toks.length with h | h
        · exact h
        · have := (of_decide_eq_true hq).1
          rw [tok_none h] at this
          exact absurd this (by decide)
      have HRR : Hid ((match lst toks (at_ + 2) with
        | [] => some (.error (0, 60))
        | v :: r' => if v.kind = 1 then some (.ok ([fldP sn.data.toList v.s], r')) else some (.error (r'.length + 1, 60))) = some res) := by
        show _ = _
        rw [lst_cons hlt2] at hr
        unfold named at hr
        simp only [] at hr
        rw [HS1.out, HS3.out, if_neg (by decide), if_pos rfl] at hr
        exact hr
      clear hr hq HS2
      go_enter Tryd.func112, Tryd.ntmps112
      go_wp2_with fail
      refine c1.mono ?_
      rintro e w2 ⟨rfl, hb2⟩
      have K2 := hide (HK1.out.trans (Keep.of_below (R := R) hb2 hle1))
      have r2 := HR1.out.below hb2
      have hle2 := r2.le
      have c3 := c2 _ r2
      have R2 := hide r2
      clear c1 c2 hb2 r2
      go_wp2_with fail
      refine c3.mono ?_
      rintro e w3 ⟨rfl, hb3⟩
      have K3 := hide (K2.out.trans (Keep.of_below (R := R) hb3 hle2))
      have r3 := R2.out.below hb3
      obtain ⟨f1, _, f3⟩ := r3.cells
      obtain ⟨r4, k4⟩ := r3.step hlt2
      have c5 := HFD (at_ + 1 + 1) op ps fa fc _ sn (by omega) r4
      have K4 := hide (K3.out.trans k4)
      have f1' : w3.cell? ⟨R, 1, none⟩ = some (.int .i64 ((at_ : Int) + 1)) := f1
      have hc5 : ((at_ + 1 : Nat) : Int) + 1 = (at_ : Int) + 1 + 1 := by omega
      rw [hc5] at c5 K4
      clear c3 hb3 r3 r4 k4 f1
      go_wp2_with fail
      refine c5.mono ?_
      rintro e w5 ⟨hk5, hcase⟩
      have K5 := hide (K4.out.trans hk5)
      clear c5 hk5
      rcases hcase with ⟨hlt3, hkk, rfl, hr5⟩ | ⟨hn, rfl, hr5⟩
      · have HR2 : Hid (res = .ok ([fldP sn.data.toList (tokAt toks (at_ + 1 + 1)).s.data.toList], lst toks (at_ + 1 + 1 + 1))) := by
          show _ = _
          have h1 := HRR.out
          rw [show at_ + 2 = at_ + 1 + 1 from rfl, lst_cons hlt3] at h1
          simp only [] at h1
          rw [if_pos (show (tkV (tokAt toks (at_ + 1 + 1))).kind = 1 from hkk)] at h1
          exact (Option.some.inj h1).symm
        have R5 := hide hr5
        clear hr5 hkk
        go_wp2
        go_ret
        refine ⟨K5.out, ?_⟩
        rw [HR2.out]
        refine ⟨rfl, [⟨4, 0, 0, sn, (tokAt toks (at_ + 1 + 1)).s⟩], rfl, ?_⟩
        rw [lst_len, show toks.length - (toks.length - (at_ + 1 + 1 + 1)) = at_ + 1 + 1 + 1 from by omega]
        exact R5.out
      · have HR2 : Hid (res = .error (toks.length - (at_ + 1 + 1), 60)) := by
          show _ = _
          have h1 := HRR.out
          rcases Nat.lt_or_ge (at_ + 1 + 1) toks.length with hlt3 | hge
          · rw [show at_ + 2 = at_ + 1 + 1 from rfl, lst_cons hlt3] at h1
            simp only [] at h1
            rw [if_neg (show ¬ (tkV (tokAt toks (at_ + 1 + 1))).kind = 1 from fun q => hn ⟨hlt3, q⟩), lst_len] at h1
            rw [← Option.some.inj h1]
            congr 2
            omega
          · rw [show at_ + 2 = at_ + 1 + 1 from rfl, lst_nil hge] at h1
            rw [← Option.some.inj h1]
            congr 2
            omega
        have R5 := hide hr5
        clear hr5 hn
        go_wp2
        go_ret
        refine ⟨K5.out, ?_⟩
        rw [HR2.out]
        refine ⟨rfl, at_ + 1 + 1, op, ps, ?_⟩
        rw [show ((toks.length - (toks.length - (at_ + 1 + 1)) : Nat) : Int) = ((at_ + 1 + 1 : Nat) : Int) from by omega]
        exact R5.out
    | false =>
      rw [hq] at c2
      have HS3 : Hid (isSign [46] (tkV (tokAt toks (at_ + 1))) = false) := by show _ = _; rw [HS2.out]; exact hq
      have HR2 : Hid (res = .ok ([varP sn.data.toList], lst toks (at_ + 1))) := by
        show _ = _
        rcases Nat.lt_or_ge (at_ + 1) toks.length with hlt2 | hge
        · rw [lst_cons hlt2] at hr
          unfold named at hr
          simp only [] at hr
          rw [HS1.out, HS3.out, if_neg (by decide), if_neg (by decide)] at hr
          rw [lst_cons hlt2]
          exact (Option.some.inj hr).symm
        · rw [lst_nil hge] at hr
          rw [lst_nil hge]
          exact (Option.some.inj hr).symm
      clear hr hq HS2
      go_enter Tryd.func112, Tryd.ntmps112
      go_wp2_with fail
      refine c1.mono ?_
      rintro e w2 ⟨rfl, hb2⟩
      have K2 := hide (HK1.out.trans (Keep.of_below (R := R) hb2 hle1))
      have r2 := HR1.out.below hb2
      have hle2 := r2.le
      have c3 := c2 _ r2
      have R2 := hide r2
      clear c1 c2 hb2 r2
      go_wp2_with fail
      refine c3.mono ?_
      rintro e w3 ⟨rfl, hb3⟩
      have K3 := hide (K2.out.trans (Keep.of_below (R := R) hb3 hle2))
      have c5 := add_any (R2.out.below hb3) (by omega) ⟨2, 0, 0, sn, ⟨#[]⟩⟩
      simp only [] at c5
      clear c3 hb3
      go_wp2_with fail
      refine c5.mono ?_
      rintro e w5 ⟨rfl, hr5, hk5⟩
      have R5 := hide hr5
      have K5 := hide (K3.out.trans hk5)
      clear c5 hr5 hk5
      go_wp2
      go_ret
      refine ⟨K5.out, ?_⟩
      rw [HR2.out]
      refine ⟨rfl, [⟨2, 0, 0, sn, ⟨#[]⟩⟩], rfl, ?_⟩
      rw [lst_len, show toks.length - (toks.length - (at_ + 1)) = at_ + 1 from by omega]
      exact R5.out
end Go.Proofs.YtkicbmjjbnblfaaDoor
