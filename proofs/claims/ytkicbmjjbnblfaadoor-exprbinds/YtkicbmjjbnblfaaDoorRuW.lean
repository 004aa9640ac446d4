/- The contract of the reader's unary, and of the rows' closure, by the plain reader's turns. -/
import Derived.Test.YtkicbmjjbnblfaaDoorRzW
namespace Go.Proofs.YtkicbmjjbnblfaaDoor
open Go.RowKit
/-- the closure at the last row, by the turns of a value with its signs -/
def TopOk (B R P1 P2 : Nat) (tv : Value) (toks : List Tv) (f : Nat) : Prop := ∀ (at_ op : Nat) (ps : List Pv) (fa fc : Int) (w : World) (res : Res), op ≤ 200 → ps.length ≤ at_ → RS B R tv toks at_ op ps fa fc w → Env B R P1 P2 w → rd f .una op (lst toks at_) = some res →
  Calls Tryd.prog 32 #[.int .i64 7, .pointer (some ⟨P1, 0, none⟩), .pointer (some ⟨P2, 0, none⟩)] w (PostR B R tv toks op ps fa fc res w)
set_option maxRecDepth 100000 in
set_option maxHeartbeats 1600000 in
theorem top_ok {B R P1 P2 : Nat} {tv : Value} {toks : List Tv} {f : Nat} (IH : UnaOk B R P1 P2 tv toks f) : TopOk B R P1 P2 tv toks f := by
  intro at_ op ps fa fc w res ho hp h he hr
  have c := IH at_ op ps fa fc w res ho hp h he hr
  have e1 := he.c1
  have e2 := he.c2
  obtain ⟨FV, hFV⟩ : ∃ FV, FV = fvOf P1 P2 := ⟨_, rfl⟩
  rw [← hFV] at c e2
  clear h he hr hFV
  go_enter Tryd.func32, Tryd.ntmps32
  go_wp2_with fail
  refine c.mono ?_
  rintro e w2 hpost
  obtain ⟨bb, rfl⟩ := post_ret hpost
  have HP := hide hpost
  clear c hpost
  go_wp2
  go_ret
  exact HP.out
theorem una_none {f op i : Nat} {toks : List Tv} (h : opRow 7 (tokAt toks i) = none) : rd (f + 1) .una op (lst toks i) = rd f .pri op (lst toks i) := by
  rcases Nat.lt_or_ge i toks.length with hlt | hge
  · rw [lst_cons hlt]
    conv => lhs; unfold rd
    simp only []
    rw [unOp_row, h]
  · rw [lst_nil hge]
    rfl
theorem una_some {f op i : Nat} {toks : List Tv} {k : Int} (h : opRow 7 (tokAt toks i) = some k) (hlt : i < toks.length) : rd (f + 1) .una op (lst toks i) = if 200 ≤ op then some (.error ((lst toks (i + 1)).length + 1, 2)) else addP (opP k) (rd f .una (op + 1) (lst toks (i + 1))) := by
  rw [lst_cons hlt]
  conv => lhs; unfold rd
  simp only []
  rw [unOp_row, h]
set_option maxRecDepth 100000 in
set_option maxHeartbeats 3200000 in
theorem una_ok {B R P1 P2 : Nat} {tv : Value} {toks : List Tv} {f : Nat} (IP : PriOk B R P1 P2 tv toks f) (IT : TopOk B R P1 P2 tv toks f) (hl : toks.length ≤ 3000000000000) : UnaOk B R P1 P2 tv toks (f + 1) := by
  intro at_ op ps fa fc w res ho hp h he hr
  have c1 := operation_any h (by omega) 7 he.glo.ops
  have hle := h.le
  have HH := hide h
  have HE := hide he
  obtain ⟨FV, hFV⟩ : ∃ FV, FV = fvOf P1 P2 := ⟨_, rfl⟩
  have HFV := hide hFV
  clear h he
  cases hq : opRow 7 (tokAt toks at_) with
  | none =>
    rw [hq] at c1
    rw [una_none hq] at hr
    have c2 := fun W h1 h2 => IP at_ op ps fa fc W res ho hp h1 h2 hr
    rw [← hFV] at c2 ⊢
    unfold opOut at c1
    simp only [] at c1
    clear hr hq hFV
    go_enter Tryd.func33, Tryd.ntmps33
    go_wp2_with fail
    refine c1.mono ?_
    rintro e w1 ⟨rfl, hb1⟩
    have c3 := c2 _ (HH.out.below hb1) (HE.out.below hb1 hle)
    have K1 := hide (Keep.of_below (R := R) hb1 hle)
    clear c1 c2 hb1
    go_wp2_with fail
    refine c3.mono ?_
    rintro e w2 hpost
    obtain ⟨bb, rfl⟩ := post_ret hpost
    have HP := hide (PostR.from K1.out hpost)
    clear c3 hpost
    go_wp2
    go_ret
    exact HP.out
  | some k =>
    rw [hq] at c1
    have hlt : at_ < toks.length := by
      rcases Nat.lt_or_ge at_ toks.length with h | h
      · exact h
      · rw [tok_none h, none_row] at hq
        cases hq
    rw [una_some hq hlt] at hr
    unfold opOut at c1
    simp only [] at c1
    by_cases h2 : op = 200
    · rw [if_pos (by omega), lst_len] at hr
      have HR2 : Hid (res = .error (toks.length - at_, 2)) := by
        show _ = _
        rw [← Option.some.inj hr]
        congr 2
        omega
      rw [← hFV]
      clear hr hq hFV
      go_enter Tryd.func33, Tryd.ntmps33
      go_wp2_with fail
      refine c1.mono ?_
      rintro e w1 ⟨rfl, hb1⟩
      have c2 := open_full (HH.out.below hb1) h2
      have K1 := hide (Keep.of_below (R := R) hb1 hle)
      clear c1 hb1 h2
      go_wp2_with fail
      refine c2.mono ?_
      rintro e w2 ⟨rfl, hr2, hk2⟩
      have R2 := hide hr2
      have K2 := hide (K1.out.trans hk2)
      clear c2 hr2 hk2
      go_wp2
      go_ret
      refine ⟨K2.out, ?_⟩
      rw [HR2.out]
      refine ⟨rfl, at_, op, ps, ?_⟩
      rw [show ((toks.length - (toks.length - at_) : Nat) : Int) = (at_ : Int) from by omega]
      exact R2.out
    · rw [if_neg (by omega)] at hr
      cases hz : rd f .una (op + 1) (lst toks (at_ + 1)) with
      | none => rw [hz] at hr; cases hr
      | some z =>
        rw [hz] at hr
        have HRR := hide hr
        have HZ := hide hz
        unfold fvOf
        clear hr hq hz hFV HFV
        go_enter Tryd.func33, Tryd.ntmps33
        go_wp2_with fail
        refine c1.mono ?_
        rintro e w1 ⟨rfl, hb1⟩
        have c2 := open_more (HH.out.below hb1) (by omega) (by omega) hlt
        have E1 := hide (HE.out.below hb1 hle)
        have K1 := hide (Keep.of_below (R := R) hb1 hle)
        clear c1 hb1
        go_wp2_with fail
        refine c2.mono ?_
        rintro e w2 ⟨rfl, hr2, hk2⟩
        have c3 := IT (at_ + 1) (op + 1) ps fa fc w2 z (by omega) (by omega) hr2 (E1.out.keep hk2) HZ.out
        have K2 := hide (K1.out.trans hk2)
        clear c2 hr2 hk2 E1 K1
        go_wp2_with fail
        refine c3.mono ?_
        rintro e w3 ⟨hk3, hp3⟩
        have K3 := hide (K2.out.trans hk3)
        clear c3 hk3 K2
        cases z with
        | error z =>
          obtain ⟨kk, c⟩ := z
          simp only [] at hp3
          obtain ⟨rfl, at2, op2, ps2, hr3⟩ := hp3
          have R3 := hide hr3
          have HR2 : Hid (res = .error (kk, c)) := (Option.some.inj HRR.out).symm
          clear hr3
          go_wp2
          go_ret
          refine ⟨K3.out, ?_⟩
          rw [HR2.out]
          exact ⟨rfl, at2, op2, ps2, R3.out⟩
        | ok z =>
          obtain ⟨x, r⟩ := z
          simp only [] at hp3
          obtain ⟨rfl, xs, hxs, hr3⟩ := hp3
          have hpp := (rd_reads HZ.out).parts
          rw [lst_len] at hpp
          have hxl : xs.length = x.length := by rw [← hxs, List.length_map]
          obtain ⟨_, d2, d3⟩ := hr3.cells
          obtain ⟨r4, k4⟩ := hr3.shut
          have c4 := add_any r4 (by rw [List.length_append]; omega) ⟨5, k, 0, ⟨#[]⟩, ⟨#[]⟩⟩
          have HR2 : Hid (res = .ok (x ++ [opP k], r)) := (Option.some.inj HRR.out).symm
          have HXS := hide hxs
          have K4 := hide (K3.out.trans k4)
          simp only [] at c4
          have d2' : w3.cell? ⟨R, 2, none⟩ = some (.int .i64 ((op : Int) + 1)) := d2
          have i5 : (op : Int) ≤ 200 := by omega
          have i6 : (0 : Int) ≤ (op : Int) := by omega
          clear hr3 hxs hxl hpp r4 k4 d2
          go_wp2_with fail
          refine c4.mono ?_
          rintro e w5 ⟨rfl, hr5, hk5⟩
          have R5 := hide hr5
          have K5 := hide (K4.out.trans hk5)
          clear c4 hr5 hk5
          go_wp2
          go_ret
          refine ⟨K5.out, ?_⟩
          rw [HR2.out]
          refine ⟨rfl, xs ++ [⟨5, k, 0, ⟨#[]⟩, ⟨#[]⟩⟩], by rw [List.map_append, HXS.out]; rfl, ?_⟩
          rw [← List.append_assoc]
          exact R5.out
end Go.Proofs.YtkicbmjjbnblfaaDoor
