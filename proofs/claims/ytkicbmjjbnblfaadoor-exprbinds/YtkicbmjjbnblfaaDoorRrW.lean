/- The contract of the rows' closure, by the plain reader's turns. -/
import Derived.Test.YtkicbmjjbnblfaaDoorRuW
namespace Go.Proofs.YtkicbmjjbnblfaaDoor
open Go.RowKit
/-- what was read ahead, and then -/
def glue (x : List Pt) : Res → Res
  | .ok (y, r) => .ok (x ++ y, r)
  | .error e => .error e
theorem row_split {f n op : Nat} {l : List Tk} {res : Res} (hn : n < 7) (h : rd (f + 1) (.row n) op l = some res) : (∃ e, rd f (.row (n + 1)) op l = some (.error e) ∧ res = .error e) ∨ ∃ x r z, rd f (.row (n + 1)) op l = some (.ok (x, r)) ∧ rd f (.loop n) op r = some z ∧ res = glue x z := by
  unfold rd at h
  rw [if_neg (by omega)] at h
  cases h1 : rd f (.row (n + 1)) op l with
  | none => rw [h1] at h; cases h
  | some z =>
    rw [h1] at h
    cases z with
    | error e => exact .inl ⟨e, rfl, (Option.some.inj h).symm⟩
    | ok z =>
      obtain ⟨x, r⟩ := z
      simp only [] at h
      cases h2 : rd f (.loop n) op r with
      | none => rw [h2] at h; cases h
      | some z =>
        rw [h2] at h
        cases z with
        | error e => exact .inr ⟨x, r, .error e, rfl, h2, (Option.some.inj h).symm⟩
        | ok z =>
          obtain ⟨y, r'⟩ := z
          exact .inr ⟨x, r, .ok (y, r'), rfl, h2, (Option.some.inj h).symm⟩
theorem loop_none {g n op i : Nat} {toks : List Tv} {z : Res} (hn : n < 7) (h : rd g (.loop n) op (lst toks i) = some z) (ho : opRow (n : Int) (tokAt toks i) = none) : z = .ok ([], lst toks i) := by
  cases g with
  | zero => cases h
  | succ g =>
    rcases Nat.lt_or_ge i toks.length with hlt | hge
    · rw [lst_cons hlt] at h ⊢
      unfold rd at h
      simp only [] at h
      rw [opIn_row n hn, ho] at h
      exact (Option.some.inj h).symm
    · rw [lst_nil hge] at h ⊢
      exact (Option.some.inj h).symm
theorem loop_some {g n op i : Nat} {toks : List Tv} {z : Res} {k : Int} (hn : n < 7) (hlt : i < toks.length) (h : rd g (.loop n) op (lst toks i) = some z) (ho : opRow (n : Int) (tokAt toks i) = some k) : ∃ g', g = g' + 1 ∧ ((∃ e, rd g' (.row (n + 1)) op (lst toks (i + 1)) = some (.error e) ∧ z = .error e) ∨ ∃ x r z', rd g' (.row (n + 1)) op (lst toks (i + 1)) = some (.ok (x, r)) ∧ rd g' (.loop n) op r = some z' ∧ z = glue (x ++ [opP k]) z') := by
  cases g with
  | zero => cases h
  | succ g =>
    refine ⟨g, rfl, ?_⟩
    rw [lst_cons hlt] at h
    unfold rd at h
    simp only [] at h
    rw [opIn_row n hn, ho] at h
    simp only [] at h
    cases h1 : rd g (.row (n + 1)) op (lst toks (i + 1)) with
    | none => rw [h1] at h; cases h
    | some y =>
      rw [h1] at h
      cases y with
      | error e => exact .inl ⟨e, rfl, (Option.some.inj h).symm⟩
      | ok y =>
        obtain ⟨x, r⟩ := y
        simp only [] at h
        cases h2 : rd g (.loop n) op r with
        | none => rw [h2] at h; cases h
        | some z' =>
          rw [h2] at h
          cases z' with
          | error e => exact .inr ⟨x, r, .error e, rfl, h2, (Option.some.inj h).symm⟩
          | ok z' =>
            obtain ⟨y, r'⟩ := z'
            refine .inr ⟨x, r, .ok (y, r'), rfl, h2, ?_⟩
            rw [← Option.some.inj h]
            show _ = Except.ok (x ++ [opP k] ++ y, r')
            rw [List.append_assoc]; rfl
theorem glue_glue (x y : List Pt) (z : Res) : glue x (glue y z) = glue (x ++ y) z := by
  cases z with
  | error e => rfl
  | ok z => obtain ⟨a, r⟩ := z; show Except.ok (x ++ (y ++ a), r) = Except.ok (x ++ y ++ a, r); rw [List.append_assoc]
/-- how many tokens are left, by the reader's own memory -/
def left (R n : Nat) (w : World) : Nat := match w.cell? ⟨R, 1, none⟩ with
  | some (.int _ a) => n - a.toNat
  | _ => 0
theorem left_of {B R : Nat} {tv : Value} {toks : List Tv} {at_ op : Nat} {ps : List Pv} {fa fc : Int} {w : World} (h : RS B R tv toks at_ op ps fa fc w) (n : Nat) : left R n w = n - at_ := by
  unfold left
  rw [h.cells.1]
  simp
set_option maxRecDepth 100000 in
set_option maxHeartbeats 3200000 in
theorem row_ok {B R P1 P2 : Nat} {tv : Value} {toks : List Tv} {f : Nat} (IH : ∀ g, g ≤ f → RowOk B R P1 P2 tv toks g) (IT : TopOk B R P1 P2 tv toks f) (hl : toks.length ≤ 3000000000000) : RowOk B R P1 P2 tv toks (f + 1) := by
  intro n at_ op ps fa fc w res hn ho hp h he hr
  by_cases h7 : n = 7
  · subst h7
    have hr' : rd f .una op (lst toks at_) = some res := by
      unfold rd at hr
      rw [if_pos (by omega)] at hr
      exact hr
    exact IT at_ op ps fa fc w res ho hp h he hr'
  have hn7 : n < 7 := by omega
  have hle := h.le
  have e1 := he.c1
  have e2 := he.c2
  have hB := h.hB
  have q7 : ((n : Int) == 7) = false := by rw [beq_eq_false_iff_ne]; omega
  have n6 : (n : Int) ≤ 6 := by omega
  have n0 : (0 : Int) ≤ (n : Int) := by omega
  have hhere := h.here
  have HE := hide he
  have hIH := IH f (Nat.le_refl _)
  have hc : ∀ (g at2 : Nat) (ps2 : List Pv) (W : World) (z : Res), g ≤ f → ps2.length ≤ at2 → RS B R tv toks at2 op ps2 fa fc W → Env B R P1 P2 W → rd g (.row (n + 1)) op (lst toks at2) = some z → Calls Tryd.prog 32 #[.int .i64 ((n : Int) + 1), .pointer (some ⟨P1, 0, none⟩), .pointer (some ⟨P2, 0, none⟩)] W (PostR B R tv toks op ps2 fa fc z W) := fun g at2 ps2 W z hg hp2 h2 he2 hr2 => by
    have := IH g hg (n + 1) at2 op ps2 fa fc W z (by omega) ho hp2 h2 he2 hr2
    rw [show ((n + 1 : Nat) : Int) = (n : Int) + 1 from by omega] at this
    exact this
  have HC := hide hc
  unfold fvOf at e2
  rcases row_split hn7 hr with ⟨er, hr1, rfl⟩ | ⟨x, r, z, hr1, hr2, hres⟩
  · have c1 := hc f at_ ps w (.error er) (Nat.le_refl _) hp h he hr1
    obtain ⟨kk, c⟩ := er
    clear h he hr hr1 hc hIH IH
    go_enter Tryd.func32, Tryd.ntmps32
    go_wp2_with fail
    refine c1.mono ?_
    rintro e w1 ⟨hk1, rfl, hp1⟩
    have K1 := hide hk1
    have P1' := hide hp1
    clear c1 hk1 hp1
    go_wp2
    go_ret
    exact ⟨K1.out, rfl, P1'.out⟩
  · have c1 := hc f at_ ps w (.ok (x, r)) (Nat.le_refl _) hp h he hr1
    obtain ⟨hrest, hrl⟩ := rest_lst hr1 hhere
    have hpp := (rd_reads hr1).parts
    rw [lst_len] at hpp
    have HR1 := hide hr1
    have HRES := hide hres
    have HR2 := hide hr2
    clear h he hr hr1 hc hIH IH hr2 hres
    go_enter Tryd.func32, Tryd.ntmps32
    go_wp2_with fail
    refine c1.mono ?_
    rintro e w1 ⟨hk1, rfl, xs, hxs, hr1⟩
    have hxl : xs.length = x.length := by rw [← hxs, List.length_map]
    have HS : Hid (∃ (g at2 : Nat) (ys : List Pv) (z' : Res), g ≤ f ∧ at2 ≤ toks.length ∧ (ps ++ ys).length ≤ at2 ∧ RS B R tv toks at2 op (ps ++ ys) fa fc w1 ∧ Keep B R w w1 ∧ rd g (.loop n) op (lst toks at2) = some z' ∧ res = glue (ys.map ptV) z') :=
      ⟨f, toks.length - r.length, xs, z, Nat.le_refl _, by omega, by rw [List.length_append]; omega, hr1, hk1, by rw [← hrest]; exact HR2.out, by rw [hxs]; exact HRES.out⟩
    clear c1 hk1 hxs hr1 hxl hpp hrest hrl HRES HR2 HR1
    go_wp2_with fail
    go_loopw [5] (fun _ wr => Hid (∃ (g at2 : Nat) (ys : List Pv) (z' : Res), g ≤ f ∧ at2 ≤ toks.length ∧ (ps ++ ys).length ≤ at2 ∧ RS B R tv toks at2 op (ps ++ ys) fa fc wr ∧ Keep B R w wr ∧ rd g (.loop n) op (lst toks at2) = some z' ∧ res = glue (ys.map ptV) z')) (fun _ wr => left R toks.length wr)
    case atStart => exact HS.out
    case round =>
      clear HS
      obtain ⟨g, at2, ys, z', hg, hat, hpy, hrs, hkw, hrd, hres⟩ := hrel.out
      clear hrel
      have E2 := HE.out.keep hkw
      have s1 := E2.c1
      have s2 := E2.c2
      unfold fvOf at s2
      have c2 := operation_any hrs (by omega) (n : Int) E2.glo.ops
      have hle2 := hrs.le
      have RR := hide hrs
      have KW := hide hkw
      have EE := hide E2
      have HRD := hide hrd
      have HRES := hide hres
      clear hrs hkw E2 hrd hres e1 e2
      cases hq : opRow (n : Int) (tokAt toks at2) with
      | none =>
        rw [hq] at c2
        have HZ := hide (loop_none hn7 HRD.out hq)
        unfold opOut at c2
        simp only [] at c2
        clear hq
        go_wp2_with fail
        refine c2.mono ?_
        rintro e w2 ⟨rfl, hb2⟩
        have R2 := hide (RR.out.below hb2)
        have K2 := hide (KW.out.trans (Keep.of_below (R := R) hb2 hle2))
        clear c2 hb2
        go_wp2
        go_ret
        refine ⟨K2.out, ?_⟩
        rw [HRES.out, HZ.out]
        show _ ∧ _
        refine ⟨rfl, ys, by rw [List.append_nil], ?_⟩
        rw [lst_len, show toks.length - (toks.length - at2) = at2 from by omega]
        exact R2.out
      | some k =>
        rw [hq] at c2
        have hlt : at2 < toks.length := by
          rcases Nat.lt_or_ge at2 toks.length with h | h
          · exact h
          · rw [tok_none h, none_row] at hq
            cases hq
        obtain ⟨g', rfl, hcase⟩ := loop_some hn7 hlt HRD.out hq
        unfold opOut at c2
        simp only [] at c2
        have HCASE := hide hcase
        have i3 : (at2 : Int) ≤ 3000000000000 := by omega
        have i4 : (0 : Int) ≤ (at2 : Int) := by omega
        have HLEFT := hide (left_of RR.out toks.length)
        clear hq hcase HRD
        go_wp2_with fail
        refine c2.mono ?_
        rintro e w2 ⟨rfl, hb2⟩
        have r2 := RR.out.below hb2
        have k2 := Keep.of_below (R := R) hb2 hle2
        obtain ⟨d1, _, d3⟩ := r2.cells
        obtain ⟨r3, k3⟩ := r2.step hlt
        have E3 := (EE.out.keep k2).keep k3
        have E2' := EE.out.keep k2
        have t1 := E2'.c1
        have t2 := E2'.c2
        unfold fvOf at t2
        have hRP1 := E2'.n1
        have hRP2 := E2'.n2
        have K3 := hide (KW.out.trans (k2.trans k3))
        have R3 := hide r3
        have HE3 := hide E3
        clear c2 hb2 r2 k2 r3 k3 E3 E2' s1 s2
        rcases HCASE.out with ⟨er, hr1, hz⟩ | ⟨x2, r2, z2, hr1, hr2, hz⟩
        · obtain ⟨kk, c⟩ := er
          have c3 := HC.out g' (at2 + 1) (ps ++ ys) _ (.error (kk, c)) (by omega) (by omega) R3.out HE3.out hr1
          have HZ := hide hz
          clear hr1 hz HCASE
          go_wp2_with fail
          refine c3.mono ?_
          rintro e w3 ⟨hk3, rfl, hp3⟩
          have K4 := hide (K3.out.trans hk3)
          have P3 := hide hp3
          clear c3 hk3 hp3
          go_wp2
          go_ret
          refine ⟨K4.out, ?_⟩
          rw [HRES.out, HZ.out]
          exact ⟨rfl, P3.out⟩
        · have c3 := HC.out g' (at2 + 1) (ps ++ ys) _ (.ok (x2, r2)) (by omega) (by omega) R3.out HE3.out hr1
          obtain ⟨hrest, hrl⟩ := rest_lst hr1 (by omega)
          have hpp := (rd_reads hr1).parts
          rw [lst_len] at hpp
          have HZ := hide hz
          have HR2 := hide hr2
          clear hr1 hz HCASE hr2
          go_wp2_with fail
          refine c3.mono ?_
          rintro e w3 ⟨hk3, rfl, xs2, hxs2, hr3⟩
          have hxl : xs2.length = x2.length := by rw [← hxs2, List.length_map]
          have E4 := HE3.out.keep hk3
          have u1 := E4.c1
          have c4 := add_any hr3 (by rw [List.length_append]; omega) ⟨5, k, 0, ⟨#[]⟩, ⟨#[]⟩⟩
          simp only [] at c4
          have K4 := hide (K3.out.trans hk3)
          have HXS := hide hxs2
          clear c3 hk3 hxs2 hr3 E4 t1 t2
          go_wp2_with fail
          refine c4.mono ?_
          rintro e w4 ⟨rfl, hr4, hk4⟩
          have HL4 := hide (left_of hr4 toks.length)
          have HNEW : Hid (∃ (g at2 : Nat) (ys : List Pv) (z' : Res), g ≤ f ∧ at2 ≤ toks.length ∧ (ps ++ ys).length ≤ at2 ∧ RS B R tv toks at2 op (ps ++ ys) fa fc w4 ∧ Keep B R w w4 ∧ rd g (.loop n) op (lst toks at2) = some z' ∧ res = glue (ys.map ptV) z') := by
            refine ⟨g', toks.length - r2.length, ys ++ (xs2 ++ [⟨5, k, 0, ⟨#[]⟩, ⟨#[]⟩⟩]), z2, by omega, by omega, ?_, ?_, K4.out.trans hk4, by rw [← hrest]; exact HR2.out, ?_⟩
            · rw [List.length_append] at hpy ⊢
              rw [List.length_append, List.length_append]
              simp only [List.length_cons, List.length_nil]
              omega
            · rw [← List.append_assoc, ← List.append_assoc]
              exact hr4
            · rw [HRES.out, HZ.out, glue_glue, List.map_append, List.map_append, HXS.out]; rfl
          have HM : Hid (left R toks.length w4 < toks.length - at2) := by
            show _ < _
            rw [HL4.out]
            omega
          clear c4 hr4 hk4 hxl hpp hrest hrl
          go_wp2
          go_roundw
          case rel => exact HNEW.out
          case measure =>
            have h1 := HM.out
            have h2 := HLEFT.out
            omega
/-- the reader does what the plain reader does -/
theorem reader_ok {B R P1 P2 : Nat} {tv : Value} {toks : List Tv} (HFD : FieldOk B R tv toks) (hl : toks.length ≤ 3000000000000) : ∀ f, (∀ g, g ≤ f → RowOk B R P1 P2 tv toks g) ∧ UnaOk B R P1 P2 tv toks f ∧ PriOk B R P1 P2 tv toks f
  | 0 => by
    refine ⟨fun g hg => ?_, ?_, ?_⟩
    · obtain rfl : g = 0 := by omega
      intro n at_ op ps fa fc w res _ _ _ _ _ hr
      cases hr
    · intro at_ op ps fa fc w res _ _ _ _ hr
      cases hr
    · intro at_ op ps fa fc w res _ _ _ _ hr
      cases hr
  | f + 1 => by
    obtain ⟨h1, h2, h3⟩ := reader_ok HFD hl f
    refine ⟨fun g hg => ?_, una_ok h3 (top_ok h2) hl, pri_ok (h1 f (Nat.le_refl _)) HFD hl⟩
    rcases Nat.lt_or_ge g (f + 1) with h | h
    · exact h1 g (by omega)
    · obtain rfl : g = f + 1 := by omega
      exact row_ok h1 (top_ok h2) hl
end Go.Proofs.YtkicbmjjbnblfaaDoor
