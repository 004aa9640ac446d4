/- The walk of BlockCounts. -/
import Derived.Test.YthifgfhgkdjkfaaDoorCtP
namespace Go.Proofs.YthifgfhgkdjkfaaDoor
open Go.RowKit
set_option maxRecDepth 100000 in
theorem nil_eq (g : Nat) (W : World) : (binOp .eql 22 (.slice (some ⟨g, 0, none⟩) 6 6) (.slice none 0 0)).run Tryd.prog W = .ok (.bool false) W := by rfl
set_option maxRecDepth 100000 in
theorem nil_ne (g : Nat) (W : World) : (binOp .neq 22 (.slice (some ⟨g, 0, none⟩) 6 6) (.slice none 0 0)).run Tryd.prog W = .ok (.bool true) W := by rfl
theorem ILst.opened {w : World} {a : Option Addr} {n cap : Nat} {l : List Int} (h : ILst w (.slice a n cap) l) (hl : 0 < l.length) : ∃ b off, a = some ⟨b, off, none⟩ ∧ b < w.heap.size ∧ ∀ i x, l[i]? = some x → w.cell? ⟨b, off + i, none⟩ = some (.int .i64 x) := by
  obtain ⟨a', b, off, cap', e, hA, hI⟩ := h
  injection e with e1 e2 e3
  subst e1
  exact ⟨b, off, (hA hl).2, (hA hl).1, hI⟩
theorem own_oneG (w : World) (base g : Nat) (x : Int) (hb : base ≤ w.heap.size) (hg : g = w.heap.size) : (w.alloc (.cells #[.int .i64 x] 3)).ownsRow base 3 1 (.slice (some ⟨g, 0, none⟩) 1 1) 1 (intC [x]) := by subst hg; exact own_one w base x hb
theorem make6 (u : World) : (Instr.makeSlice 22 (.int .i64 6) (.int .i64 6)).run Tryd.prog u = .ok (.slice (some ⟨u.heap.size, 0, none⟩) 6 6) (u.alloc (.cells #[.int .i64 0, .int .i64 0, .int .i64 0, .int .i64 0, .int .i64 0, .int .i64 0] 2)) := by
  obtain ⟨i0, hi, hz0, hz1, hz2⟩ := info_parts info2
  have h := run_make (P := Tryd.prog) u 22 2 i0 (.int .i64 0) Tryd.underlying22 hi hz0 .i64 .i64 6 6 (by omega) (by omega) (by rw [hz2]; decide) (by decide)
  simp only [hz1] at h
  have e : madeCells (Value.int .i64 0).cells (Int.toNat 6 * 1) = #[.int .i64 0, .int .i64 0, .int .i64 0, .int .i64 0, .int .i64 0, .int .i64 0] := by kernel_rfl
  rw [e] at h
  exact h
set_option maxRecDepth 100000 in
set_option maxHeartbeats 3200000 in
theorem counts_row (fr : Int) (sv : Value) (la : List Int) (w : World) (hS : ILst w sv la) (hg : Glo w) :
    Calls Tryd.prog 8 #[.int .i64 fr, sv] w fun e w' => e = .returned (.bool true) ∧ Below w.heap.size w w' := by
  have mw := works_any w hg
  have HG : Hid (∀ W, Below w.heap.size w W → Glo W) := fun W h => hg.below h hg.lt
  obtain ⟨aa, ab, aoff, acap, rfl, haA, haI⟩ := hS
  have HAA := hide haA
  have HAI := hide haI
  obtain ⟨n1, hn1⟩ : ∃ n, n = la.length := ⟨_, rfl⟩
  rw [← hn1]
  have HN1 := hide hn1
  obtain ⟨F, hF, eF⟩ := rem4 fr
  have F0 : (0 : Int) ≤ (F : Int) := by omega
  have F4 : (F : Int) ≤ 3 := by omega
  have HF := hide hF
  clear hg haA haI hn1 hF
  go_enter Tryd.func8, Tryd.ntmps8
  go_wp2_with (first | (go_at_call 15; refine mw.mono ?_; rintro e w1 ⟨rfl, b1⟩; have B1 := hide b1; clear b1))
  simp only [eF]
  clear eF
  go_loopw [5, 6, 7] (fun v5 su i wr => ∃ (k : Nat) (S : Int), k ≤ 100 ∧ k ≤ n1 ∧ i = .int .i64 (k : Int) ∧ su = .int .i64 S ∧ -(k : Int) ≤ S ∧ S ≤ (k : Int) ∧ Hid (S = sm (wsL la k) k ∧ wr.ownsRow w.heap.size 3 1 v5 k (intC (wsL la k)) ∧ Below w.heap.size w wr)) (fun _ _ i _ => 101 - (intOf i).toNat)
  case atStart => exact ⟨0, 0, by omega, by omega, rfl, rfl, by omega, by omega, rfl, ⟨rfl, .inl ⟨rfl, rfl⟩⟩, B1.out⟩
  case round =>
    obtain ⟨k, S, hk, hk1, rfl, rfl, s0, s1, hh⟩ := hrel
    obtain ⟨hsm, hown, hb⟩ := hh.out
    have HSM := hide hsm
    have HO := hide hown
    have HB := hide hb
    clear hh hsm hown hb
    obtain ⟨a5, cap5, rfl, hc5⟩ := owns_slice HO.out
    by_cases h1 : (k : Int) < (n1 : Int)
    · by_cases h3 : (k : Int) < 100
      · have j0 : (0 : Int) ≤ (k : Int) := by omega
        obtain ⟨x, hx⟩ : ∃ x, la[k]? = some x := ⟨_, List.getElem?_eq_getElem (by rw [← HN1.out]; omega)⟩
        obtain ⟨hab, rfl⟩ := HAA.out (by rw [← HN1.out]; omega)
        have ca := (HB.out.cell (p := ⟨ab, aoff + k, none⟩) hab).trans (HAI.out k x hx)
        obtain ⟨R, r0, r1, eR⟩ := rem_up x 3 (by decide) (by decide)
        have HR : Hid (R - 1 = s3 x) := by show _ = _; unfold s3; rw [eR]
        have HX := hide hx
        have hbw : ab < wr.heap.size := Nat.lt_of_lt_of_le hab HB.out.size
        clear hx hab
        go_wp2_with (first | (at_builtin; refine wpList_append_ints (by rfl) _ _ (by rfl) w.heap.size k _ _ (by rfl) (HO.out.alloc _) _ _ (by rfl) (ILst.lit _ _) (by simp only [List.length_cons, List.length_nil]; omega) (Nat.le_trans HB.out.size (by simp)) ?_; intro v' w3 hown3 hgr3; have HO3 := hide hown3; have HB3 := hide (below_app (blw_alloc HB.out (.cells #[.int .i64 (R - 1)] 3)) (Nat.le_trans HB.out.size (by simp)) (HO.out.alloc _) hgr3); clear hown3 hgr3))
        go_roundw
        case rel => exact ⟨k + 1, S + (R - 1), by omega, by omega, by go_num, rfl, by omega, by omega, by rw [sm_next HX.out, HSM.out, HR.out], by rw [wsL_next HX.out, intC_append, ← HR.out]; exact HO3.out, HB3.out⟩
        case measure => simp [intOf]; omega
      · have HW : Hid ((wsL la k).length = k) := wsL_len (by rw [← HN1.out]; omega)
        have HALL := hide (wsL_all la k)
        generalize wsL la k = ws at *
        have HS0 := hide (And.intro s0 s1)
        have hk100 : k ≤ 100 := hk
        have hmk := make6
        have mW : Hid (∀ W, Below w.heap.size w W → ILst W (.slice a5 k cap5) ws → Calls Tryd.prog 18 #[.int .i64 (F : Int), .slice a5 k cap5] W fun e w' => ∃ a2 cap2, e = .returned (.tuple #[.slice a2 k cap2, .int .i64 0]) ∧ ILst w' (.slice a2 k cap2) (walkL F ws) ∧ Below W.heap.size W w') := fun W hb hL => by
          refine (walk_any (F : Int) _ ws W hL (by rw [HW.out]; omega)).mono ?_
          rintro e w' ⟨v', rfl, hv, hb⟩
          have e1 : okW (F : Int) ws = true := by unfold okW; rw [isP_of HF.out, HALL.out]; rfl
          rw [e1] at hv ⊢
          simp only [if_true, Int.toNat_natCast] at hv ⊢
          obtain ⟨a2, cap2, rfl⟩ := hv.shape
          rw [walkL_length, HW.out] at hv ⊢
          exact ⟨a2, cap2, rfl, hv, hb⟩
        have HOL : Hid (ILst wr (.slice a5 k cap5) ws) := by
          have h := HO.out
          rw [← HW.out] at h ⊢
          exact ILst.of_owns h
        clear HO
        go_wp2_with (first | (go_at_call 18; refine (mW.out _ HB.out HOL.out).mono ?_; rintro e w2 ⟨a2, cap2, rfl, hv2, hb2⟩; have HV2 := hide hv2; have HB2 := hide (HB.out.trans (hb2.mono HB.out.size)); clear hv2 hb2) | (at_builtin; (refine wpList_append_ints (by rfl) _ _ (by rfl) w.heap.size 1 _ _ (by rfl) (own_oneG _ _ (w2.heap.size + 1) _ (Nat.le_trans HB2.out.size (by simp only [World.size_alloc]; omega)) (by simp)) _ (walkL F ws) (by rfl) (HV2.out.on (blw_alloc (blw_alloc (Below.refl _ _) _) _)) (by rw [walkL_length, HW.out]; omega) (Nat.le_trans HB2.out.size (by simp only [World.size_alloc]; omega)) ?_; intro v4 w4 hown4 hgr4; have HO4 := hide (ILst.owned1 hown4); have HB4 := hide (below_app (blw_alloc (blw_alloc HB2.out _) _) (Nat.le_trans HB2.out.size (by simp only [World.size_alloc]; omega)) (own_oneG _ _ (w2.heap.size + 1) _ (Nat.le_trans HB2.out.size (by simp only [World.size_alloc]; omega)) (by simp)) hgr4); have HC0 := hide ((Ob.new w2 2 #[.int .i64 0, .int .i64 0, .int .i64 0, .int .i64 0, .int .i64 0, .int .i64 0]).on (below_app (base := w2.heap.size + 1) ((Below.refl _ (w2.alloc (.cells #[.int .i64 0, .int .i64 0, .int .i64 0, .int .i64 0, .int .i64 0, .int .i64 0] 2))).alloc (by simp) _) (by simp) (own_oneG _ (w2.heap.size + 1) (w2.heap.size + 1) _ (by simp) (by simp)) hgr4) (Nat.lt_succ_self _)); have hv4 : ∃ a4 cap4, v4 = .slice a4 (k + 1) cap4 := (by obtain ⟨a, c, e⟩ := HO4.out.shape; rw [List.length_cons, walkL_length, HW.out] at e; exact ⟨a, c, e⟩); obtain ⟨a4, cap4, rfl⟩ := hv4; clear hown4 hgr4)))
        obtain ⟨b4, off4, rfl, hb4, hI4⟩ := HO4.out.opened (by simp)
        have HI4 := hide hI4
        clear HO4 hI4
        have mS : Hid (∀ j, j ≤ k → ∀ W g, Below w.heap.size w W → Ob W g 2 (intC (cS F ws j)).toArray → Calls Tryd.prog 19 #[.slice (some ⟨g, 0, none⟩) 6 6, .int .i64 ((wlk F ws j : Nat) : Int), .int .i64 0] W fun e w' => ∃ g2, e = .returned (.slice (some ⟨g2, 0, none⟩) 6 6) ∧ Ob w' g2 2 (intC (cS F ws (j + 1))).toArray ∧ W.heap.size ≤ g2 ∧ Below W.heap.size W w') := fun j hj W g hb ho => by
          obtain ⟨x0, x1, x2, v, last, e1, e2, e3, e4⟩ := cS_form HF.out HALL.out (k := j) (by rw [HW.out]; exact hj) (by rw [HW.out]; exact hk100)
          rw [e1] at ho
          have h := shown_any _ x0 x1 x2 v last false false (wlk F ws j) (wlk_lt HF.out ws j) W (ILst.of_ob ho 6 6 rfl) e2 e3 (HG.out W hb)
          rw [e4] at h
          exact h
        obtain ⟨wo, hwo⟩ : ∃ wo, wo = wr := ⟨_, rfl⟩
        subst hwo
        have HSB : Hid (-900 ≤ S ∧ S ≤ 900) := (by show _ ∧ _; have := HS0.out; omega)
        have nil1 := nil_eq
        have nil2 := nil_ne
        have mJ : Hid (∀ L : Nat, L < 4 → ∀ W g, Below w.heap.size w W → Ob W g 2 (intC (cP L false false S).ls).toArray → Calls Tryd.prog 19 #[.slice (some ⟨g, 0, none⟩) 6 6, .int .i64 (((L + 2) % 4 : Nat) : Int), .int .i64 0] W fun e w' => ∃ g2, e = .returned (.slice (some ⟨g2, 0, none⟩) 6 6) ∧ Ob w' g2 2 (intC (cP ((L + 2) % 4) false true S).ls).toArray ∧ W.heap.size ≤ g2 ∧ Below W.heap.size W w') := fun L hL W g hb ho => by
          have h := shown_any _ _ _ _ S ((L : Int) + 1) false false ((L + 2) % 4) (Nat.mod_lt _ (by decide)) W (ILst.of_ob (l := (cP L false false S).ls) ho 6 6 rfl) (dint_fits (by have := HSB.out; omega)) (int_fits (by omega)) (HG.out W hb)
          rw [cd_jump hL] at h
          exact h
        have mR : Hid (∀ L : Nat, L < 4 → ∀ W g, Below w.heap.size w W → Ob W g 2 (intC (cP ((L + 2) % 4) false true S).ls).toArray → Calls Tryd.prog 19 #[.slice (some ⟨g, 0, none⟩) 6 6, .int .i64 (L : Int), .int .i64 1] W fun e w' => ∃ g2, e = .returned (.slice (some ⟨g2, 0, none⟩) 6 6) ∧ Ob w' g2 2 (intC (cP L true false 0).ls).toArray ∧ W.heap.size ≤ g2 ∧ Below W.heap.size W w') := fun L hL W g hb ho => by
          have h := shown_any _ _ _ _ S ((((L + 2) % 4 : Nat) : Int) + 1) true true L hL W (ILst.of_ob (l := (cP ((L + 2) % 4) false true S).ls) ho 6 6 rfl) (dint_fits (by have := HSB.out; omega)) (int_fits (by omega)) (HG.out W hb)
          rw [cd_reset hL] at h
          exact h
        have k0 : (0 : Int) ≤ (k : Int) := by omega
        have k100 : (k : Int) ≤ 100 := by omega
        go_loopw [11, 12, 61] (fun c la_ i wq => ∃ (j g L : Nat), j ≤ k + 1 ∧ L < 4 ∧ i = .int .i64 (j : Int) ∧ c = .slice (some ⟨g, 0, none⟩) 6 6 ∧ la_ = .int .i64 (L : Int) ∧ Hid ((∀ m, j = m + 1 → L = wlk F ws m) ∧ Ob wq g 2 (intC (cS F ws j)).toArray ∧ Below w.heap.size w wq ∧ Below w4.heap.size w4 wq)) (fun _ _ i _ => k + 2 - (intOf i).toNat)
        case atStart => exact ⟨0, w2.heap.size, F, by omega, HF.out, rfl, rfl, rfl, fun m h => (by cases h), HC0.out, HB4.out, Below.refl _ _⟩
        case round =>
          obtain ⟨j, g, L, hj, hL, rfl, rfl, rfl, hh⟩ := hrel
          obtain ⟨hLw, ho, hbw, hb44⟩ := hh.out
          have HLW := hide hLw
          have HO5 := hide ho
          have HB5 := hide hbw
          clear hh hLw ho hbw
          by_cases hjk : j < k + 1
          · have i1 : (j : Int) < (k : Int) + 1 := by omega
            have i0 : (0 : Int) ≤ (j : Int) := by omega
            have c4 := (hb44.cell (p := ⟨b4, off4 + j, none⟩) hb4).trans (HI4.out j _ (pl_at ws (k := j) (by rw [HW.out]; omega)))
            have HB44 := hide hb44
            clear hb44 HLW
            have mS1 := mS.out j (by omega) wr g HB5.out HO5.out
            have HWL := hide (wlk_lt HF.out ws j)
            have HWK : Hid (∀ m, j + 1 = m + 1 → wlk F ws j = wlk F ws m) := fun m h => by
              obtain rfl : j = m := by omega
              rfl
            generalize wlk F ws j = pj at *
            go_wp2_with (first | (go_at_call 19; refine mS1.mono ?_; rintro e w5 ⟨g5, rfl, o5, l5, b5⟩; have O5 := hide o5; have B5 := hide b5; clear o5 l5 b5))
            go_roundw
            case rel => exact ⟨j + 1, g5, pj, by omega, HWL.out, by go_num, rfl, rfl, HWK.out, O5.out, HB5.out.trans (B5.out.mono HB5.out.size), HB44.out.trans (B5.out.mono HB44.out.size)⟩
            case measure => simp [intOf]; omega
          · have i1 : ¬ (j : Int) < (k : Int) + 1 := by omega
            obtain rfl : j = k + 1 := by omega
            have HLK : Hid (L = wlk F ws k) := HLW.out k rfl
            have HO6 : Hid (Ob wr g 2 (intC (cP L false false S).ls).toArray) := by
              rw [HLK.out, HSM.out]
              exact HO5.out
            have d3 : wr.cell? ⟨g, 3, none⟩ = some (.int .i64 S) := HO6.out.cell 3 rfl
            have d4 : wr.cell? ⟨g, 4, none⟩ = some (.int .i64 0) := HO6.out.cell 4 rfl
            have L0 : (0 : Int) ≤ (L : Int) := by omega
            have L3 : (L : Int) ≤ 3 := by omega
            obtain ⟨M, hM⟩ : ∃ M : Nat, M = (L + 2) % 4 := ⟨_, rfl⟩
            have eM : ((L : Int) + 2).tmod 4 = (M : Int) := by rw [Int.tmod_eq_emod_of_nonneg (by omega), hM]; omega
            have m1 := mJ.out L hL wr g HB5.out HO6.out
            rw [← hM] at m1
            have m2 := mR.out L hL
            rw [← hM] at m2
            have M2 := hide m2
            clear m2 hM hb44 HLW mS mJ mR
            go_wp2_with (first | (go_at_call 19; first | ((with_reducible refine m1.mono ?_); rintro e w5 ⟨g5, rfl, o5, l5, b5⟩; have O5 := hide o5; have B5 := hide (HB5.out.trans (b5.mono HB5.out.size)); clear o5 l5 b5; have e3 : w5.cell? ⟨g5, 3, none⟩ = some (.int .i64 S) := O5.out.cell 3 rfl; have e4 : w5.cell? ⟨g5, 4, none⟩ = some (.int .i64 1) := O5.out.cell 4 rfl) | ((with_reducible refine (M2.out w5 g5 B5.out O5.out).mono ?_); rintro e w6 ⟨g6, rfl, o6, l6, b6⟩; have O6 := hide o6; have B6 := hide (B5.out.trans (b6.mono B5.out.size)); clear o6 l6 b6; have f3 : w6.cell? ⟨g6, 3, none⟩ = some (.int .i64 0) := O6.out.cell 3 rfl; have f4 : w6.cell? ⟨g6, 4, none⟩ = some (.int .i64 0) := O6.out.cell 4 rfl)))
            go_ret
            exact ⟨rfl, B6.out⟩
    · have HW : Hid ((wsL la k).length = k) := wsL_len (by rw [← HN1.out]; omega)
      have HALL := hide (wsL_all la k)
      generalize wsL la k = ws at *
      have HS0 := hide (And.intro s0 s1)
      have hk100 : k ≤ 100 := hk
      have hmk := make6
      have mW : Hid (∀ W, Below w.heap.size w W → ILst W (.slice a5 k cap5) ws → Calls Tryd.prog 18 #[.int .i64 (F : Int), .slice a5 k cap5] W fun e w' => ∃ a2 cap2, e = .returned (.tuple #[.slice a2 k cap2, .int .i64 0]) ∧ ILst w' (.slice a2 k cap2) (walkL F ws) ∧ Below W.heap.size W w') := fun W hb hL => by
        refine (walk_any (F : Int) _ ws W hL (by rw [HW.out]; omega)).mono ?_
        rintro e w' ⟨v', rfl, hv, hb⟩
        have e1 : okW (F : Int) ws = true := by unfold okW; rw [isP_of HF.out, HALL.out]; rfl
        rw [e1] at hv ⊢
        simp only [if_true, Int.toNat_natCast] at hv ⊢
        obtain ⟨a2, cap2, rfl⟩ := hv.shape
        rw [walkL_length, HW.out] at hv ⊢
        exact ⟨a2, cap2, rfl, hv, hb⟩
      have HOL : Hid (ILst wr (.slice a5 k cap5) ws) := by
        have h := HO.out
        rw [← HW.out] at h ⊢
        exact ILst.of_owns h
      clear HO
      go_wp2_with (first | (go_at_call 18; refine (mW.out _ HB.out HOL.out).mono ?_; rintro e w2 ⟨a2, cap2, rfl, hv2, hb2⟩; have HV2 := hide hv2; have HB2 := hide (HB.out.trans (hb2.mono HB.out.size)); clear hv2 hb2) | (at_builtin; (refine wpList_append_ints (by rfl) _ _ (by rfl) w.heap.size 1 _ _ (by rfl) (own_oneG _ _ (w2.heap.size + 1) _ (Nat.le_trans HB2.out.size (by simp only [World.size_alloc]; omega)) (by simp)) _ (walkL F ws) (by rfl) (HV2.out.on (blw_alloc (blw_alloc (Below.refl _ _) _) _)) (by rw [walkL_length, HW.out]; omega) (Nat.le_trans HB2.out.size (by simp only [World.size_alloc]; omega)) ?_; intro v4 w4 hown4 hgr4; have HO4 := hide (ILst.owned1 hown4); have HB4 := hide (below_app (blw_alloc (blw_alloc HB2.out _) _) (Nat.le_trans HB2.out.size (by simp only [World.size_alloc]; omega)) (own_oneG _ _ (w2.heap.size + 1) _ (Nat.le_trans HB2.out.size (by simp only [World.size_alloc]; omega)) (by simp)) hgr4); have HC0 := hide ((Ob.new w2 2 #[.int .i64 0, .int .i64 0, .int .i64 0, .int .i64 0, .int .i64 0, .int .i64 0]).on (below_app (base := w2.heap.size + 1) ((Below.refl _ (w2.alloc (.cells #[.int .i64 0, .int .i64 0, .int .i64 0, .int .i64 0, .int .i64 0, .int .i64 0] 2))).alloc (by simp) _) (by simp) (own_oneG _ (w2.heap.size + 1) (w2.heap.size + 1) _ (by simp) (by simp)) hgr4) (Nat.lt_succ_self _)); have hv4 : ∃ a4 cap4, v4 = .slice a4 (k + 1) cap4 := (by obtain ⟨a, c, e⟩ := HO4.out.shape; rw [List.length_cons, walkL_length, HW.out] at e; exact ⟨a, c, e⟩); obtain ⟨a4, cap4, rfl⟩ := hv4; clear hown4 hgr4)))
      obtain ⟨b4, off4, rfl, hb4, hI4⟩ := HO4.out.opened (by simp)
      have HI4 := hide hI4
      clear HO4 hI4
      have mS : Hid (∀ j, j ≤ k → ∀ W g, Below w.heap.size w W → Ob W g 2 (intC (cS F ws j)).toArray → Calls Tryd.prog 19 #[.slice (some ⟨g, 0, none⟩) 6 6, .int .i64 ((wlk F ws j : Nat) : Int), .int .i64 0] W fun e w' => ∃ g2, e = .returned (.slice (some ⟨g2, 0, none⟩) 6 6) ∧ Ob w' g2 2 (intC (cS F ws (j + 1))).toArray ∧ W.heap.size ≤ g2 ∧ Below W.heap.size W w') := fun j hj W g hb ho => by
        obtain ⟨x0, x1, x2, v, last, e1, e2, e3, e4⟩ := cS_form HF.out HALL.out (k := j) (by rw [HW.out]; exact hj) (by rw [HW.out]; exact hk100)
        rw [e1] at ho
        have h := shown_any _ x0 x1 x2 v last false false (wlk F ws j) (wlk_lt HF.out ws j) W (ILst.of_ob ho 6 6 rfl) e2 e3 (HG.out W hb)
        rw [e4] at h
        exact h
      obtain ⟨wo, hwo⟩ : ∃ wo, wo = wr := ⟨_, rfl⟩
      subst hwo
      have HSB : Hid (-900 ≤ S ∧ S ≤ 900) := (by show _ ∧ _; have := HS0.out; omega)
      have nil1 := nil_eq
      have nil2 := nil_ne
      have mJ : Hid (∀ L : Nat, L < 4 → ∀ W g, Below w.heap.size w W → Ob W g 2 (intC (cP L false false S).ls).toArray → Calls Tryd.prog 19 #[.slice (some ⟨g, 0, none⟩) 6 6, .int .i64 (((L + 2) % 4 : Nat) : Int), .int .i64 0] W fun e w' => ∃ g2, e = .returned (.slice (some ⟨g2, 0, none⟩) 6 6) ∧ Ob w' g2 2 (intC (cP ((L + 2) % 4) false true S).ls).toArray ∧ W.heap.size ≤ g2 ∧ Below W.heap.size W w') := fun L hL W g hb ho => by
        have h := shown_any _ _ _ _ S ((L : Int) + 1) false false ((L + 2) % 4) (Nat.mod_lt _ (by decide)) W (ILst.of_ob (l := (cP L false false S).ls) ho 6 6 rfl) (dint_fits (by have := HSB.out; omega)) (int_fits (by omega)) (HG.out W hb)
        rw [cd_jump hL] at h
        exact h
      have mR : Hid (∀ L : Nat, L < 4 → ∀ W g, Below w.heap.size w W → Ob W g 2 (intC (cP ((L + 2) % 4) false true S).ls).toArray → Calls Tryd.prog 19 #[.slice (some ⟨g, 0, none⟩) 6 6, .int .i64 (L : Int), .int .i64 1] W fun e w' => ∃ g2, e = .returned (.slice (some ⟨g2, 0, none⟩) 6 6) ∧ Ob w' g2 2 (intC (cP L true false 0).ls).toArray ∧ W.heap.size ≤ g2 ∧ Below W.heap.size W w') := fun L hL W g hb ho => by
        have h := shown_any _ _ _ _ S ((((L + 2) % 4 : Nat) : Int) + 1) true true L hL W (ILst.of_ob (l := (cP ((L + 2) % 4) false true S).ls) ho 6 6 rfl) (dint_fits (by have := HSB.out; omega)) (int_fits (by omega)) (HG.out W hb)
        rw [cd_reset hL] at h
        exact h
      have k0 : (0 : Int) ≤ (k : Int) := by omega
      have k100 : (k : Int) ≤ 100 := by omega
      go_loopw [11, 12, 61] (fun c la_ i wq => ∃ (j g L : Nat), j ≤ k + 1 ∧ L < 4 ∧ i = .int .i64 (j : Int) ∧ c = .slice (some ⟨g, 0, none⟩) 6 6 ∧ la_ = .int .i64 (L : Int) ∧ Hid ((∀ m, j = m + 1 → L = wlk F ws m) ∧ Ob wq g 2 (intC (cS F ws j)).toArray ∧ Below w.heap.size w wq ∧ Below w4.heap.size w4 wq)) (fun _ _ i _ => k + 2 - (intOf i).toNat)
      case atStart => exact ⟨0, w2.heap.size, F, by omega, HF.out, rfl, rfl, rfl, fun m h => (by cases h), HC0.out, HB4.out, Below.refl _ _⟩
      case round =>
        obtain ⟨j, g, L, hj, hL, rfl, rfl, rfl, hh⟩ := hrel
        obtain ⟨hLw, ho, hbw, hb44⟩ := hh.out
        have HLW := hide hLw
        have HO5 := hide ho
        have HB5 := hide hbw
        clear hh hLw ho hbw
        by_cases hjk : j < k + 1
        · have i1 : (j : Int) < (k : Int) + 1 := by omega
          have i0 : (0 : Int) ≤ (j : Int) := by omega
          have c4 := (hb44.cell (p := ⟨b4, off4 + j, none⟩) hb4).trans (HI4.out j _ (pl_at ws (k := j) (by rw [HW.out]; omega)))
          have HB44 := hide hb44
          clear hb44 HLW
          have mS1 := mS.out j (by omega) wr g HB5.out HO5.out
          have HWL := hide (wlk_lt HF.out ws j)
          have HWK : Hid (∀ m, j + 1 = m + 1 → wlk F ws j = wlk F ws m) := fun m h => by
            obtain rfl : j = m := by omega
            rfl
          generalize wlk F ws j = pj at *
          go_wp2_with (first | (go_at_call 19; refine mS1.mono ?_; rintro e w5 ⟨g5, rfl, o5, l5, b5⟩; have O5 := hide o5; have B5 := hide b5; clear o5 l5 b5))
          go_roundw
          case rel => exact ⟨j + 1, g5, pj, by omega, HWL.out, by go_num, rfl, rfl, HWK.out, O5.out, HB5.out.trans (B5.out.mono HB5.out.size), HB44.out.trans (B5.out.mono HB44.out.size)⟩
          case measure => simp [intOf]; omega
        · have i1 : ¬ (j : Int) < (k : Int) + 1 := by omega
          obtain rfl : j = k + 1 := by omega
          have HLK : Hid (L = wlk F ws k) := HLW.out k rfl
          have HO6 : Hid (Ob wr g 2 (intC (cP L false false S).ls).toArray) := by
            rw [HLK.out, HSM.out]
            exact HO5.out
          have d3 : wr.cell? ⟨g, 3, none⟩ = some (.int .i64 S) := HO6.out.cell 3 rfl
          have d4 : wr.cell? ⟨g, 4, none⟩ = some (.int .i64 0) := HO6.out.cell 4 rfl
          have L0 : (0 : Int) ≤ (L : Int) := by omega
          have L3 : (L : Int) ≤ 3 := by omega
          obtain ⟨M, hM⟩ : ∃ M : Nat, M = (L + 2) % 4 := ⟨_, rfl⟩
          have eM : ((L : Int) + 2).tmod 4 = (M : Int) := by rw [Int.tmod_eq_emod_of_nonneg (by omega), hM]; omega
          have m1 := mJ.out L hL wr g HB5.out HO6.out
          rw [← hM] at m1
          have m2 := mR.out L hL
          rw [← hM] at m2
          have M2 := hide m2
          clear m2 hM hb44 HLW mS mJ mR
          go_wp2_with (first | (go_at_call 19; first | ((with_reducible refine m1.mono ?_); rintro e w5 ⟨g5, rfl, o5, l5, b5⟩; have O5 := hide o5; have B5 := hide (HB5.out.trans (b5.mono HB5.out.size)); clear o5 l5 b5; have e3 : w5.cell? ⟨g5, 3, none⟩ = some (.int .i64 S) := O5.out.cell 3 rfl; have e4 : w5.cell? ⟨g5, 4, none⟩ = some (.int .i64 1) := O5.out.cell 4 rfl) | ((with_reducible refine (M2.out w5 g5 B5.out O5.out).mono ?_); rintro e w6 ⟨g6, rfl, o6, l6, b6⟩; have O6 := hide o6; have B6 := hide (B5.out.trans (b6.mono B5.out.size)); clear o6 l6 b6; have f3 : w6.cell? ⟨g6, 3, none⟩ = some (.int .i64 0) := O6.out.cell 3 rfl; have f4 : w6.cell? ⟨g6, 4, none⟩ = some (.int .i64 0) := O6.out.cell 4 rfl)))
          go_ret
          exact ⟨rfl, B6.out⟩
end Go.Proofs.YthifgfhgkdjkfaaDoor
