/- The document's same. | The document's Fields. | The document's block. -/
import Derived.Test.YtlckedionmgjjaaDoorMg10
import Derived.Deep.QuietTactic
import Derived.BigQuiet
import Derived.Test.YtlckedionmgjjaaDoorMg1
namespace Go.Proofs.YtlckedionmgjjaaDoor
open Go.RowKit
/-- so many cells from one on, all of its type -/
def smB (ty : List Int) (a m : Int) : Bool := fromB ty.length a m && ((ty.drop a.toNat).take m.toNat).all fun t => t == ty.getD a.toNat 0
theorem from_iff (n : Nat) (a m : Int) : fromB n a m = true ↔ 0 ≤ a ∧ a < (n : Int) ∧ m ≤ (n : Int) - a := by
  unfold fromB inB
  simp only [Bool.and_eq_true, decide_eq_true_eq]
  exact ⟨fun h => ⟨h.1.1, h.1.2, h.2⟩, fun h => ⟨⟨h.1, h.2.1⟩, h.2.2⟩⟩
theorem drewN_add (w : World) (a b : Nat) : (w.drewN a).drewN b = w.drewN (a + b) := by simp only [World.drewN, Nat.add_assoc]
set_option maxRecDepth 100000 in
set_option maxHeartbeats 3200000 in
theorem same13_any (nm ta fv iv ov cv : Value) (ty : List Int) (a m : Int) (w : World) (hT : ILst w ta ty) (hn : ty.length ≤ 1024) (hm1 : 1 ≤ m) (hm : m ≤ 32) : Calls Tryd.prog 64 #[.agg #[nm, ta, fv, iv, ov, cv], .int .i64 a, .int .i64 m] w fun e w' => e = .returned (.bool (smB ty a m)) ∧ Below w.heap.size w w' := by
  have HB1 : Hid (∀ A k, Below w.heap.size w ((w.alloc A).drewN k)) := fun A k => below_drewN ((Below.refl _ _).alloc (Nat.le_refl _) _) k
  have E : Hid (smB ty a m = (fromB ty.length a m && ((ty.drop a.toNat).take m.toNat).all fun t => t == ty.getD a.toNat 0)) := rfl
  obtain ⟨aa, ab, aoff, acap, rfl, hA, hI⟩ := hT
  have n1 : (ty.length : Int) ≤ 1024 := by omega
  by_cases h1 : 0 ≤ a
  · have d1 : decide (a < 0) = false := decide_eq_false (by omega)
    by_cases h2 : a < (ty.length : Int)
    · have d2 : decide ((ty.length : Int) ≤ a) = false := decide_eq_false (by omega)
      by_cases h3 : m ≤ (ty.length : Int) - a
      · have d3 : decide ((ty.length : Int) - a < m) = false := decide_eq_false (by omega)
        obtain ⟨p, rfl⟩ : ∃ p : Nat, a = (p : Int) := ⟨a.toNat, by omega⟩
        obtain ⟨q, rfl⟩ : ∃ q : Nat, m = (q : Int) := ⟨m.toNat, by omega⟩
        have HE : Hid (smB ty (p : Int) (q : Int) = ((ty.drop p).take q).all fun t => t == ty.getD p 0) := by
          show _ = _
          rw [E.out, (from_iff _ _ _).2 ⟨h1, h2, h3⟩]; rfl
        obtain ⟨T0, hT0⟩ : ∃ T0, ty[p]? = some T0 := ⟨_, List.getElem?_eq_getElem (by omega)⟩
        have hD : ty.getD p 0 = T0 := by rw [List.getD_eq_getElem?_getD, hT0]; rfl
        rw [hD] at HE
        obtain ⟨hab, rfl⟩ := hA (by omega)
        have ALL : ∀ A o, (w.alloc A).cell? ⟨ab, o, none⟩ = w.cell? ⟨ab, o, none⟩ := fun A o => World.cell?_alloc_lt _ _ ⟨ab, o, none⟩ hab
        have cT := hI p T0 hT0
        have HG : Hid (∀ k, k < q → ∃ x, ((ty.drop p).take q)[k]? = some x ∧ w.cell? ⟨ab, aoff + (p + k), none⟩ = some (.int .i64 x)) := fun k hk => by
          obtain ⟨x, hx⟩ : ∃ x, ty[p + k]? = some x := ⟨_, List.getElem?_eq_getElem (by omega)⟩
          exact ⟨x, by rw [arr_get hk]; exact hx, hI _ _ hx⟩
        have HQ : Hid (((ty.drop p).take q).take q = (ty.drop p).take q) := by show _ = _; rw [List.take_take, Nat.min_self]
        have HAL := hide ALL
        have HCT := hide cT
        clear E hA hI hD hT0 ALL cT
        generalize (ty.drop p).take q = L at *
        generalize ty.length = N at *
        have q0 : (0 : Int) ≤ (q : Int) := by omega
        go_enter Tryd.func64, Tryd.ntmps64
        go_wp2_with fail
        obtain ⟨W0, hW0⟩ : ∃ W0, W0 = w.alloc (.cells #[nm, .slice (some ⟨ab, aoff, none⟩) N acap, fv, iv, ov, cv] 26) := ⟨_, rfl⟩
        have c1 : W0.cell? ⟨w.heap.size, 1, none⟩ = some (.slice (some ⟨ab, aoff, none⟩) N acap) := by rw [hW0]; exact (Lib.cell_of_heap (j := 1) (heap_alloc_new w _)).trans rfl
        have cT : W0.cell? ⟨ab, aoff + p, none⟩ = some (.int .i64 T0) := by rw [hW0, HAL.out]; exact HCT.out
        have HG2 : Hid (∀ k, k < q → ∃ x, L[k]? = some x ∧ W0.cell? ⟨ab, aoff + (p + k), none⟩ = some (.int .i64 x)) := fun k hk => by
          obtain ⟨x, hx, hc⟩ := HG.out k hk
          exact ⟨x, hx, by rw [hW0, HAL.out]; exact hc⟩
        have BW : Hid (∀ k, Below w.heap.size w (W0.drewN k)) := fun k => by rw [hW0]; exact HB1.out _ k
        rw [← hW0]
        clear hW0 HG HAL HCT HB1
        go_loopw [7] (fun i wr => ∃ k : Nat, k ≤ q ∧ i = .int .i64 ((p + k : Nat) : Int) ∧ Hid ((L.take k).all (fun t => t == T0) = true ∧ ∃ d, wr = W0.drewN d)) (fun i _ => p + q - (intOf i).toNat)
        case atStart => exact ⟨0, by omega, by go_num, rfl, 0, rfl⟩
        case round =>
          obtain ⟨k, hk, rfl, hh⟩ := hrel
          obtain ⟨ha, d, rfl⟩ := hh.out
          have HA := hide ha
          clear hh ha
          obtain ⟨r, hr⟩ : ∃ r, r = p + k := ⟨_, rfl⟩
          have HR0 := hide hr
          by_cases hlt : k < q
          · have j1 : (r : Int) < (p : Int) + (q : Int) := by omega
            have j2 : (0 : Int) ≤ (r : Int) := by omega
            have j3 : (r : Int) < (N : Int) := by omega
            obtain ⟨x, hx, hcx⟩ := HG2.out k hlt
            rw [← hr] at hcx ⊢
            by_cases he : x = T0
            · have HR := hide (all_next HA.out hx he)
              have hb : (x == T0) = true := by simpa using he
              subst he
              clear hx hr
              go_wp2_with fail
              go_quiet (fail)
              go_wp2
              go_roundw
              case rel => exact ⟨k + 1, by omega, by rw [HR0.out]; go_num, HR.out, _, rfl⟩
              case measure => simp [intOf]; omega
            · have HR := hide (all_fail hx he)
              have hb : (x == T0) = false := by simpa using he
              have hb2 : ¬ x = T0 := he
              clear hx hr
              go_wp2_with fail
              go_quiet (fail)
              go_wp2
              go_ret
              exact ⟨ret_b (by rw [HE.out, HR.out]), below_drewN (BW.out _) _⟩
          · have HR : Hid (L.all (fun t => t == T0) = true) := by
              have h := HA.out
              rw [show k = q by omega, HQ.out] at h
              exact h
            have j1 : ¬ (r : Int) < (p : Int) + (q : Int) := by omega
            rw [← hr]
            clear hr
            go_wp2
            go_ret
            exact ⟨ret_b (by rw [HE.out, HR.out]), BW.out _⟩
      · have d3 : decide ((ty.length : Int) - a < m) = true := decide_eq_true (by omega)
        have HE : Hid (smB ty a m = false) := by
          show _ = _
          rw [E.out]
          cases hf : fromB ty.length a m with
          | true => exact absurd ((from_iff _ _ _).1 hf).2.2 h3
          | false => rfl
        clear E hA hI
        generalize ty.length = N at *
        go_enter Tryd.func64, Tryd.ntmps64
        go_wp2
        go_ret
        exact ⟨ret_b HE.out.symm, HB1.out _ 0⟩
    · have d2 : decide ((ty.length : Int) ≤ a) = true := decide_eq_true (by omega)
      have HE : Hid (smB ty a m = false) := by
        show _ = _
        rw [E.out]
        cases hf : fromB ty.length a m with
        | true => exact absurd ((from_iff _ _ _).1 hf).2.1 h2
        | false => rfl
      clear E hA hI
      generalize ty.length = N at *
      go_enter Tryd.func64, Tryd.ntmps64
      go_wp2
      go_ret
      exact ⟨ret_b HE.out.symm, HB1.out _ 0⟩
  · have d1 : decide (a < 0) = true := decide_eq_true (by omega)
    have HE : Hid (smB ty a m = false) := by
      show _ = _
      rw [E.out]
      cases hf : fromB ty.length a m with
      | true => exact absurd ((from_iff _ _ _).1 hf).1 h1
      | false => rfl
    clear E hA hI
    generalize ty.length = N at *
    go_enter Tryd.func64, Tryd.ntmps64
    go_wp2
    go_ret
    exact ⟨ret_b HE.out.symm, HB1.out _ 0⟩
end Go.Proofs.YtlckedionmgjjaaDoor
namespace Go.Proofs.YtlckedionmgjjaaDoor
open Go.RowKit
set_option maxRecDepth 100000 in
set_option maxHeartbeats 3200000 in
theorem rfields_ok (k : Int) (h : 1 ≤ k ∧ k ≤ 10) (w : World) : Calls Tryd.prog 81 #[.int .i64 k] w fun e w' => (∃ v, e = .returned (.tuple #[v, .int .i64 0]) ∧ FLst w' v (fldK k)) ∧ Below w.heap.size w w' := by
  have hk : k = 1 ∨ k = 2 ∨ k = 3 ∨ k = 4 ∨ k = 5 ∨ k = 6 ∨ k = 7 ∨ k = 8 ∨ k = 9 ∨ k = 10 := by omega
  clear h
  rcases hk with rfl | rfl | rfl | rfl | rfl | rfl | rfl | rfl | rfl | rfl
  all_goals
    go_enter Tryd.func81, Tryd.ntmps81
    go_wp2
    go_ret2
    refine ⟨⟨_, rfl, ?_⟩, (Below.refl w.heap.size w).alloc (Nat.le_refl _) _⟩
    refine FLst.new w _ 116 _ ?_ _ ?_
    · rfl
    · simp [rowsOk, fldK]
set_option maxRecDepth 100000 in
set_option maxHeartbeats 3200000 in
theorem rfields_no (k : Int) (h : ¬ (1 ≤ k ∧ k ≤ 10)) (w : World) : Calls Tryd.prog 81 #[.int .i64 k] w fun e w' => e = .returned (.tuple #[.slice none 0 0, .int .i64 92]) ∧ w' = w := by
  have h1 : (k == 1) = false := by rw [beq_eq_false_iff_ne]; omega
  have h2 : (k == 2) = false := by rw [beq_eq_false_iff_ne]; omega
  have h3 : (k == 3) = false := by rw [beq_eq_false_iff_ne]; omega
  have h4 : (k == 4) = false := by rw [beq_eq_false_iff_ne]; omega
  have h5 : (k == 5) = false := by rw [beq_eq_false_iff_ne]; omega
  have h6 : (k == 6) = false := by rw [beq_eq_false_iff_ne]; omega
  have h7 : (k == 7) = false := by rw [beq_eq_false_iff_ne]; omega
  have h8 : (k == 8) = false := by rw [beq_eq_false_iff_ne]; omega
  have h9 : (k == 9) = false := by rw [beq_eq_false_iff_ne]; omega
  have h10 : (k == 10) = false := by rw [beq_eq_false_iff_ne]; omega
  clear h
  go_enter Tryd.func81, Tryd.ntmps81
  go_wp2
  go_ret2
  exact ⟨rfl, rfl⟩
end Go.Proofs.YtlckedionmgjjaaDoor
namespace Go.Proofs.YtlckedionmgjjaaDoor
open Go.RowKit
theorem fld_next {l : List Int} {F : List (Int × Bool)} {k : Nat} {x : Int} {r : Int × Bool} (h : l.take k = (F.map Prod.fst).take k) (hx : l[k]? = some x) (hr : F[k]? = some r) (e : x = r.1) : l.take (k + 1) = (F.map Prod.fst).take (k + 1) := by
  rw [List.take_add_one, List.take_add_one, h, hx, List.getElem?_map, hr, e]; rfl
theorem fld_fail {l : List Int} {F : List (Int × Bool)} {k : Nat} {x : Int} {r : Int × Bool} (hx : l[k]? = some x) (hr : F[k]? = some r) (e : x ≠ r.1) : (l == F.map Prod.fst) = false := by
  rw [beq_eq_false_iff_ne]
  intro h
  rw [h, List.getElem?_map, hr] at hx
  exact e (Option.some.inj hx).symm
set_option maxRecDepth 100000 in
set_option maxHeartbeats 3200000 in
theorem block13_any (nm ta fv iv ov cv : Value) (ty : List Int) (kd a : Int) (w : World) (hT : ILst w ta ty) (hn : ty.length ≤ 1024) : Calls Tryd.prog 66 #[.agg #[nm, ta, fv, iv, ov, cv], .int .i64 kd, .int .i64 a] w fun e w' => e = .returned (.bool (blkB ty kd a)) ∧ Below w.heap.size w w' := by
  have HB1 : Hid (∀ A, Below w.heap.size w (w.alloc A)) := fun A => (Below.refl _ _).alloc (Nat.le_refl _) _
  have E : Hid (blkB ty kd a = (kindOk kd && (fromB ty.length a ((fldK kd).length : Int) && ((ty.drop a.toNat).take (fldK kd).length == fldT kd)))) := rfl
  obtain ⟨aa, ab, aoff, acap, rfl, hA, hI⟩ := hT
  have n1 : (ty.length : Int) ≤ 1024 := by omega
  by_cases hk : 1 ≤ kd ∧ kd ≤ 10
  · have m1 := hide (fun W => rfields_ok kd hk W)
    have hkk : kindOk kd = true := (kindOk_iff kd).2 hk
    have hlF : 1 ≤ (fldK kd).length ∧ (fldK kd).length ≤ 100 := by
      have : kd = 1 ∨ kd = 2 ∨ kd = 3 ∨ kd = 4 ∨ kd = 5 ∨ kd = 6 ∨ kd = 7 ∨ kd = 8 ∨ kd = 9 ∨ kd = 10 := by omega
      rcases this with rfl | rfl | rfl | rfl | rfl | rfl | rfl | rfl | rfl | rfl <;> decide
    have E2 : Hid (blkB ty kd a = (fromB ty.length a ((fldK kd).length : Int) && ((ty.drop a.toNat).take (fldK kd).length == (fldK kd).map Prod.fst))) := by show _ = _; rw [E.out, hkk]; rfl
    generalize blkB ty kd a = R at *
    generalize fldK kd = F at *
    obtain ⟨q, hq⟩ : ∃ q, q = F.length := ⟨_, rfl⟩
    rw [← hq] at E2 hlF
    have HQ := hide hq
    clear E hk hkk hq
    go_enter Tryd.func66, Tryd.ntmps66
    go_wp2_with fail
    refine (m1.out _).mono ?_
    rintro e w1 ⟨⟨v, rfl, hF⟩, b1⟩
    have c1 := (b1.cell (p := ⟨w.heap.size, 1, none⟩) (by simp)).trans ((Lib.cell_of_heap (j := 1) (heap_alloc_new w _)).trans rfl)
    have c1' : w1.cell? ⟨w.heap.size, 1, none⟩ = some (.slice aa ty.length acap) := c1
    have B1 := hide ((HB1.out _).trans (b1.mono (by simp)))
    obtain ⟨hq1, hq2⟩ := hlF
    obtain ⟨fa, fb, fcap, rfl, hFA, hFI⟩ := hF
    obtain ⟨-, rfl⟩ := hFA (by rw [← HQ.out]; omega)
    rw [← HQ.out]
    clear b1 c1 m1
    by_cases h1 : 0 ≤ a
    · have d1 : decide (a < 0) = false := decide_eq_false (by omega)
      by_cases h2 : a < (ty.length : Int)
      · have d2 : decide ((ty.length : Int) ≤ a) = false := decide_eq_false (by omega)
        by_cases h3 : (q : Int) ≤ (ty.length : Int) - a
        · have d3 : decide ((ty.length : Int) - a < (q : Int)) = false := decide_eq_false (by omega)
          obtain ⟨p, rfl⟩ : ∃ p : Nat, a = (p : Int) := ⟨a.toNat, by omega⟩
          have HE : Hid (R = ((ty.drop p).take q == F.map Prod.fst)) := by
            show _ = _
            rw [E2.out, (from_iff _ _ _).2 ⟨h1, h2, h3⟩]; rfl
          obtain ⟨hab, rfl⟩ := hA (by omega)
          have HG : Hid (∀ k, k < q → ∃ x r s, ((ty.drop p).take q)[k]? = some x ∧ F[k]? = some r ∧ w1.cell? ⟨ab, aoff + (p + k), none⟩ = some (.int .i64 x) ∧ w1.cell? ⟨fb, k * 3, none⟩ = some (.string s) ∧ w1.cell? ⟨fb, k * 3 + 1, none⟩ = some (.int .i64 r.1) ∧ w1.cell? ⟨fb, k * 3 + 2, none⟩ = some (.bool r.2)) := fun k hk => by
            obtain ⟨x, hx⟩ : ∃ x, ty[p + k]? = some x := ⟨_, List.getElem?_eq_getElem (by omega)⟩
            obtain ⟨r, hr⟩ : ∃ r, F[k]? = some r := ⟨_, List.getElem?_eq_getElem (by rw [← HQ.out]; exact hk)⟩
            obtain ⟨s, s1, s2, s3⟩ := hFI k r hr
            exact ⟨x, r, s, by rw [arr_get hk]; exact hx, hr, (B1.out.cell (p := ⟨ab, aoff + (p + k), none⟩) hab).trans (hI _ _ hx), s1, s2, s3⟩
          have HL1 : Hid (((ty.drop p).take q).take q = (ty.drop p).take q) := by show _ = _; rw [List.take_take, Nat.min_self]
          have HL2 : Hid ((F.map Prod.fst).take q = F.map Prod.fst) := List.take_of_length_le (by rw [List.length_map, ← HQ.out]; exact Nat.le_refl _)
          clear hFA hFI hA hI E2
          generalize (ty.drop p).take q = L at *
          generalize ty.length = N at *
          go_wp2_with fail
          have BW : Hid (∀ d, Below w.heap.size w (w1.drewN d)) := fun d => below_drewN B1.out d
          go_loopw [9] (fun i wr => ∃ k : Nat, k ≤ q ∧ i = .int .i64 (k : Int) ∧ Hid (L.take k = (F.map Prod.fst).take k ∧ ∃ d, wr = w1.drewN d)) (fun i _ => q - (intOf i).toNat)
          case atStart => exact ⟨0, by omega, rfl, rfl, 0, rfl⟩
          case round =>
            obtain ⟨k, hk, rfl, hh⟩ := hrel
            obtain ⟨ha, d, rfl⟩ := hh.out
            have HA := hide ha
            clear hh ha
            have k0 : (0 : Int) ≤ (k : Int) := by omega
            by_cases hlt : k < q
            · have j1 : (k : Int) < (q : Int) := by omega
              obtain ⟨x, r, s, hx, hr, hcx, s1, s2, s3⟩ := HG.out k hlt
              have j3 : (p : Int) + (k : Int) < (N : Int) := by omega
              have j4 : (0 : Int) ≤ (p : Int) + (k : Int) := by omega
              have j5 : ((p : Int) + (k : Int)).toNat = p + k := by omega
              by_cases he : x = r.1
              · have HR := hide (fld_next HA.out hx hr he)
                have hb : (x == r.1) = true := by simpa using he
                clear hx hr
                generalize r.1 = T0 at *
                generalize r.2 = T1 at *
                subst he
                go_wp2_with fail
                go_quiet (fail)
                go_wp2
                go_roundw
                case rel => exact ⟨k + 1, by omega, by go_num, HR.out, _, rfl⟩
                case measure => simp [intOf]; omega
              · have HR := hide (fld_fail hx hr he)
                have hb : (x == r.1) = false := by simpa using he
                clear hx hr
                generalize r.1 = T0 at *
                generalize r.2 = T1 at *
                go_wp2_with fail
                go_quiet (fail)
                go_wp2
                go_ret
                exact ⟨ret_b (by rw [HE.out, HR.out]), below_drewN (BW.out _) _⟩
            · obtain rfl : k = q := by omega
              have HR : Hid ((L == F.map Prod.fst) = true) := by
                have h := HA.out
                rw [HL1.out, HL2.out] at h
                show _ = _
                rw [beq_iff_eq]; exact h
              go_wp2
              go_ret
              exact ⟨ret_b (by rw [HE.out, HR.out]), BW.out _⟩
        · have d3 : decide ((ty.length : Int) - a < (q : Int)) = true := decide_eq_true (by omega)
          have HE : Hid (R = false) := by
            show _ = _
            rw [E2.out]
            cases hf : fromB ty.length a (q : Int) with
            | true => exact absurd ((from_iff _ _ _).1 hf).2.2 h3
            | false => rfl
          clear E2 hA hI hFA hFI
          generalize ty.length = N at *
          go_wp2
          go_ret
          exact ⟨ret_b HE.out.symm, B1.out⟩
      · have d2 : decide ((ty.length : Int) ≤ a) = true := decide_eq_true (by omega)
        have HE : Hid (R = false) := by
          show _ = _
          rw [E2.out]
          cases hf : fromB ty.length a (q : Int) with
          | true => exact absurd ((from_iff _ _ _).1 hf).2.1 h2
          | false => rfl
        clear E2 hA hI hFA hFI
        generalize ty.length = N at *
        go_wp2
        go_ret
        exact ⟨ret_b HE.out.symm, B1.out⟩
    · have d1 : decide (a < 0) = true := decide_eq_true (by omega)
      have HE : Hid (R = false) := by
        show _ = _
        rw [E2.out]
        cases hf : fromB ty.length a (q : Int) with
        | true => exact absurd ((from_iff _ _ _).1 hf).1 h1
        | false => rfl
      clear E2 hA hI hFA hFI
      generalize ty.length = N at *
      go_wp2
      go_ret
      exact ⟨ret_b HE.out.symm, B1.out⟩
  · have m1 := hide (fun W => rfields_no kd hk W)
    have HE : Hid (blkB ty kd a = false) := by
      show _ = _
      rw [E.out]
      cases hf : kindOk kd with
      | true => exact absurd ((kindOk_iff kd).1 hf) hk
      | false => rfl
    generalize blkB ty kd a = R at *
    clear E hA hI hk
    generalize ty.length = N at *
    go_enter Tryd.func66, Tryd.ntmps66
    go_wp2_with (go_at_call 81; refine (m1.out _).mono ?_; rintro e w1 ⟨rfl, rfl⟩)
    go_ret
    exact ⟨ret_b HE.out.symm, HB1.out _⟩
end Go.Proofs.YtlckedionmgjjaaDoor
