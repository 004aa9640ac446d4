/- The document's block. -/
import Derived.Test.YtmbgcpmapaedcaaGreatDoorMg34
namespace Go.Proofs.YtmbgcpmapaedcaaGreatDoor
open Go.RowKit
theorem fld_next {l : List Int} {F : List (Int × Bool)} {k : Nat} {x : Int} {r : Int × Bool} (h : l.take k = (F.map Prod.fst).take k) (hx : l[k]? = some x) (hr : F[k]? = some r) (e : x = r.1) : l.take (k + 1) = (F.map Prod.fst).take (k + 1) := by
  rw [List.take_add_one, List.take_add_one, h, hx, List.getElem?_map, hr, e]; rfl
theorem fld_fail {l : List Int} {F : List (Int × Bool)} {k : Nat} {x : Int} {r : Int × Bool} (hx : l[k]? = some x) (hr : F[k]? = some r) (e : x ≠ r.1) : (l == F.map Prod.fst) = false := by
  rw [beq_eq_false_iff_ne]
  intro h
  rw [h, List.getElem?_map, hr] at hx
  exact e (Option.some.inj hx).symm
set_option maxRecDepth 100000 in
set_option maxHeartbeats 3200000 in
theorem block13_any (nm ta fv iv ov cv : Value) (ty : List Int) (kd a : Int) (w : World) (hT : ILst w ta ty) (hn : ty.length ≤ 1024) : Calls Tryz.prog 47 #[.agg #[nm, ta, fv, iv, ov, cv], .int .i64 kd, .int .i64 a] w fun e w' => e = .returned (.bool (blkB ty kd a)) ∧ Below w.heap.size w w' := by
  have HB1 : Hid (∀ A, Below w.heap.size w (w.alloc A)) := fun A => (Below.refl _ _).alloc (Nat.le_refl _) _
  have E : Hid (blkB ty kd a = (kindOk kd && (fromB ty.length a ((fldK kd).length : Int) && ((ty.drop a.toNat).take (fldK kd).length == fldT kd)))) := rfl
  obtain ⟨aa, ab, aoff, acap, rfl, hA, hI⟩ := hT
  have n1 : (ty.length : Int) ≤ 1024 := by omega
  by_cases hk : 1 ≤ kd ∧ kd ≤ 10
  · have m1 := hide (fun W => rfields_ok kd hk W)
    have hkk : kindOk kd = true := (kindOk_iff kd).2 hk
    have hlF : 1 ≤ (fldK kd).length ∧ (fldK kd).length ≤ 100 := by
      have : kd = 1 ∨ kd = 2 ∨ kd = 3 ∨ kd = 4 ∨ kd = 5 ∨ kd = 6 ∨ kd = 7 ∨ kd = 8 ∨ kd = 9 ∨ kd = 10 := by omega
      rcases this with rfl | rfl | rfl | rfl | rfl | rfl | rfl | rfl | rfl | rfl <;> decide
    have E2 : Hid (blkB ty kd a = (fromB ty.length a ((fldK kd).length : Int) && ((ty.drop a.toNat).take (fldK kd).length == (fldK kd).map Prod.fst))) := by show _ = _; rw [E.out, hkk]; rfl
    generalize blkB ty kd a = R at *
    generalize fldK kd = F at *
    obtain ⟨q, hq⟩ : ∃ q, q = F.length := ⟨_, rfl⟩
    rw [← hq] at E2 hlF
    have HQ := hide hq
    clear E hk hkk hq
    go_enter Tryz.func47, Tryz.ntmps47
    go_wp2_with fail
    refine (m1.out _).mono ?_
    rintro e w1 ⟨⟨v, rfl, hF⟩, b1⟩
    have c1 := (b1.cell (p := ⟨w.heap.size, 1, none⟩) (by simp)).trans ((Lib.cell_of_heap (j := 1) (heap_alloc_new w _)).trans rfl)
    have c1' : w1.cell? ⟨w.heap.size, 1, none⟩ = some (.slice aa ty.length acap) := c1
    have B1 := hide ((HB1.out _).trans (b1.mono (by simp)))
    obtain ⟨hq1, hq2⟩ := hlF
    obtain ⟨fa, fb, fcap, rfl, hFA, hFI⟩ := hF
    obtain ⟨-, rfl⟩ := hFA (by rw [← HQ.out]; omega)
    rw [← HQ.out]
    clear b1 c1 m1
    by_cases h1 : 0 ≤ a
    · have d1 : decide (a < 0) = false := decide_eq_false (by omega)
      by_cases h2 : a < (ty.length : Int)
      · have d2 : decide ((ty.length : Int) ≤ a) = false := decide_eq_false (by omega)
        by_cases h3 : (q : Int) ≤ (ty.length : Int) - a
        · have d3 : decide ((ty.length : Int) - a < (q : Int)) = false := decide_eq_false (by omega)
          obtain ⟨p, rfl⟩ : ∃ p : Nat, a = (p : Int) := ⟨a.toNat, by omega⟩
          have HE : Hid (R = ((ty.drop p).take q == F.map Prod.fst)) := by
            show _ = _
            rw [E2.out, (from_iff _ _ _).2 ⟨h1, h2, h3⟩]; rfl
          obtain ⟨hab, rfl⟩ := hA (by omega)
          have HG : Hid (∀ k, k < q → ∃ x r s, ((ty.drop p).take q)[k]? = some x ∧ F[k]? = some r ∧ w1.cell? ⟨ab, aoff + (p + k), none⟩ = some (.int .i64 x) ∧ w1.cell? ⟨fb, k * 3, none⟩ = some (.string s) ∧ w1.cell? ⟨fb, k * 3 + 1, none⟩ = some (.int .i64 r.1) ∧ w1.cell? ⟨fb, k * 3 + 2, none⟩ = some (.bool r.2)) := fun k hk => by
            obtain ⟨x, hx⟩ : ∃ x, ty[p + k]? = some x := ⟨_, List.getElem?_eq_getElem (by omega)⟩
            obtain ⟨r, hr⟩ : ∃ r, F[k]? = some r := ⟨_, List.getElem?_eq_getElem (by rw [← HQ.out]; exact hk)⟩
            obtain ⟨s, s1, s2, s3⟩ := hFI k r hr
            exact ⟨x, r, s, by rw [arr_get hk]; exact hx, hr, (B1.out.cell (p := ⟨ab, aoff + (p + k), none⟩) hab).trans (hI _ _ hx), s1, s2, s3⟩
          have HL1 : Hid (((ty.drop p).take q).take q = (ty.drop p).take q) := by show _ = _; rw [List.take_take, Nat.min_self]
          have HL2 : Hid ((F.map Prod.fst).take q = F.map Prod.fst) := List.take_of_length_le (by rw [List.length_map, ← HQ.out]; exact Nat.le_refl _)
          clear hFA hFI hA hI E2
          generalize (ty.drop p).take q = L at *
          generalize ty.length = N at *
          go_wp2_with fail
          have BW : Hid (∀ d, Below w.heap.size w (w1.drewN d)) := fun d => below_drewN B1.out d
          go_loopw [9] (fun i wr => ∃ k : Nat, k ≤ q ∧ i = .int .i64 (k : Int) ∧ Hid (L.take k = (F.map Prod.fst).take k ∧ ∃ d, wr = w1.drewN d)) (fun i _ => q - (intOf i).toNat)
          case atStart => exact ⟨0, by omega, rfl, rfl, 0, rfl⟩
          case round =>
            obtain ⟨k, hk, rfl, hh⟩ := hrel
            obtain ⟨ha, d, rfl⟩ := hh.out
            have HA := hide ha
            clear hh ha
            have k0 : (0 : Int) ≤ (k : Int) := by omega
            by_cases hlt : k < q
            · have j1 : (k : Int) < (q : Int) := by omega
              obtain ⟨x, r, s, hx, hr, hcx, s1, s2, s3⟩ := HG.out k hlt
              have j3 : (p : Int) + (k : Int) < (N : Int) := by omega
              have j4 : (0 : Int) ≤ (p : Int) + (k : Int) := by omega
              have j5 : ((p : Int) + (k : Int)).toNat = p + k := by omega
              by_cases he : x = r.1
              · have HR := hide (fld_next HA.out hx hr he)
                have hb : (x == r.1) = true := by simpa using he
                clear hx hr
                generalize r.1 = T0 at *
                generalize r.2 = T1 at *
                subst he
                go_wp2_with fail
                go_quiet (fail)
                go_wp2
                go_roundw
                case rel => exact ⟨k + 1, by omega, by go_num, HR.out, _, rfl⟩
                case measure => simp [intOf]; omega
              · have HR := hide (fld_fail hx hr he)
                have hb : (x == r.1) = false := by simpa using he
                clear hx hr
                generalize r.1 = T0 at *
                generalize r.2 = T1 at *
                go_wp2_with fail
                go_quiet (fail)
                go_wp2
                go_ret
                exact ⟨ret_b (by rw [HE.out, HR.out]), below_drewN (BW.out _) _⟩
            · obtain rfl : k = q := by omega
              have HR : Hid ((L == F.map Prod.fst) = true) := by
                have h := HA.out
                rw [HL1.out, HL2.out] at h
                show _ = _
                rw [beq_iff_eq]; exact h
              go_wp2
              go_ret
              exact ⟨ret_b (by rw [HE.out, HR.out]), BW.out _⟩
        · have d3 : decide ((ty.length : Int) - a < (q : Int)) = true := decide_eq_true (by omega)
          have HE : Hid (R = false) := by
            show _ = _
            rw [E2.out]
            cases hf : fromB ty.length a (q : Int) with
            | true => exact absurd ((from_iff _ _ _).1 hf).2.2 h3
            | false => rfl
          clear E2 hA hI hFA hFI
          generalize ty.length = N at *
          go_wp2
          go_ret
          exact ⟨ret_b HE.out.symm, B1.out⟩
      · have d2 : decide ((ty.length : Int) ≤ a) = true := decide_eq_true (by omega)
        have HE : Hid (R = false) := by
          show _ = _
          rw [E2.out]
          cases hf : fromB ty.length a (q : Int) with
          | true => exact absurd ((from_iff _ _ _).1 hf).2.1 h2
          | false => rfl
        clear E2 hA hI hFA hFI
        generalize ty.length = N at *
        go_wp2
        go_ret
        exact ⟨ret_b HE.out.symm, B1.out⟩
    · have d1 : decide (a < 0) = true := decide_eq_true (by omega)
      have HE : Hid (R = false) := by
        show _ = _
        rw [E2.out]
        cases hf : fromB ty.length a (q : Int) with
        | true => exact absurd ((from_iff _ _ _).1 hf).1 h1
        | false => rfl
      clear E2 hA hI hFA hFI
      generalize ty.length = N at *
      go_wp2
      go_ret
      exact ⟨ret_b HE.out.symm, B1.out⟩
  · have m1 := hide (fun W => rfields_no kd hk W)
    have HE : Hid (blkB ty kd a = false) := by
      show _ = _
      rw [E.out]
      cases hf : kindOk kd with
      | true => exact absurd ((kindOk_iff kd).1 hf) hk
      | false => rfl
    generalize blkB ty kd a = R at *
    clear E hA hI hk
    generalize ty.length = N at *
    go_enter Tryz.func47, Tryz.ntmps47
    go_wp2_with (go_at_call 80; refine (m1.out _).mono ?_; rintro e w1 ⟨rfl, rfl⟩)
    go_ret
    exact ⟨ret_b HE.out.symm, HB1.out _⟩
end Go.Proofs.YtmbgcpmapaedcaaGreatDoor
