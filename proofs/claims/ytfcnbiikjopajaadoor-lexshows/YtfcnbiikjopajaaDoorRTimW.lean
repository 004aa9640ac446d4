/- The contract of the document's time. -/
import Derived.Test.YtfcnbiikjopajaaDoorRUniW
namespace Go.Proofs.YtfcnbiikjopajaaDoor
open Go.RowKit
theorem timeL_end {f lo n : Nat} {l : Bs} {j : Nat} (hj : j ≤ l.length) (h : ∀ h : j < l.length, isDig l[j] = false) : timeL (f + 1) lo n (l.drop j) = if lo = 0 ∨ (l.drop j).head? = some 95 then none else some (n, l.drop j) := by
  by_cases hlt : j < l.length
  · conv => lhs; rw [dropAt hlt, timeL]
    rw [if_neg (by rw [h hlt]; decide), show (l.drop j).head? = some l[j] from by rw [dropAt hlt]; rfl, ← dropAt hlt]
    simp only [Option.some.injEq]
  · rw [List.drop_of_length_le (by omega), timeL]
    simp
theorem timeL_dig {f lo n : Nat} {l : Bs} {j : Nat} (hj : j < l.length) (h : isDig l[j] = true) : timeL (f + 1) lo n (l.drop j) = match run10 0 (l.drop j) with
    | none => none
    | some (x, r1) => match unitL r1 with
      | none => none
      | some (u, r2) => if u < lo ∨ 2147483648 ≤ n + x * unitW u then none else timeL f (u + 1) (n + x * unitW u) r2 := by
  conv => lhs; rw [dropAt hj, timeL]
  rw [if_pos h, ← dropAt hj]
  rfl
theorem run10_dig {x : Nat} {l : Bs} {j : Nat} (hj : j < l.length) (h : isDig l[j] = true) : run10 x (l.drop j) = if 2147483648 < x * 10 + (l[j].toNat - 48) then none else run10 (x * 10 + (l[j].toNat - 48)) (l.drop (j + 1)) := by
  conv => lhs; rw [dropAt hj, run10, if_pos h]
theorem run10_end {x : Nat} {l : Bs} {j : Nat} (h : ∀ h : j < l.length, isDig l[j] = false) : run10 x (l.drop j) = some (x, l.drop j) := by
  by_cases hlt : j < l.length
  · conv => lhs; rw [dropAt hlt, run10, if_neg (by rw [h hlt]; decide)]
    rw [← dropAt hlt]
  · rw [List.drop_of_length_le (by omega)]; rfl
theorem unitL_drop {m r : Bs} {u : Nat} (h : unitL m = some (u, r)) : u < 5 ∧ ∃ i, 0 < i ∧ i ≤ m.length ∧ r = m.drop i := by
  match m, h with
  | c :: q, h =>
    rw [unitL] at h
    split at h
    · injection h with h; injection h with h1 h2; subst h1 h2; exact ⟨by decide, 1, by decide, by simp, rfl⟩
    · split at h
      · injection h with h; injection h with h1 h2; subst h1 h2; exact ⟨by decide, 1, by decide, by simp, rfl⟩
      · split at h
        · injection h with h; injection h with h1 h2; subst h1 h2; exact ⟨by decide, 1, by decide, by simp, rfl⟩
        · split at h
          · split at h
            · next hs =>
              injection h with h; injection h with h1 h2; subst h1 h2
              match q, hs with
              | d :: y, _ => exact ⟨by decide, 2, by decide, by simp, rfl⟩
            · injection h with h; injection h with h1 h2; subst h1 h2; exact ⟨by decide, 1, by decide, by simp, rfl⟩
          · cases h
abbrev TimT : Obj := .cells #[.int .i64 86400000, .int .i64 3600000, .int .i64 60000, .int .i64 1000, .int .i64 1] 2
theorem tim_cell (w : World) (u : Nat) (hu : u < 5) : (w.alloc TimT).cell? ⟨w.heap.size, u, none⟩ = some (.int .i64 ((unitW u : Nat) : Int)) := by
  match u, hu with
  | 0, _ => simp; rfl
  | 1, _ => simp; rfl
  | 2, _ => simp; rfl
  | 3, _ => simp; rfl
  | 4, _ => simp; rfl
theorem unitW_le (u : Nat) : 1 ≤ unitW u ∧ unitW u ≤ 86400000 := by
  unfold unitW
  split
  · omega
  · split
    · omega
    · split
      · omega
      · split <;> omega
set_option maxRecDepth 100000 in
set_option maxHeartbeats 6400000 in
theorem rtime_any (l : Bs) (k : Nat) (hl : l.length ≤ 65536) (hk : k ≤ l.length) (w : World) : Calls Tryd.prog 64 #[.string ⟨l.toArray⟩, .int .i64 (k : Int)] w fun e w' => e = .returned (digV l.length (timeL 6 0 0 (l.drop k))) ∧ Below w.heap.size w w' := by
  have hsz := hide (list_size l)
  have HX : Hid (∀ (i : Nat) (h : i < l.length), ∀ W : World, (Instr.index 9 (.string ⟨l.toArray⟩) (.int .i64 (i : Int))).run Tryd.prog W = .ok (.int .u8 (l[i].toNat : Int)) W) := fun i h W => run_idx ⟨l.toArray⟩ i l[i] (List.getElem?_eq_getElem h) W
  have CU : Hid (∀ j, j ≤ l.length → ∀ W, Calls Tryd.prog 78 #[.string ⟨l.toArray⟩, .int .i64 (j : Int)] W fun e w' => e = .returned (uniV l.length (unitL (l.drop j))) ∧ Below W.heap.size W w') := fun j hj W => runit_any l j hl hj W
  have i0 : ((⟨l.toArray⟩ : ByteArray).size : Int) ≤ 65536 := by rw [list_size]; omega
  generalize (⟨l.toArray⟩ : ByteArray) = s at *
  have HC := hide (tim_cell w)
  have HB0 := hide ((Below.refl w.heap.size w).alloc (Nat.le_refl _) TimT)
  have hz0 : w.heap.size < (w.alloc TimT).heap.size := by rw [World.size_alloc]; omega
  go_enter Tryd.func64, Tryd.ntmps64
  go_wp2_with fail
  generalize w.alloc (.cells #[.int .i64 86400000, .int .i64 3600000, .int .i64 60000, .int .i64 1000, .int .i64 1] 2) = W0 at *
  go_loopw [1, 8, 9] (fun i v la wr => ∃ (j n lo f : Nat) (z : Int), k ≤ j ∧ j ≤ l.length ∧ i = .int .i64 (j : Int) ∧ v = .int .i64 (n : Int) ∧ la = .int .i64 z ∧ z = (lo : Int) - 1 ∧ lo ≤ 5 ∧ n < 2147483648 ∧ Hid (Below W0.heap.size W0 wr ∧ 6 ≤ f + lo ∧ timeL 6 0 0 (l.drop k) = timeL f lo n (l.drop j))) (fun i _ _ _ => l.length - (intOf i).toNat)
  case atStart => exact ⟨k, 0, 0, 6, -1, Nat.le_refl _, hk, rfl, rfl, rfl, rfl, by omega, by omega, Below.refl _ _, by omega, rfl⟩
  case round =>
    obtain ⟨j, n, lo, f, z, hkj, hjl, rfl, rfl, rfl, hz, hlo, hn, hh⟩ := hrel
    obtain ⟨f', rfl⟩ : ∃ f', f = f' + 1 := ⟨f - 1, by have := hh.out.2.1; omega⟩
    have j0 : (0 : Int) ≤ (j : Int) := by omega
    have jl : (j : Int) ≤ 65536 := by omega
    have n0 : (0 : Int) ≤ (n : Int) := by omega
    have n1 : (n : Int) < 2147483648 := by omega
    have z0 : (-1 : Int) ≤ z := by omega
    have z4 : z ≤ 4 := by omega
    have HZ := hide hz
    have HLO := hide hlo
    have HN := hide hn
    clear hz hlo hn
    by_cases hdg : ∃ h : j < l.length, isDig l[j] = true
    · obtain ⟨hlt, hdt⟩ := hdg
      have g1 : (j : Int) < (s.size : Int) := by have := hsz.out; omega
      have hix := HX.out j hlt
      have cd := fun W => digit_any l[j] W
      rw [hdt] at cd
      have hx := byte_lt l[j]
      have hst := hide (hh.out.2.2.trans (timeL_dig hlt hdt))
      have HBW := hide hh.out.1
      have HFL := hide hh.out.2.1
      clear hh hdt
      generalize (l[j].toNat : Int) = x at *
      go_wp2_with fail
      refine (cd _).mono ?_
      rintro e w1 ⟨rfl, hw1⟩
      subst hw1
      clear cd hix hx
      go_wp2_with fail
      go_loopw [1, 10] (fun i v wr => ∃ (q m : Nat), j ≤ q ∧ q ≤ l.length ∧ i = .int .i64 (q : Int) ∧ v = .int .i64 (m : Int) ∧ (m : Int) ≤ 2147483648 ∧ wr = w1 ∧ Hid (run10 0 (l.drop j) = run10 m (l.drop q))) (fun i _ _ => l.length - (intOf i).toNat)
      case atStart => exact ⟨j, 0, Nat.le_refl _, hjl, rfl, rfl, by decide, rfl, rfl⟩
      case round =>
        obtain ⟨q, m, hjq, hql, rfl, rfl, hm, rfl, hr⟩ := hrel
        have q0 : (0 : Int) ≤ (q : Int) := by omega
        have ql : (q : Int) ≤ 65536 := by omega
        have m0 : (0 : Int) ≤ (m : Int) := by omega
        by_cases hdq : ∃ h : q < l.length, isDig l[q] = true
        · obtain ⟨hql2, hdt⟩ := hdq
          have g2 : (q : Int) < (s.size : Int) := by have := hsz.out; omega
          have hix := HX.out q hql2
          have cd := fun W => digit_any l[q] W
          have hdi := dig_int l[q]
          rw [hdt] at cd
          have hrr := hide (hr.out.trans (run10_dig hql2 hdt))
          have hx48 : (48 : Int) ≤ (l[q].toNat : Int) ∧ (l[q].toNat : Int) ≤ 57 := by
            rw [hdt] at hdi
            simpa using hdi.symm
          obtain ⟨y, hy⟩ : ∃ y : Nat, y = l[q].toNat - 48 := ⟨_, rfl⟩
          have e1 : (l[q].toNat : Int) - 48 = (y : Int) := by omega
          have y9 : (y : Int) ≤ 9 := by omega
          have y0 : (0 : Int) ≤ (y : Int) := by omega
          rw [← hy] at hrr
          obtain ⟨x48, x57⟩ := hx48
          clear hr hdi hy hdt
          generalize (l[q].toNat : Int) = x at *
          by_cases hbig : 2147483648 < m * 10 + y
          · have HR : Hid (digV l.length (timeL 6 0 0 (l.drop k)) = .tuple #[.int .i64 0, .int .i64 0, .bool false]) := by show _ = _; rw [hst.out, hrr.out, if_pos hbig]; rfl
            have g3 : (2147483648 : Int) < (m : Int) * 10 + (y : Int) := by omega
            have HBF := hide (HB0.out.trans (HBW.out.mono HB0.out.size))
            clear hst hrr HX CU HC hbig HZ HLO HN HBW HFL
            go_wp2_with fail
            refine (cd _).mono ?_
            rintro e w2 ⟨rfl, hw2⟩
            subst hw2
            clear cd
            go_wp2
            go_ret3
            exact ⟨by rw [HR.out]; rfl, HBF.out⟩
          · have HR : Hid (run10 0 (l.drop j) = run10 (m * 10 + y) (l.drop (q + 1))) := by show _ = _; rw [hrr.out, if_neg hbig]
            have g3 : (m : Int) * 10 + (y : Int) ≤ 2147483648 := by omega
            obtain ⟨M, hM⟩ : ∃ M : Int, M = (m : Int) := ⟨_, rfl⟩
            obtain ⟨Y, hY⟩ : ∃ Y : Int, Y = (y : Int) := ⟨_, rfl⟩
            rw [← hM] at g3 hm m0 ⊢
            rw [← hY] at g3 e1 y9 y0
            have HMY := hide (And.intro hM hY)
            have HJQ := hide hjq
            clear hrr hst HX CU HC hbig hM hY hjq n0 n1 z0 z4
            go_wp2_with fail
            refine (cd _).mono ?_
            rintro e w2 ⟨rfl, hw2⟩
            subst hw2
            clear cd
            go_wp2
            go_roundw
            case rel => exact ⟨q + 1, m * 10 + y, by have := HJQ.out; omega, by omega, by go_num, by have := HMY.out; congr 1; omega, by have := HMY.out; omega, trivial, HR.out⟩
            case measure => simp only [intOf]; omega
        · have HR := hide (run10_end (x := m) (l := l) (j := q) (fun h => by
            cases hd : isDig l[q] with
            | false => rfl
            | true => exact absurd ⟨h, hd⟩ hdq))
          have hst2 : Hid (timeL 6 0 0 (l.drop k) = match unitL (l.drop q) with
              | none => none
              | some (u, r2) => if u < lo ∨ 2147483648 ≤ n + m * unitW u then none else timeL f' (u + 1) (n + m * unitW u) r2) := by
            show _ = _
            rw [hst.out, hr.out, HR.out]
          have cu := CU.out q hql
          clear hst hr HR
          by_cases hqt : q < l.length
          · have g2 : (q : Int) < (s.size : Int) := by have := hsz.out; omega
            have hix := HX.out q hqt
            have hdf : isDig l[q] = false := by
              cases hd : isDig l[q] with
              | false => rfl
              | true => exact absurd ⟨hqt, hd⟩ hdq
            have cd := fun W => digit_any l[q] W
            rw [hdf] at cd
            have hx := byte_lt l[q]
            clear HX CU hdq hdf
            generalize (l[q].toNat : Int) = x at *
            go_wp2_with fail
            refine (cd _).mono ?_
            rintro e w2 ⟨rfl, hw2⟩
            subst hw2
            clear cd hix hx
            go_wp2_with fail
            refine (cu _).mono ?_
            rintro e w3 ⟨rfl, hb3⟩
            have HB3 := hide (HBW.out.trans (hb3.mono HBW.out.size))
            have HBF := hide (HB0.out.trans (HB3.out.mono HB0.out.size))
            clear cu hb3
            cases hu : unitL (l.drop q) with
            | none =>
              rw [hu] at hst2
              have HR : Hid (digV l.length (timeL 6 0 0 (l.drop k)) = .tuple #[.int .i64 0, .int .i64 0, .bool false]) := by show _ = _; rw [hst2.out]; rfl
              simp only [uniV]
              clear hst2 HC HZ HLO HN HFL HBW HB3 hu
              go_wp2
              go_ret3
              exact ⟨by rw [HR.out]; rfl, HBF.out⟩
            | some x =>
              obtain ⟨u, r⟩ := x
              obtain ⟨hu5, i, hi0, hil, hr⟩ := unitL_drop hu
              rw [List.length_drop] at hil
              rw [List.drop_drop] at hr
              rw [hu] at hst2
              simp only [] at hst2
              have HE : Hid (((l.length - r.length : Nat) : Int) = ((q + i : Nat) : Int)) := by show _ = _; rw [hr, List.length_drop]; omega
              simp only [uniV]
              rw [HE.out]
              have u0 : (0 : Int) ≤ (u : Int) := by omega
              have u5 : (u : Int) < 5 := by omega
              by_cases hul : u < lo
              · have HR : Hid (digV l.length (timeL 6 0 0 (l.drop k)) = .tuple #[.int .i64 0, .int .i64 0, .bool false]) := by show _ = _; rw [hst2.out, if_pos (.inl hul)]; rfl
                have g5 : (u : Int) ≤ z := by have := HZ.out; omega
                clear hst2 HC HZ HLO HN HFL HBW HB3 hu hul n0 n1 hm
                generalize (m : Int) = M at *
                generalize (n : Int) = N at *
                go_wp2
                go_ret3
                exact ⟨by rw [HR.out]; rfl, HBF.out⟩
              · have g5 : ¬ (u : Int) ≤ z := by have := HZ.out; omega
                have hc := (HB3.out.cell (p := ⟨w.heap.size, u, none⟩) hz0).trans (HC.out u hu5)
                have hw := unitW_le u
                have hp1 : (m : Int) * ((unitW u : Nat) : Int) ≤ 2147483648 * 86400000 := by
                  have h1 : (m : Int) * ((unitW u : Nat) : Int) ≤ 2147483648 * ((unitW u : Nat) : Int) := Int.mul_le_mul_of_nonneg_right hm (by omega)
                  have h2 : (2147483648 : Int) * ((unitW u : Nat) : Int) ≤ 2147483648 * 86400000 := Int.mul_le_mul_of_nonneg_left (by omega) (by decide)
                  omega
                have hp0 : (0 : Int) ≤ (m : Int) * ((unitW u : Nat) : Int) := Int.mul_nonneg m0 (by omega)
                have HPM : Hid ((m : Int) * ((unitW u : Nat) : Int) = ((m * unitW u : Nat) : Int)) := by show _ = _; rw [Int.natCast_mul]
                obtain ⟨P, hP⟩ : ∃ P, P = (m : Int) * ((unitW u : Nat) : Int) := ⟨_, rfl⟩
                rw [← hP] at hp0 hp1 HPM
                replace hP := hP.symm
                obtain ⟨N, hNn⟩ : ∃ N : Int, N = (n : Int) := ⟨_, rfl⟩
                rw [← hNn] at n0 n1 ⊢
                have HNn := hide hNn
                generalize ((unitW u : Nat) : Int) = V at *
                have HU5 := hide hu5
                have HRD := hide hr
                have HIL := hide (And.intro hi0 hil)
                by_cases hbig : (2147483648 : Int) ≤ N + P
                · have HR : Hid (digV l.length (timeL 6 0 0 (l.drop k)) = .tuple #[.int .i64 0, .int .i64 0, .bool false]) := by show _ = _; rw [hst2.out, if_pos (.inr (by have := HPM.out; omega))]; rfl
                  clear hst2 HC HZ HLO HN HFL HBW HB3 hu hul hw hm m0 hNn hr hi0 hil hu5
                  generalize (m : Int) = M at *
                  go_wp2
                  go_ret3
                  exact ⟨by rw [HR.out]; rfl, HBF.out⟩
                · have HR : Hid (timeL 6 0 0 (l.drop k) = timeL f' (u + 1) (n + m * unitW u) (l.drop (q + i))) := by show _ = _; rw [hst2.out, if_neg (by have := HPM.out; omega), hr]
                  have g6 : N + P < 2147483648 := by omega
                  have HNP : Hid (N + P = ((n + m * unitW u : Nat) : Int)) := by have := HPM.out; show _ = _; omega
                  have HFA := hide HFL.out
                  have HUL := hide hul
                  have HJQ := hide (And.intro hjq hkj)
                  clear hst2 HC HZ HLO HN HFL HBW hu hul hw hm m0 hNn hr hi0 hil hu5 hbig hjq hkj
                  generalize (m : Int) = M at *
                  go_wp2
                  go_roundw
                  case rel => exact ⟨q + i, n + m * unitW u, u + 1, f', (u : Int), by have := HJQ.out; omega, by have := HIL.out; omega, by go_num, by rw [HNP.out], rfl, by omega, by have := HU5.out; omega, by have := HNP.out; omega, HB3.out, by have := HFA.out; have := HUL.out; omega, HR.out⟩
                  case measure => simp only [intOf]; have := HJQ.out; have := HIL.out; omega
          · have g2 : ¬ (q : Int) < (s.size : Int) := by have := hsz.out; omega
            clear HX CU hdq
            go_wp2_with fail
            refine (cu _).mono ?_
            rintro e w3 ⟨rfl, hb3⟩
            have HB3 := hide (HBW.out.trans (hb3.mono HBW.out.size))
            have HBF := hide (HB0.out.trans (HB3.out.mono HB0.out.size))
            clear cu hb3
            cases hu : unitL (l.drop q) with
            | none =>
              rw [hu] at hst2
              have HR : Hid (digV l.length (timeL 6 0 0 (l.drop k)) = .tuple #[.int .i64 0, .int .i64 0, .bool false]) := by show _ = _; rw [hst2.out]; rfl
              simp only [uniV]
              clear hst2 HC HZ HLO HN HFL HBW HB3 hu
              go_wp2
              go_ret3
              exact ⟨by rw [HR.out]; rfl, HBF.out⟩
            | some x =>
              obtain ⟨u, r⟩ := x
              obtain ⟨hu5, i, hi0, hil, hr⟩ := unitL_drop hu
              rw [List.length_drop] at hil
              rw [List.drop_drop] at hr
              rw [hu] at hst2
              simp only [] at hst2
              have HE : Hid (((l.length - r.length : Nat) : Int) = ((q + i : Nat) : Int)) := by show _ = _; rw [hr, List.length_drop]; omega
              simp only [uniV]
              rw [HE.out]
              have u0 : (0 : Int) ≤ (u : Int) := by omega
              have u5 : (u : Int) < 5 := by omega
              by_cases hul : u < lo
              · have HR : Hid (digV l.length (timeL 6 0 0 (l.drop k)) = .tuple #[.int .i64 0, .int .i64 0, .bool false]) := by show _ = _; rw [hst2.out, if_pos (.inl hul)]; rfl
                have g5 : (u : Int) ≤ z := by have := HZ.out; omega
                clear hst2 HC HZ HLO HN HFL HBW HB3 hu hul n0 n1 hm
                generalize (m : Int) = M at *
                generalize (n : Int) = N at *
                go_wp2
                go_ret3
                exact ⟨by rw [HR.out]; rfl, HBF.out⟩
              · have g5 : ¬ (u : Int) ≤ z := by have := HZ.out; omega
                have hc := (HB3.out.cell (p := ⟨w.heap.size, u, none⟩) hz0).trans (HC.out u hu5)
                have hw := unitW_le u
                have hp1 : (m : Int) * ((unitW u : Nat) : Int) ≤ 2147483648 * 86400000 := by
                  have h1 : (m : Int) * ((unitW u : Nat) : Int) ≤ 2147483648 * ((unitW u : Nat) : Int) := Int.mul_le_mul_of_nonneg_right hm (by omega)
                  have h2 : (2147483648 : Int) * ((unitW u : Nat) : Int) ≤ 2147483648 * 86400000 := Int.mul_le_mul_of_nonneg_left (by omega) (by decide)
                  omega
                have hp0 : (0 : Int) ≤ (m : Int) * ((unitW u : Nat) : Int) := Int.mul_nonneg m0 (by omega)
                have HPM : Hid ((m : Int) * ((unitW u : Nat) : Int) = ((m * unitW u : Nat) : Int)) := by show _ = _; rw [Int.natCast_mul]
                obtain ⟨P, hP⟩ : ∃ P, P = (m : Int) * ((unitW u : Nat) : Int) := ⟨_, rfl⟩
                rw [← hP] at hp0 hp1 HPM
                replace hP := hP.symm
                obtain ⟨N, hNn⟩ : ∃ N : Int, N = (n : Int) := ⟨_, rfl⟩
                rw [← hNn] at n0 n1 ⊢
                have HNn := hide hNn
                generalize ((unitW u : Nat) : Int) = V at *
                have HU5 := hide hu5
                have HRD := hide hr
                have HIL := hide (And.intro hi0 hil)
                by_cases hbig : (2147483648 : Int) ≤ N + P
                · have HR : Hid (digV l.length (timeL 6 0 0 (l.drop k)) = .tuple #[.int .i64 0, .int .i64 0, .bool false]) := by show _ = _; rw [hst2.out, if_pos (.inr (by have := HPM.out; omega))]; rfl
                  clear hst2 HC HZ HLO HN HFL HBW HB3 hu hul hw hm m0 hNn hr hi0 hil hu5
                  generalize (m : Int) = M at *
                  go_wp2
                  go_ret3
                  exact ⟨by rw [HR.out]; rfl, HBF.out⟩
                · have HR : Hid (timeL 6 0 0 (l.drop k) = timeL f' (u + 1) (n + m * unitW u) (l.drop (q + i))) := by show _ = _; rw [hst2.out, if_neg (by have := HPM.out; omega), hr]
                  have g6 : N + P < 2147483648 := by omega
                  have HNP : Hid (N + P = ((n + m * unitW u : Nat) : Int)) := by have := HPM.out; show _ = _; omega
                  have HFA := hide HFL.out
                  have HUL := hide hul
                  have HJQ := hide (And.intro hjq hkj)
                  clear hst2 HC HZ HLO HN HFL HBW hu hul hw hm m0 hNn hr hi0 hil hu5 hbig hjq hkj
                  generalize (m : Int) = M at *
                  go_wp2
                  go_roundw
                  case rel => exact ⟨q + i, n + m * unitW u, u + 1, f', (u : Int), by have := HJQ.out; omega, by have := HIL.out; omega, by go_num, by rw [HNP.out], rfl, by omega, by have := HU5.out; omega, by have := HNP.out; omega, HB3.out, by have := HFA.out; have := HUL.out; omega, HR.out⟩
                  case measure => simp only [intOf]; have := HJQ.out; have := HIL.out; omega
    · have hend := hide (hh.out.2.2.trans (timeL_end hjl (fun h => by
        cases hd : isDig l[j] with
        | false => rfl
        | true => exact absurd ⟨h, hd⟩ hdg)))
      have HBW := hide (HB0.out.trans (hh.out.1.mono HB0.out.size))
      by_cases hlt : j < l.length
      · have g1 : (j : Int) < (s.size : Int) := by have := hsz.out; omega
        have hix := HX.out j hlt
        have hdf : isDig l[j] = false := by
          cases hd : isDig l[j] with
          | false => rfl
          | true => exact absurd ⟨hlt, hd⟩ hdg
        have cd := fun W => digit_any l[j] W
        rw [hdf] at cd
        have hx := byte_lt l[j]
        have HH : Hid ((l.drop j).head? = some l[j]) := by show _ = _; rw [dropAt hlt]; rfl
        rw [HH.out] at hend
        have HE := hide (rest_len hjl)
        by_cases hl0 : lo = 0
        · have HR : Hid (digV l.length (timeL 6 0 0 (l.drop k)) = .tuple #[.int .i64 0, .int .i64 0, .bool false]) := by show _ = _; rw [hend.out, if_pos (.inl hl0)]; rfl
          have z1 : z < 0 := by have := HZ.out; omega
          clear hend hh HX CU hdg hdf HC HH HE
          generalize (l[j].toNat : Int) = x at *
          go_wp2_with fail
          refine (cd _).mono ?_
          rintro e w1 ⟨rfl, rfl⟩
          clear cd
          go_wp2
          go_ret3
          exact ⟨by rw [HR.out]; rfl, HBW.out⟩
        · have z1 : ¬ z < 0 := by have := HZ.out; omega
          by_cases h95 : l[j] = 95
          · have HR : Hid (digV l.length (timeL 6 0 0 (l.drop k)) = .tuple #[.int .i64 0, .int .i64 0, .bool false]) := by show _ = _; rw [hend.out, if_pos (.inr (by rw [h95]))]; rfl
            have hx5 : (l[j].toNat : Int) = 95 := by rw [h95]; rfl
            rw [hx5] at hix cd
            clear hend hh HX CU hdg hdf HC HH HE hx5 h95 hx
            go_wp2_with fail
            refine (cd _).mono ?_
            rintro e w1 ⟨rfl, rfl⟩
            clear cd
            go_wp2
            go_ret3
            exact ⟨by rw [HR.out]; rfl, HBW.out⟩
          · have HR : Hid (digV l.length (timeL 6 0 0 (l.drop k)) = .tuple #[.int .i64 (n : Int), .int .i64 (j : Int), .bool true]) := by
              show _ = _
              rw [hend.out, if_neg (fun e => e.elim hl0 (fun e => h95 (Option.some.inj e)))]
              show Value.tuple #[.int .i64 (n : Int), .int .i64 ((l.length - (l.drop j).length : Nat) : Int), .bool true] = _
              rw [HE.out]
            have g4 : ((l[j].toNat : Int) == 95) = false := by rw [beq_eq_false_iff_ne]; exact fun e => h95 (UInt8.toNat_inj.1 (by show l[j].toNat = 95; omega))
            clear hend hh HX CU hdg hdf HC HH HE h95 hl0
            generalize (l[j].toNat : Int) = x at *
            clear hx hkj hlt HN
            generalize (n : Int) = N at *
            go_wp2_with fail
            refine (cd _).mono ?_
            rintro e w1 ⟨rfl, rfl⟩
            clear cd
            go_wp2
            go_ret3
            exact ⟨by rw [HR.out]; rfl, HBW.out⟩
      · have g1 : ¬ (j : Int) < (s.size : Int) := by have := hsz.out; omega
        have HH : Hid ((l.drop j).head? = none) := by show _ = _; rw [List.drop_of_length_le (by omega)]; rfl
        have HE := hide (rest_len hjl)
        rw [HH.out] at hend
        by_cases hl0 : lo = 0
        · have HR : Hid (digV l.length (timeL 6 0 0 (l.drop k)) = .tuple #[.int .i64 0, .int .i64 0, .bool false]) := by show _ = _; rw [hend.out, if_pos (.inl hl0)]; rfl
          have z1 : z < 0 := by have := HZ.out; omega
          clear hend hh HX CU hdg HC HH HE
          go_wp2
          go_ret3
          exact ⟨by rw [HR.out]; rfl, HBW.out⟩
        · have z1 : ¬ z < 0 := by have := HZ.out; omega
          have HR : Hid (digV l.length (timeL 6 0 0 (l.drop k)) = .tuple #[.int .i64 (n : Int), .int .i64 (j : Int), .bool true]) := by
            show _ = _
            rw [hend.out, if_neg (fun e => e.elim hl0 (fun e => by cases e))]
            show Value.tuple #[.int .i64 (n : Int), .int .i64 ((l.length - (l.drop j).length : Nat) : Int), .bool true] = _
            rw [HE.out]
          clear hend hh HX CU hdg HC HH HE HN
          generalize (n : Int) = N at *
          go_wp2
          go_ret3
          exact ⟨by rw [HR.out]; rfl, HBW.out⟩
end Go.Proofs.YtfcnbiikjopajaaDoor
