/- The contracts of the document's Word, keywords and Name. | The contracts of the document's keywords and Name. -/
import Derived.Test.YtlckedionmgjjaaDoorMg2
namespace Go.Proofs.YtlckedionmgjjaaDoor.Ex
open Go.RowKit
set_option maxRecDepth 100000 in
set_option maxHeartbeats 1600000 in
theorem qWord_any (s : Bs) (w : World) : Calls Tryd.prog 61 #[.string ⟨s.toArray⟩] w fun e w' => e = .returned (.bool (wordB s)) ∧ w' = w := by
  match s with
  | [] =>
    go_enter Tryd.func61, Tryd.ntmps61
    go_wp2
    go_ret
    exact ⟨rfl, rfl⟩
  | c :: r =>
    have e2 : (⟨(c :: r).toArray⟩ : ByteArray).toList.isEmpty = false := by rw [nil_text]; rfl
    have hsz := list_size (c :: r)
    have HW : Hid (wordB (c :: r) = (decide (r.length + 1 ≤ 24) && (!isDig c && (c :: r).all capC))) := rfl
    have HX : Hid (∀ (i : Nat) (h : i < (c :: r).length), ∀ W : World, (Instr.index 9 (.string ⟨(c :: r).toArray⟩) (.int .i64 (i : Int))).run Tryd.prog W = .ok (.int .u8 ((c :: r)[i].toNat : Int)) W) := fun i h W => run_idx ⟨(c :: r).toArray⟩ i (c :: r)[i] (List.getElem?_eq_getElem h) W
    have x0 := HX.out 0 (by simp)
    simp only [List.getElem_cons_zero] at x0
    have x0' : ∀ W : World, (Instr.index 9 (.string ⟨(c :: r).toArray⟩) (.int .i64 0)).run Tryd.prog W = .ok (.int .u8 (c.toNat : Int)) W := x0
    have HD := hide (dig_int c)
    clear x0
    by_cases hl : 24 < (c :: r).length
    · have i1 : (24 : Int) < ((⟨(c :: r).toArray⟩ : ByteArray).size : Int) := by omega
      have HE : Hid (wordB (c :: r) = false) := by
        show _ = _
        rw [HW.out, decide_eq_false (by simp at hl; omega)]; rfl
      generalize (⟨(c :: r).toArray⟩ : ByteArray) = S at *
      clear hsz HX x0' hl
      go_enter Tryd.func61, Tryd.ntmps61
      go_wp2
      go_ret
      exact ⟨ret_bool HE.out.symm, rfl⟩
    · have i1 : ¬ (24 : Int) < ((⟨(c :: r).toArray⟩ : ByteArray).size : Int) := by omega
      have HT : Hid (decide (r.length + 1 ≤ 24) = true) := decide_eq_true (by simp at hl; omega)
      obtain ⟨N, hN⟩ : ∃ N, N = (c :: r).length := ⟨_, rfl⟩
      have HN := hide hN
      rw [← hN] at hsz hl
      have n1 : (N : Int) ≤ 24 := by omega
      generalize (⟨(c :: r).toArray⟩ : ByteArray) = S at *
      have HSZ := hide hsz
      obtain ⟨y, hy⟩ : ∃ y : Int, y = (c.toNat : Int) := ⟨_, rfl⟩
      rw [← hy] at x0' HD
      clear hy
      have KL : Hid (isDig c = false → ∀ (w1 : World), w1 = w → True) := fun _ _ _ => trivial
      cases hd : isDig c with
      | true =>
        have hh : (48 ≤ y) ∧ (y ≤ 57) := by
          have h := HD.out; rw [hd] at h; have h2 := h.symm; simpa using h2
        obtain ⟨ya, yb⟩ := hh
        have HE : Hid (wordB (c :: r) = false) := by
          show _ = _
          rw [HW.out, hd]; simp
        clear hsz HX hl hN HD
        go_enter Tryd.func61, Tryd.ntmps61
        go_wp2
        go_ret
        exact ⟨ret_bool HE.out.symm, rfl⟩
      | false =>
        have hh : ¬ ((48 ≤ y) ∧ (y ≤ 57)) := by
          have h := HD.out; rw [hd] at h; have h2 := h.symm; simpa using h2
        have HE : Hid (wordB (c :: r) = (c :: r).all capC) := by
          show _ = _
          rw [HW.out, HT.out, hd]; simp
        have hsz2 : (S.size : Int) = (N : Int) := by omega
        clear hl hN hsz HW HT HD KL
        have BODY : ∀ (v4 : Value), True := fun _ => trivial
        clear BODY
        by_cases ya : 48 ≤ y
        all_goals
          try have yb : ¬ y ≤ 57 := fun h => hh ⟨ya, h⟩
          clear hh
          go_enter Tryd.func61, Tryd.ntmps61
          go_wp2_with fail
          clear x0'
          go_loopw [3, 4] (fun i _ wr => ∃ k : Nat, k ≤ N ∧ i = .int .i64 (k : Int) ∧ Hid (((c :: r).take k).all capC = true ∧ wr = w)) (fun i _ _ => N - (intOf i).toNat)
          case atStart => exact ⟨0, by omega, rfl, rfl, rfl⟩
          case round =>
            obtain ⟨k, hk, rfl, hh⟩ := hrel
            obtain ⟨ha, hw⟩ := hh.out
            subst hw
            have HA := hide ha
            by_cases hlt : k < N
            · have j1 : (k : Int) < (N : Int) := by omega
              have hki : k < (c :: r).length := by rw [← HN.out]; exact hlt
              have xi := HX.out k hki
              obtain ⟨b, hb⟩ : ∃ b, b = (c :: r)[k] := ⟨_, rfl⟩
              rw [← hb] at xi
              have HS : Hid (capC b = true → ((c :: r).take (k + 1)).all capC = true) := fun h => by
                rw [List.take_add_one, List.all_append, HA.out, List.getElem?_eq_getElem hki, ← hb]
                simp [h]
              have HF : Hid (capC b = false → (c :: r).all capC = false) := fun h => by
                rw [List.all_eq_false]
                exact ⟨b, by rw [hb]; exact List.getElem_mem hki, by rw [h]; decide⟩
              have HC : Hid (capC b = ((((decide ((65 : Int) ≤ (b.toNat : Int)) && decide ((b.toNat : Int) ≤ 90)) || decide ((b.toNat : Int) = 95))) || (decide ((48 : Int) ≤ (b.toNat : Int)) && decide ((b.toNat : Int) ≤ 57)))) := by
                show _ = _
                rw [capC_eq, cap_int, dig_int]
              obtain ⟨z, hz⟩ : ∃ z : Int, z = (b.toNat : Int) := ⟨_, rfl⟩
              rw [← hz] at xi HC
              clear hb hki ha hh hz
              by_cases z1 : 65 ≤ z
              · by_cases z2 : z ≤ 90
                · have HR := hide (HS.out (by rw [HC.out]; simp [z1, z2]))
                  clear HS HF HC
                  go_wp2
                  go_roundw
                  case rel => exact ⟨k + 1, by omega, by go_num, HR.out, by trivial⟩
                  case measure => simp [intOf]; omega
                · have z3 : 48 ≤ z := by omega
                  have z4 : ¬ z ≤ 57 := by omega
                  by_cases z5 : z = 95
                  · have HR := hide (HS.out (by rw [HC.out]; simp [z5]))
                    subst z5
                    clear HS HF HC
                    go_wp2
                    go_roundw
                    case rel => exact ⟨k + 1, by omega, by go_num, HR.out, by trivial⟩
                    case measure => simp [intOf]; omega
                  · have z6 : (z == 95) = false := by rw [beq_eq_false_iff_ne]; exact z5
                    have HR := hide (HF.out (by rw [HC.out]; simp [z2, z4, z5]))
                    clear HS HF HC
                    go_wp2
                    go_ret
                    exact ⟨ret_bool (by rw [HE.out, HR.out]), rfl⟩
              · have z6 : (z == 95) = false := by rw [beq_eq_false_iff_ne]; omega
                have z7 : ¬ z = 95 := by omega
                by_cases z3 : 48 ≤ z
                · by_cases z4 : z ≤ 57
                  · have HR := hide (HS.out (by rw [HC.out]; simp [z3, z4]))
                    clear HS HF HC
                    go_wp2
                    go_roundw
                    case rel => exact ⟨k + 1, by omega, by go_num, HR.out, by trivial⟩
                    case measure => simp [intOf]; omega
                  · have HR := hide (HF.out (by rw [HC.out]; simp [z1, z4, z7]))
                    clear HS HF HC
                    go_wp2
                    go_ret
                    exact ⟨ret_bool (by rw [HE.out, HR.out]), rfl⟩
                · have HR := hide (HF.out (by rw [HC.out]; simp [z1, z3, z7]))
                  clear HS HF HC
                  go_wp2
                  go_ret
                  exact ⟨ret_bool (by rw [HE.out, HR.out]), rfl⟩
            · obtain rfl : k = N := by omega
              have HT2 : Hid ((c :: r).all capC = true) := by
                have h := HA.out
                rw [List.take_of_length_le (by rw [← HN.out]; exact Nat.le_refl _)] at h
                exact h
              clear hh ha HA
              go_wp2
              go_ret
              exact ⟨ret_bool (by rw [HE.out, HT2.out]), rfl⟩
end Go.Proofs.YtlckedionmgjjaaDoor.Ex
namespace Go.Proofs.YtlckedionmgjjaaDoor.Ex
open Go.RowKit
def kwObj : Obj := .cells kwTab.toArray 9
set_option maxRecDepth 100000 in
theorem qkeys_any (w : World) : Calls Tryd.prog 60 #[] w fun e w' => e = .returned (.slice (some ⟨w.heap.size, 0, none⟩) 51 51) ∧ w' = w.alloc kwObj := by
  go_enter Tryd.func60, Tryd.ntmps60
  go_wp2
  go_ret
  exact ⟨rfl, rfl⟩
theorem kw_cell (w : World) (i : Nat) (hi : i < 51) : (w.alloc kwObj).cell? ⟨w.heap.size, i, none⟩ = some (.string ⟨(kwB[i]'hi).toArray⟩) := by
  have e : kwTab.toArray[i]? = some (.string ⟨(kwB[i]'hi).toArray⟩) := by
    rw [List.getElem?_toArray, kwTab, List.getElem?_map, List.getElem?_eq_getElem (show i < kwB.length from hi)]; rfl
  simp [kwObj]
  rw [← List.getElem?_toArray]; exact e
set_option maxRecDepth 100000 in
set_option maxHeartbeats 1600000 in
theorem qName_any (s : Bs) (w : World) : Calls Tryd.prog 36 #[.string ⟨s.toArray⟩] w fun e w' => e = .returned (.bool (nameB s)) ∧ Below w.heap.size w w' := by
  have HN : Hid (nameB s = (!(kwB.contains s) && wordB s)) := rfl
  have c0 := qkeys_any w
  have c1 := fun W => qWord_any s W
  obtain ⟨S, hS⟩ : ∃ S : ByteArray, S = ⟨s.toArray⟩ := ⟨_, rfl⟩
  rw [← hS] at c1 ⊢
  have HS := hide hS
  clear hS
  go_enter Tryd.func36, Tryd.ntmps36
  go_wp2_with fail
  refine c0.mono ?_
  rintro e w1 ⟨rfl, hw1⟩
  have HB : Hid (Below w.heap.size w w1) := by show Below _ _ _; rw [hw1]; exact (Below.refl _ _).alloc (Nat.le_refl _) _
  have ix : Hid (∀ (k : Nat) (h : k < 51), w1.cell? ⟨w.heap.size, k, none⟩ = some (.string ⟨(kwB[k]'h).toArray⟩)) := by
    intro k h; rw [hw1]; exact kw_cell w k h
  clear hw1 c0
  generalize w.heap.size = B at ix ⊢
  go_wp2_with fail
  go_loop [4] (fun i => ∃ k : Nat, k ≤ 51 ∧ i = .int .i64 (k : Int) ∧ Hid ((kwB.take k).contains s = false)) (fun i => 51 - (intOf i).toNat)
  case atStart => exact ⟨0, by omega, rfl, rfl⟩
  case round =>
    obtain ⟨k, hk, rfl, hf⟩ := hrel
    by_cases hlt : k < 51
    · have x0 := ix.out k hlt
      have i1 : (k : Int) < 51 := by omega
      obtain ⟨g, hgk⟩ : ∃ g, g = kwB[k]'hlt := ⟨_, rfl⟩
      rw [← hgk] at x0
      have bt := beq_text ⟨g.toArray⟩ S
      have HM : Hid (g ∈ kwB) := by rw [hgk]; exact List.getElem_mem _
      have HTK : Hid (kwB.take (k + 1) = kwB.take k ++ [g]) := by
        show _ = _
        rw [List.take_add_one, List.getElem?_eq_getElem (show k < kwB.length from hlt), hgk]; rfl
      obtain ⟨u, HU⟩ : ∃ u : ByteArray, Hid ((⟨g.toArray⟩ : ByteArray) = u) := ⟨_, rfl⟩
      rw [HU.out] at x0 bt
      clear hgk ix
      by_cases he : u = S
      · have hb : (u.toList == S.toList) = true := by rw [bt]; exact decide_eq_true he
        have HE : Hid (nameB s = false) := by
          show _ = _
          have hgs : g = s := by
            have e : (⟨g.toArray⟩ : ByteArray) = ⟨s.toArray⟩ := by rw [HU.out, ← HS.out]; exact he
            simpa using congrArg (fun x : ByteArray => x.data.toList) e
          rw [HN.out, show kwB.contains s = true from by rw [List.contains_iff_mem, ← hgs]; exact HM.out]; rfl
        clear bt he c1 hf
        go_wp2
        go_ret
        exact ⟨ret_bool HE.out.symm, HB.out⟩
      · have hb : (u.toList == S.toList) = false := by rw [bt]; exact decide_eq_false he
        have HR : Hid ((kwB.take (k + 1)).contains s = false) := by
          show _ = _
          rw [HTK.out]
          have h1 := hf.out
          rw [Bool.eq_false_iff, Ne, List.contains_iff_mem] at h1 ⊢
          intro h
          rcases List.mem_append.1 h with h | h
          · exact h1 h
          · exact he (by rw [← HU.out, HS.out, List.mem_singleton.1 h])
        clear bt he c1 hf
        go_wp2
        go_round
        case rel => exact ⟨k + 1, by omega, by go_num, HR.out⟩
        case measure => simp [intOf]; omega
    · obtain rfl : k = 51 := by omega
      have HE : Hid (nameB s = wordB s) := by
        show _ = _
        have h := hf.out
        rw [List.take_of_length_le (show kwB.length ≤ 51 from Nat.le_refl _)] at h
        rw [HN.out, h]; rfl
      clear hf ix
      go_wp2_with fail
      refine (c1 _).mono ?_
      rintro e w2 ⟨rfl, hw2⟩
      subst hw2
      go_wp2
      go_ret
      exact ⟨ret_bool HE.out.symm, HB.out⟩
end Go.Proofs.YtlckedionmgjjaaDoor.Ex
