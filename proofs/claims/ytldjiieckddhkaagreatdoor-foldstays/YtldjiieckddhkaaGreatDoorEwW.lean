/- The contracts of expr.isDigit, isCapital, isWord and Name. -/
import Derived.Test.YtldjiieckddhkaaGreatDoorMg5
namespace Go.Proofs.YtldjiieckddhkaaGreatDoor
open Go.RowKit
set_option maxRecDepth 100000 in
theorem eDigit_any (c : UInt8) (w : World) : Calls Tryz.prog 143 #[.int .u8 (c.toNat : Int)] w fun e w' => e = .returned (.bool (isDig c)) ∧ w' = w := by
  have E := hide (dig_int c)
  generalize (c.toNat : Int) = x at *
  by_cases h1 : (48 : Int) ≤ x
  · go_enter Tryz.func143, Tryz.ntmps143
    go_wp2
    go_ret
    exact ⟨ret_bool (by rw [E.out, Bool.eq_iff_iff]; simp; try omega), rfl⟩
  · go_enter Tryz.func143, Tryz.ntmps143
    go_wp2
    go_ret
    exact ⟨ret_bool (by rw [E.out, Bool.eq_iff_iff]; simp; try omega), rfl⟩
def capB (c : UInt8) : Bool := (decide (65 ≤ c) && decide (c ≤ 90)) || decide (c = 95)
theorem cap_int (c : UInt8) : capB c = ((decide ((65 : Int) ≤ (c.toNat : Int)) && decide ((c.toNat : Int) ≤ 90)) || decide ((c.toNat : Int) = 95)) := by
  unfold capB
  have e1 : decide ((65 : UInt8) ≤ c) = decide ((65 : Int) ≤ (c.toNat : Int)) := by rw [decide_eq_decide, u8_le]; rfl
  have e2 : decide (c ≤ (90 : UInt8)) = decide ((c.toNat : Int) ≤ 90) := by rw [decide_eq_decide, u8_le]; rfl
  have e3 : decide (c = (95 : UInt8)) = decide ((c.toNat : Int) = 95) := by rw [decide_eq_decide, u8_eq]; rfl
  rw [e1, e2, e3]
theorem capC_eq (c : UInt8) : capC c = (capB c || isDig c) := by
  unfold capC capB
  cases isDig c <;> cases (decide (65 ≤ c) && decide (c ≤ 90)) <;> simp
set_option maxRecDepth 100000 in
theorem eCap_any (c : UInt8) (w : World) : Calls Tryz.prog 144 #[.int .u8 (c.toNat : Int)] w fun e w' => e = .returned (.bool (capB c)) ∧ w' = w := by
  have E := hide (cap_int c)
  generalize (c.toNat : Int) = x at *
  by_cases h1 : (65 : Int) ≤ x
  · by_cases h2 : x ≤ 90
    · go_enter Tryz.func144, Tryz.ntmps144
      go_wp2
      go_ret
      exact ⟨ret_bool (by rw [E.out, Bool.eq_iff_iff]; simp; try omega), rfl⟩
    · go_enter Tryz.func144, Tryz.ntmps144
      go_wp2
      go_ret
      exact ⟨ret_bool (by rw [E.out, Bool.eq_iff_iff]; simp; try omega), rfl⟩
  · go_enter Tryz.func144, Tryz.ntmps144
    go_wp2
    go_ret
    exact ⟨ret_bool (by rw [E.out, Bool.eq_iff_iff]; simp; try omega), rfl⟩
theorem beq_text (a b : ByteArray) : (a.toList == b.toList) = decide (a = b) := by
  rw [ByteArray.toList_eq, ByteArray.toList_eq]
  by_cases h : a = b
  · rw [h, decide_eq_true rfl]; exact beq_self_eq_true _
  · rw [decide_eq_false h, beq_eq_false_iff_ne]; exact fun e => h (text_ext e)
theorem nil_text (s : Bs) : (⟨s.toArray⟩ : ByteArray).toList.isEmpty = decide (s = []) := by
  rw [ByteArray.toList_eq]
  cases s <;> rfl
set_option maxRecDepth 100000 in
set_option maxHeartbeats 1600000 in
theorem eWord_any (s : Bs) (w : World) : Calls Tryz.prog 106 #[.string ⟨s.toArray⟩] w fun e w' => e = .returned (.bool (wordB s)) ∧ w' = w := by
  match s with
  | [] =>
    go_enter Tryz.func106, Tryz.ntmps106
    go_wp2
    go_ret
    exact ⟨rfl, rfl⟩
  | c :: r =>
    have e2 : (⟨(c :: r).toArray⟩ : ByteArray).toList.isEmpty = false := by rw [nil_text]; rfl
    have hsz := list_size (c :: r)
    have HW : Hid (wordB (c :: r) = (decide (r.length + 1 ≤ 24) && (!isDig c && (c :: r).all capC))) := rfl
    have HX : Hid (∀ (i : Nat) (h : i < (c :: r).length), ∀ W : World, (Instr.index 9 (.string ⟨(c :: r).toArray⟩) (.int .i64 (i : Int))).run Tryz.prog W = .ok (.int .u8 ((c :: r)[i].toNat : Int)) W) := fun i h W => run_idx ⟨(c :: r).toArray⟩ i (c :: r)[i] (List.getElem?_eq_getElem h) W
    have x0 := HX.out 0 (by simp)
    simp only [List.getElem_cons_zero] at x0
    have x0' : ∀ W : World, (Instr.index 9 (.string ⟨(c :: r).toArray⟩) (.int .i64 0)).run Tryz.prog W = .ok (.int .u8 (c.toNat : Int)) W := x0
    have d0 := eDigit_any c w
    clear x0
    by_cases hl : 24 < (c :: r).length
    · have i1 : (24 : Int) < ((⟨(c :: r).toArray⟩ : ByteArray).size : Int) := by omega
      have HE : Hid (wordB (c :: r) = false) := by
        show _ = _
        rw [HW.out, decide_eq_false (by simp at hl; omega)]; rfl
      generalize (⟨(c :: r).toArray⟩ : ByteArray) = S at *
      clear hsz HX d0 x0' hl
      go_enter Tryz.func106, Tryz.ntmps106
      go_wp2
      go_ret
      exact ⟨ret_bool HE.out.symm, rfl⟩
    · have i1 : ¬ (24 : Int) < ((⟨(c :: r).toArray⟩ : ByteArray).size : Int) := by omega
      have HT : Hid (decide (r.length + 1 ≤ 24) = true) := decide_eq_true (by simp at hl; omega)
      obtain ⟨N, hN⟩ : ∃ N, N = (c :: r).length := ⟨_, rfl⟩
      have HN := hide hN
      rw [← hN] at hsz hl
      have n1 : (N : Int) ≤ 24 := by omega
      generalize (⟨(c :: r).toArray⟩ : ByteArray) = S at *
      have HSZ := hide hsz
      cases hd : isDig c with
      | true =>
        rw [hd] at d0
        have HE : Hid (wordB (c :: r) = false) := by
          show _ = _
          rw [HW.out, hd]; simp
        clear hsz HX hl hN
        go_enter Tryz.func106, Tryz.ntmps106
        go_wp2_with fail
        refine d0.mono ?_
        rintro e w1 ⟨rfl, hw1⟩
        subst hw1
        go_wp2
        go_ret
        exact ⟨ret_bool HE.out.symm, rfl⟩
      | false =>
        rw [hd] at d0
        have HE : Hid (wordB (c :: r) = (c :: r).all capC) := by
          show _ = _
          rw [HW.out, HT.out, hd]; simp
        have hsz2 : (S.size : Int) = (N : Int) := by omega
        clear hl hN hsz HW HT
        go_enter Tryz.func106, Tryz.ntmps106
        go_wp2_with fail
        refine d0.mono ?_
        rintro e w1 ⟨rfl, hw1⟩
        subst hw1
        clear d0 x0'
        go_wp2_with fail
        go_loopw [18] (fun i wr => ∃ k : Nat, k ≤ N ∧ i = .int .i64 (k : Int) ∧ Hid (((c :: r).take k).all capC = true ∧ wr = w1)) (fun i _ => N - (intOf i).toNat)
        case atStart => exact ⟨0, by omega, rfl, rfl, rfl⟩
        case round =>
          obtain ⟨k, hk, rfl, hh⟩ := hrel
          obtain ⟨ha, hw⟩ := hh.out
          subst hw
          have HA := hide ha
          by_cases hlt : k < N
          · have j1 : (k : Int) < (N : Int) := by omega
            have hki : k < (c :: r).length := by rw [← HN.out]; exact hlt
            have xi := HX.out k hki
            obtain ⟨b, hb⟩ : ∃ b, b = (c :: r)[k] := ⟨_, rfl⟩
            rw [← hb] at xi
            have c1 := fun W => eCap_any b W
            have c2 := fun W => eDigit_any b W
            have HS : Hid (capC b = true → ((c :: r).take (k + 1)).all capC = true) := fun h => by
              rw [List.take_add_one, List.all_append, HA.out, List.getElem?_eq_getElem hki, ← hb]
              simp [h]
            have HF : Hid (capC b = false → (c :: r).all capC = false) := fun h => by
              rw [List.all_eq_false]
              exact ⟨b, by rw [hb]; exact List.getElem_mem hki, by rw [h]; decide⟩
            have HC := hide (capC_eq b)
            clear hb hki ha hh
            go_wp2_with fail
            refine (c1 _).mono ?_
            rintro e w2 ⟨rfl, hw2⟩
            subst hw2
            cases hcb : capB b with
            | true =>
              have HR := hide (HS.out (by rw [HC.out, hcb]; rfl))
              clear c1 c2 HS HF
              go_wp2
              go_roundw
              case rel => exact ⟨k + 1, by omega, by go_num, HR.out, by trivial⟩
              case measure => simp [intOf]; omega
            | false =>
              go_wp2_with fail
              refine (c2 _).mono ?_
              rintro e w3 ⟨rfl, hw3⟩
              subst hw3
              cases hdb : isDig b with
              | true =>
                have HR := hide (HS.out (by rw [HC.out, hcb, hdb]; rfl))
                clear c1 c2 HS HF
                go_wp2
                go_roundw
                case rel => exact ⟨k + 1, by omega, by go_num, HR.out, by trivial⟩
                case measure => simp [intOf]; omega
              | false =>
                have HR := hide (HF.out (by rw [HC.out, hcb, hdb]; rfl))
                clear c1 c2 HS HF
                go_wp2
                go_ret
                exact ⟨ret_bool (by rw [HE.out, HR.out]), rfl⟩
          · obtain rfl : k = N := by omega
            have HT2 : Hid ((c :: r).all capC = true) := by
              have h := HA.out
              rw [List.take_of_length_le (by rw [← HN.out]; exact Nat.le_refl _)] at h
              exact h
            clear hh ha HA
            go_wp2
            go_ret
            exact ⟨ret_bool (by rw [HE.out, HT2.out]), rfl⟩
theorem size163' : (Tryz.prog.info? 163).map (·.size) = some 51 := by kernel_rfl
theorem size163 : (Tryz.prog.info? 163).map (·.size) = some kwTab.length := size163'
theorem kw_idx (k : Nat) (h : k < 51) (W : World) : (Instr.index 163 (.agg kwTab.toArray) (.int .i64 (k : Int))).run Tryz.prog W = .ok (.string ⟨(kwB[k]'h).toArray⟩) W :=
  index_cell Tryz.underlying163 (fun _ => Tryz.isAgg9 _) (fun _ => Tryz.sizeOf9 _) _ k h _ (by
    rw [List.getElem?_toArray, kwTab, List.getElem?_map, List.getElem?_eq_getElem (show k < kwB.length from h)]; rfl) W
set_option maxRecDepth 100000 in
set_option maxHeartbeats 1600000 in
theorem eName_any (s : Bs) (w : World) (hg : TabAt w 1 kwTab) : Calls Tryz.prog 105 #[.string ⟨s.toArray⟩] w fun e w' => e = .returned (.bool (nameB s)) ∧ w' = w := by
  have HN : Hid (nameB s = (!(kwB.contains s) && wordB s)) := rfl
  have c1 := fun W => eWord_any s W
  have ix : Hid (∀ (k : Nat) (h : k < 51) (W : World), (Instr.index 163 (.agg kwTab.toArray) (.int .i64 (k : Int))).run Tryz.prog W = .ok (.string ⟨(kwB[k]'h).toArray⟩) W) := kw_idx
  obtain ⟨S, hS⟩ : ∃ S : ByteArray, S = ⟨s.toArray⟩ := ⟨_, rfl⟩
  rw [← hS] at c1 ⊢
  have HS := hide hS
  clear hS
  obtain ⟨KT, hT⟩ : ∃ KT, Value.agg kwTab.toArray = KT := ⟨_, rfl⟩
  rw [hT] at ix
  go_enter Tryz.func105, Tryz.ntmps105
  go_wp2_with ((with_reducible refine at_load (ty := 163) ?_); go_must (refine load_tab (b := 1) (t := kwTab) (T := KT) rfl hg hT Tryz.underlying163 rfl size163 ?_))
  clear hg hT
  go_loop [6] (fun i => ∃ k : Nat, k ≤ 51 ∧ i = .int .i64 (k : Int) ∧ Hid ((kwB.take k).contains s = false)) (fun i => 51 - (intOf i).toNat)
  case atStart => exact ⟨0, by omega, rfl, rfl⟩
  case round =>
    obtain ⟨k, hk, rfl, hf⟩ := hrel
    by_cases hlt : k < 51
    · have x0 := ix.out k hlt
      have i1 : (k : Int) < 51 := by omega
      obtain ⟨g, hgk⟩ : ∃ g, g = kwB[k]'hlt := ⟨_, rfl⟩
      rw [← hgk] at x0
      have bt := beq_text ⟨g.toArray⟩ S
      have HM : Hid (g ∈ kwB) := by rw [hgk]; exact List.getElem_mem _
      have HTK : Hid (kwB.take (k + 1) = kwB.take k ++ [g]) := by
        show _ = _
        rw [List.take_add_one, List.getElem?_eq_getElem (show k < kwB.length from hlt), hgk]; rfl
      obtain ⟨u, HU⟩ : ∃ u : ByteArray, Hid ((⟨g.toArray⟩ : ByteArray) = u) := ⟨_, rfl⟩
      rw [HU.out] at x0 bt
      clear hgk ix
      by_cases he : u = S
      · have hb : (u.toList == S.toList) = true := by rw [bt]; exact decide_eq_true he
        have HE : Hid (nameB s = false) := by
          show _ = _
          have hgs : g = s := by
            have e : (⟨g.toArray⟩ : ByteArray) = ⟨s.toArray⟩ := by rw [HU.out, ← HS.out]; exact he
            simpa using congrArg (fun x : ByteArray => x.data.toList) e
          rw [HN.out, show kwB.contains s = true from by rw [List.contains_iff_mem, ← hgs]; exact HM.out]; rfl
        clear bt he c1 hf
        go_wp2
        go_ret
        exact ⟨ret_bool HE.out.symm, rfl⟩
      · have hb : (u.toList == S.toList) = false := by rw [bt]; exact decide_eq_false he
        have HR : Hid ((kwB.take (k + 1)).contains s = false) := by
          show _ = _
          rw [HTK.out]
          have h1 := hf.out
          rw [Bool.eq_false_iff, Ne, List.contains_iff_mem] at h1 ⊢
          intro h
          rcases List.mem_append.1 h with h | h
          · exact h1 h
          · exact he (by rw [← HU.out, HS.out, List.mem_singleton.1 h])
        clear bt he c1 hf
        go_wp2
        go_round
        case rel => exact ⟨k + 1, by omega, by go_num, HR.out⟩
        case measure => simp [intOf]; omega
    · obtain rfl : k = 51 := by omega
      have HE : Hid (nameB s = wordB s) := by
        show _ = _
        have h := hf.out
        rw [List.take_of_length_le (show kwB.length ≤ 51 from Nat.le_refl _)] at h
        rw [HN.out, h]; rfl
      clear hf ix
      go_wp2_with fail
      refine (c1 _).mono ?_
      rintro e w1 ⟨rfl, hw1⟩
      subst hw1
      go_wp2
      go_ret
      exact ⟨ret_bool HE.out.symm, rfl⟩
end Go.Proofs.YtldjiieckddhkaaGreatDoor
