/- The contracts of expr.isDigit, isCapital, isWord and Name. | The contracts of wrapping: the program's wrapped, the document's Wrapped. | Which values fit: the contracts of the program's Fits (over its table of spans) and of the document's. | Images: plain definitions, and slices of instructions in memory. -/
import Derived.Test.YtlckedionmgjjaaDoorMg1
import Derived.Test.YtlckedionmgjjaaDoorMg0
namespace Go.Proofs.YtlckedionmgjjaaDoor.Ex
open Go.RowKit
set_option maxRecDepth 100000 in
theorem eDigit_any (c : UInt8) (w : World) : Calls Tryd.prog 68 #[.int .u8 (c.toNat : Int)] w fun e w' => e = .returned (.bool (isDig c)) ∧ w' = w := by
  have E := hide (dig_int c)
  generalize (c.toNat : Int) = x at *
  by_cases h1 : (48 : Int) ≤ x
  · go_enter Tryd.func68, Tryd.ntmps68
    go_wp2
    go_ret
    exact ⟨ret_bool (by rw [E.out, Bool.eq_iff_iff]; simp; try omega), rfl⟩
  · go_enter Tryd.func68, Tryd.ntmps68
    go_wp2
    go_ret
    exact ⟨ret_bool (by rw [E.out, Bool.eq_iff_iff]; simp; try omega), rfl⟩
def capB (c : UInt8) : Bool := (decide (65 ≤ c) && decide (c ≤ 90)) || decide (c = 95)
theorem cap_int (c : UInt8) : capB c = ((decide ((65 : Int) ≤ (c.toNat : Int)) && decide ((c.toNat : Int) ≤ 90)) || decide ((c.toNat : Int) = 95)) := by
  unfold capB
  have e1 : decide ((65 : UInt8) ≤ c) = decide ((65 : Int) ≤ (c.toNat : Int)) := by rw [decide_eq_decide, u8_le]; rfl
  have e2 : decide (c ≤ (90 : UInt8)) = decide ((c.toNat : Int) ≤ 90) := by rw [decide_eq_decide, u8_le]; rfl
  have e3 : decide (c = (95 : UInt8)) = decide ((c.toNat : Int) = 95) := by rw [decide_eq_decide, u8_eq]; rfl
  rw [e1, e2, e3]
theorem capC_eq (c : UInt8) : capC c = (capB c || isDig c) := by
  unfold capC capB
  cases isDig c <;> cases (decide (65 ≤ c) && decide (c ≤ 90)) <;> simp
set_option maxRecDepth 100000 in
theorem eCap_any (c : UInt8) (w : World) : Calls Tryd.prog 69 #[.int .u8 (c.toNat : Int)] w fun e w' => e = .returned (.bool (capB c)) ∧ w' = w := by
  have E := hide (cap_int c)
  generalize (c.toNat : Int) = x at *
  by_cases h1 : (65 : Int) ≤ x
  · by_cases h2 : x ≤ 90
    · go_enter Tryd.func69, Tryd.ntmps69
      go_wp2
      go_ret
      exact ⟨ret_bool (by rw [E.out, Bool.eq_iff_iff]; simp; try omega), rfl⟩
    · go_enter Tryd.func69, Tryd.ntmps69
      go_wp2
      go_ret
      exact ⟨ret_bool (by rw [E.out, Bool.eq_iff_iff]; simp; try omega), rfl⟩
  · go_enter Tryd.func69, Tryd.ntmps69
    go_wp2
    go_ret
    exact ⟨ret_bool (by rw [E.out, Bool.eq_iff_iff]; simp; try omega), rfl⟩
theorem beq_text (a b : ByteArray) : (a.toList == b.toList) = decide (a = b) := by
  rw [ByteArray.toList_eq, ByteArray.toList_eq]
  by_cases h : a = b
  · rw [h, decide_eq_true rfl]; exact beq_self_eq_true _
  · rw [decide_eq_false h, beq_eq_false_iff_ne]; exact fun e => h (text_ext e)
theorem nil_text (s : Bs) : (⟨s.toArray⟩ : ByteArray).toList.isEmpty = decide (s = []) := by
  rw [ByteArray.toList_eq]
  cases s <;> rfl
set_option maxRecDepth 100000 in
set_option maxHeartbeats 1600000 in
theorem eWord_any (s : Bs) (w : World) : Calls Tryd.prog 44 #[.string ⟨s.toArray⟩] w fun e w' => e = .returned (.bool (wordB s)) ∧ w' = w := by
  match s with
  | [] =>
    go_enter Tryd.func44, Tryd.ntmps44
    go_wp2
    go_ret
    exact ⟨rfl, rfl⟩
  | c :: r =>
    have e2 : (⟨(c :: r).toArray⟩ : ByteArray).toList.isEmpty = false := by rw [nil_text]; rfl
    have hsz := list_size (c :: r)
    have HW : Hid (wordB (c :: r) = (decide (r.length + 1 ≤ 24) && (!isDig c && (c :: r).all capC))) := rfl
    have HX : Hid (∀ (i : Nat) (h : i < (c :: r).length), ∀ W : World, (Instr.index 9 (.string ⟨(c :: r).toArray⟩) (.int .i64 (i : Int))).run Tryd.prog W = .ok (.int .u8 ((c :: r)[i].toNat : Int)) W) := fun i h W => run_idx ⟨(c :: r).toArray⟩ i (c :: r)[i] (List.getElem?_eq_getElem h) W
    have x0 := HX.out 0 (by simp)
    simp only [List.getElem_cons_zero] at x0
    have x0' : ∀ W : World, (Instr.index 9 (.string ⟨(c :: r).toArray⟩) (.int .i64 0)).run Tryd.prog W = .ok (.int .u8 (c.toNat : Int)) W := x0
    have d0 := eDigit_any c w
    clear x0
    by_cases hl : 24 < (c :: r).length
    · have i1 : (24 : Int) < ((⟨(c :: r).toArray⟩ : ByteArray).size : Int) := by omega
      have HE : Hid (wordB (c :: r) = false) := by
        show _ = _
        rw [HW.out, decide_eq_false (by simp at hl; omega)]; rfl
      generalize (⟨(c :: r).toArray⟩ : ByteArray) = S at *
      clear hsz HX d0 x0' hl
      go_enter Tryd.func44, Tryd.ntmps44
      go_wp2
      go_ret
      exact ⟨ret_bool HE.out.symm, rfl⟩
    · have i1 : ¬ (24 : Int) < ((⟨(c :: r).toArray⟩ : ByteArray).size : Int) := by omega
      have HT : Hid (decide (r.length + 1 ≤ 24) = true) := decide_eq_true (by simp at hl; omega)
      obtain ⟨N, hN⟩ : ∃ N, N = (c :: r).length := ⟨_, rfl⟩
      have HN := hide hN
      rw [← hN] at hsz hl
      have n1 : (N : Int) ≤ 24 := by omega
      generalize (⟨(c :: r).toArray⟩ : ByteArray) = S at *
      have HSZ := hide hsz
      cases hd : isDig c with
      | true =>
        rw [hd] at d0
        have HE : Hid (wordB (c :: r) = false) := by
          show _ = _
          rw [HW.out, hd]; simp
        clear hsz HX hl hN
        go_enter Tryd.func44, Tryd.ntmps44
        go_wp2_with fail
        refine d0.mono ?_
        rintro e w1 ⟨rfl, hw1⟩
        subst hw1
        go_wp2
        go_ret
        exact ⟨ret_bool HE.out.symm, rfl⟩
      | false =>
        rw [hd] at d0
        have HE : Hid (wordB (c :: r) = (c :: r).all capC) := by
          show _ = _
          rw [HW.out, HT.out, hd]; simp
        have hsz2 : (S.size : Int) = (N : Int) := by omega
        clear hl hN hsz HW HT
        go_enter Tryd.func44, Tryd.ntmps44
        go_wp2_with fail
        refine d0.mono ?_
        rintro e w1 ⟨rfl, hw1⟩
        subst hw1
        clear d0 x0'
        go_wp2_with fail
        go_loopw [18] (fun i wr => ∃ k : Nat, k ≤ N ∧ i = .int .i64 (k : Int) ∧ Hid (((c :: r).take k).all capC = true ∧ wr = w1)) (fun i _ => N - (intOf i).toNat)
        case atStart => exact ⟨0, by omega, rfl, rfl, rfl⟩
        case round =>
          obtain ⟨k, hk, rfl, hh⟩ := hrel
          obtain ⟨ha, hw⟩ := hh.out
          subst hw
          have HA := hide ha
          by_cases hlt : k < N
          · have j1 : (k : Int) < (N : Int) := by omega
            have hki : k < (c :: r).length := by rw [← HN.out]; exact hlt
            have xi := HX.out k hki
            obtain ⟨b, hb⟩ : ∃ b, b = (c :: r)[k] := ⟨_, rfl⟩
            rw [← hb] at xi
            have c1 := fun W => eCap_any b W
            have c2 := fun W => eDigit_any b W
            have HS : Hid (capC b = true → ((c :: r).take (k + 1)).all capC = true) := fun h => by
              rw [List.take_add_one, List.all_append, HA.out, List.getElem?_eq_getElem hki, ← hb]
              simp [h]
            have HF : Hid (capC b = false → (c :: r).all capC = false) := fun h => by
              rw [List.all_eq_false]
              exact ⟨b, by rw [hb]; exact List.getElem_mem hki, by rw [h]; decide⟩
            have HC := hide (capC_eq b)
            clear hb hki ha hh
            go_wp2_with fail
            refine (c1 _).mono ?_
            rintro e w2 ⟨rfl, hw2⟩
            subst hw2
            cases hcb : capB b with
            | true =>
              have HR := hide (HS.out (by rw [HC.out, hcb]; rfl))
              clear c1 c2 HS HF
              go_wp2
              go_roundw
              case rel => exact ⟨k + 1, by omega, by go_num, HR.out, by trivial⟩
              case measure => simp [intOf]; omega
            | false =>
              go_wp2_with fail
              refine (c2 _).mono ?_
              rintro e w3 ⟨rfl, hw3⟩
              subst hw3
              cases hdb : isDig b with
              | true =>
                have HR := hide (HS.out (by rw [HC.out, hcb, hdb]; rfl))
                clear c1 c2 HS HF
                go_wp2
                go_roundw
                case rel => exact ⟨k + 1, by omega, by go_num, HR.out, by trivial⟩
                case measure => simp [intOf]; omega
              | false =>
                have HR := hide (HF.out (by rw [HC.out, hcb, hdb]; rfl))
                clear c1 c2 HS HF
                go_wp2
                go_ret
                exact ⟨ret_bool (by rw [HE.out, HR.out]), rfl⟩
          · obtain rfl : k = N := by omega
            have HT2 : Hid ((c :: r).all capC = true) := by
              have h := HA.out
              rw [List.take_of_length_le (by rw [← HN.out]; exact Nat.le_refl _)] at h
              exact h
            clear hh ha HA
            go_wp2
            go_ret
            exact ⟨ret_bool (by rw [HE.out, HT2.out]), rfl⟩
theorem size84' : (Tryd.prog.info? 84).map (·.size) = some 51 := by kernel_rfl
theorem size84 : (Tryd.prog.info? 84).map (·.size) = some kwTab.length := size84'
theorem kw_idx (k : Nat) (h : k < 51) (W : World) : (Instr.index 84 (.agg kwTab.toArray) (.int .i64 (k : Int))).run Tryd.prog W = .ok (.string ⟨(kwB[k]'h).toArray⟩) W :=
  index_cell Tryd.underlying84 (fun _ => Tryd.isAgg9 _) (fun _ => Tryd.sizeOf9 _) _ k h _ (by
    rw [List.getElem?_toArray, kwTab, List.getElem?_map, List.getElem?_eq_getElem (show k < kwB.length from h)]; rfl) W
set_option maxRecDepth 100000 in
set_option maxHeartbeats 1600000 in
theorem eName_any (s : Bs) (w : World) (hg : TabAt w 0 kwTab) : Calls Tryd.prog 28 #[.string ⟨s.toArray⟩] w fun e w' => e = .returned (.bool (nameB s)) ∧ w' = w := by
  have HN : Hid (nameB s = (!(kwB.contains s) && wordB s)) := rfl
  have c1 := fun W => eWord_any s W
  have ix : Hid (∀ (k : Nat) (h : k < 51) (W : World), (Instr.index 84 (.agg kwTab.toArray) (.int .i64 (k : Int))).run Tryd.prog W = .ok (.string ⟨(kwB[k]'h).toArray⟩) W) := kw_idx
  obtain ⟨S, hS⟩ : ∃ S : ByteArray, S = ⟨s.toArray⟩ := ⟨_, rfl⟩
  rw [← hS] at c1 ⊢
  have HS := hide hS
  clear hS
  obtain ⟨KT, hT⟩ : ∃ KT, Value.agg kwTab.toArray = KT := ⟨_, rfl⟩
  rw [hT] at ix
  go_enter Tryd.func28, Tryd.ntmps28
  go_wp2_with ((with_reducible refine at_load (ty := 84) ?_); go_must (refine load_tab (b := 0) (t := kwTab) (T := KT) rfl hg hT Tryd.underlying84 rfl size84 ?_))
  clear hg hT
  go_loop [6] (fun i => ∃ k : Nat, k ≤ 51 ∧ i = .int .i64 (k : Int) ∧ Hid ((kwB.take k).contains s = false)) (fun i => 51 - (intOf i).toNat)
  case atStart => exact ⟨0, by omega, rfl, rfl⟩
  case round =>
    obtain ⟨k, hk, rfl, hf⟩ := hrel
    by_cases hlt : k < 51
    · have x0 := ix.out k hlt
      have i1 : (k : Int) < 51 := by omega
      obtain ⟨g, hgk⟩ : ∃ g, g = kwB[k]'hlt := ⟨_, rfl⟩
      rw [← hgk] at x0
      have bt := beq_text ⟨g.toArray⟩ S
      have HM : Hid (g ∈ kwB) := by rw [hgk]; exact List.getElem_mem _
      have HTK : Hid (kwB.take (k + 1) = kwB.take k ++ [g]) := by
        show _ = _
        rw [List.take_add_one, List.getElem?_eq_getElem (show k < kwB.length from hlt), hgk]; rfl
      obtain ⟨u, HU⟩ : ∃ u : ByteArray, Hid ((⟨g.toArray⟩ : ByteArray) = u) := ⟨_, rfl⟩
      rw [HU.out] at x0 bt
      clear hgk ix
      by_cases he : u = S
      · have hb : (u.toList == S.toList) = true := by rw [bt]; exact decide_eq_true he
        have HE : Hid (nameB s = false) := by
          show _ = _
          have hgs : g = s := by
            have e : (⟨g.toArray⟩ : ByteArray) = ⟨s.toArray⟩ := by rw [HU.out, ← HS.out]; exact he
            simpa using congrArg (fun x : ByteArray => x.data.toList) e
          rw [HN.out, show kwB.contains s = true from by rw [List.contains_iff_mem, ← hgs]; exact HM.out]; rfl
        clear bt he c1 hf
        go_wp2
        go_ret
        exact ⟨ret_bool HE.out.symm, rfl⟩
      · have hb : (u.toList == S.toList) = false := by rw [bt]; exact decide_eq_false he
        have HR : Hid ((kwB.take (k + 1)).contains s = false) := by
          show _ = _
          rw [HTK.out]
          have h1 := hf.out
          rw [Bool.eq_false_iff, Ne, List.contains_iff_mem] at h1 ⊢
          intro h
          rcases List.mem_append.1 h with h | h
          · exact h1 h
          · exact he (by rw [← HU.out, HS.out, List.mem_singleton.1 h])
        clear bt he c1 hf
        go_wp2
        go_round
        case rel => exact ⟨k + 1, by omega, by go_num, HR.out⟩
        case measure => simp [intOf]; omega
    · obtain rfl : k = 51 := by omega
      have HE : Hid (nameB s = wordB s) := by
        show _ = _
        have h := hf.out
        rw [List.take_of_length_le (show kwB.length ≤ 51 from Nat.le_refl _)] at h
        rw [HN.out, h]; rfl
      clear hf ix
      go_wp2_with fail
      refine (c1 _).mono ?_
      rintro e w1 ⟨rfl, hw1⟩
      subst hw1
      go_wp2
      go_ret
      exact ⟨ret_bool HE.out.symm, rfl⟩
end Go.Proofs.YtlckedionmgjjaaDoor.Ex
namespace Go.Proofs.YtlckedionmgjjaaDoor.Four
open Go.RowKit
theorem and_one (n : Int) : bits .and .i64 n 1 = n % 2 := by
  show IntKind.i64.wrap ((BitVec.ofInt 64 n &&& BitVec.ofInt 64 1).toNat : Int) = _
  rw [BitVec.toNat_and, ofInt_mod, show (BitVec.ofInt 64 1).toNat = 1 from rfl, Nat.and_one_is_mod]
  simp [IntKind.wrap, IntKind.bits, IntKind.signed]
  omega
theorem w64 {n : Int} (h1 : -9223372036854775808 ≤ n) (h2 : n < 9223372036854775808) : wrap64 n = n := by
  unfold wrap64; omega
theorem tmod_up (n m : Int) (hm : m = 65536 ∨ m = 4294967296) : (wrap64 (n.tmod m + m)).tmod m = n % m := by
  have h : n.tmod m = n % m ∨ n.tmod m = n % m - m := by
    rcases Int.le_total 0 n with h0 | h0
    · left; exact Int.tmod_eq_emod_of_nonneg h0
    · have e : (-n).tmod m = -(n.tmod m) := Int.neg_tmod n m
      rw [Int.tmod_eq_emod_of_nonneg (show 0 ≤ -n by omega)] at e
      rcases hm with rfl | rfl <;> omega
  have h2 : 0 ≤ n.tmod m + m ∧ n.tmod m + m < 9223372036854775808 ∧ (n.tmod m + m) % m = n % m := by
    rcases hm with rfl | rfl <;> omega
  rw [w64 (by omega) (by omega), Int.tmod_eq_emod_of_nonneg h2.1, h2.2.2]
theorem wr_i16 (n : Int) : wrap64 (IntKind.i16.wrap n) = wrN 2 n := by
  have e : IntKind.i16.wrap n = wrN 2 n := by
    unfold wrN
    rw [if_neg (by decide), show szN 2 = 65536 from rfl]
    simp [IntKind.wrap, IntKind.bits, IntKind.signed]
  obtain ⟨a, b⟩ := wr_range (t := 2) (by decide) n
  rw [show szN 2 = 65536 from rfl] at a b
  rw [e, w64 (by omega) (by omega)]
theorem wr_i32 {t : Int} (h1 : t ≠ 1) (h2 : t ≠ 2) (n : Int) : wrap64 (wrap32 n) = wrN t n := by
  have es : szN t = 4294967296 := by unfold szN; rw [if_neg h2]
  have e : wrap32 n = wrN t n := by
    unfold wrN wrap32
    rw [if_neg h1, es]
    split <;> omega
  obtain ⟨a, b⟩ := wr_range (t := t) h1 n
  rw [es] at a b
  rw [e, w64 (by omega) (by omega)]
set_option maxRecDepth 100000 in
theorem wrapped_any (t n : Int) (w : World) : Calls Tryd.prog 83 #[.int .i64 t, .int .i64 n] w fun e w' => e = .returned (.int .i64 (wrN t n)) ∧ w' = w := by
  by_cases h1 : t = 1
  · subst h1
    have E := hide ((wr_one n).trans (and_one n).symm)
    go_enter Tryd.func83, Tryd.ntmps83
    go_wp2
    go_ret
    exact ⟨by rw [E.out]; rfl, rfl⟩
  · by_cases h2 : t = 2
    · subst h2
      have E := hide (wr_i16 n).symm
      clear h1
      go_enter Tryd.func83, Tryd.ntmps83
      go_wp2
      go_ret
      exact ⟨by rw [E.out]; rfl, rfl⟩
    · have E := hide (wr_i32 h1 h2 n).symm
      go_enter Tryd.func83, Tryd.ntmps83
      go_wp2
      go_ret
      exact ⟨by rw [E.out]; rfl, rfl⟩
end Go.Proofs.YtlckedionmgjjaaDoor.Four
namespace Go.Proofs.YtlckedionmgjjaaDoor.Four
open Go.RowKit
/-- the table of spans lies in memory -/
def Glo (w : World) : Prop := ∀ k (h : k < 10), w.cell? ⟨1, k, none⟩ = some (.int .i64 ([0, 0, 0, 1, -32768, 32767, -2147483648, 2147483647, -2147483648, 2147483647][k]'h))
theorem Glo.below {B : Nat} {w w' : World} (h : Glo w) (hb : Below B w w') (hB : 1 < B) : Glo w' := fun t ht => (hb.cell (p := ⟨1, t, none⟩) hB).trans (h t ht)
theorem Glo.lt {w : World} (h : Glo w) : 1 < w.heap.size := World.block_lt_of_cell? w _ (h 0 (by omega))
theorem fit_span (t n : Int) : fitB t n = (tyB t && (decide (([0, 0, -32768, -2147483648, -2147483648] : List Int).getD t.toNat 0 ≤ n) && decide (n ≤ ([0, 1, 32767, 2147483647, 2147483647] : List Int).getD t.toNat 0))) := by
  by_cases h1 : 1 ≤ t
  · by_cases h4 : t ≤ 4
    · have : t = 1 ∨ t = 2 ∨ t = 3 ∨ t = 4 := by omega
      rcases this with rfl | rfl | rfl | rfl
      · unfold fitB
        rw [if_pos rfl]
        show _ = (true && (decide ((0 : Int) ≤ n) && decide (n ≤ 1)))
        rw [Bool.eq_iff_iff]; simp; omega
      · unfold fitB
        rw [if_neg (by decide)]
        show (true && (decide (-(65536 / 2 : Int) ≤ n) && decide (n < 65536 / 2))) = (true && (decide ((-32768 : Int) ≤ n) && decide (n ≤ 32767)))
        rw [Bool.eq_iff_iff]; simp; omega
      all_goals
        unfold fitB
        rw [if_neg (by decide)]
        show (true && (decide (-(4294967296 / 2 : Int) ≤ n) && decide (n < 4294967296 / 2))) = (true && (decide ((-2147483648 : Int) ≤ n) && decide (n ≤ 2147483647)))
        rw [Bool.eq_iff_iff]; simp; omega
    · have e : tyB t = false := by unfold tyB; rw [decide_eq_false h4, Bool.and_false]
      unfold fitB; rw [if_neg (by omega), e]; rfl
  · have e : tyB t = false := by unfold tyB; rw [decide_eq_false h1]; rfl
    unfold fitB; rw [if_neg (by omega), e]; rfl
set_option maxRecDepth 100000 in
theorem fits_any (t n : Int) (w : World) (hg : Glo w) : Calls Tryd.prog 45 #[.int .i64 t, .int .i64 n] w fun e w' => e = .returned (.bool (fitB t n)) ∧ w' = w := by
  have E := hide (fit_span t n)
  have c := isType_any t
  by_cases ht : tyB t = true
  · rw [ht] at c
    rw [E.out, ht, Bool.true_and]
    have : t = 1 ∨ t = 2 ∨ t = 3 ∨ t = 4 := by
      unfold tyB at ht
      rw [Bool.and_eq_true] at ht
      have h1 := of_decide_eq_true ht.1
      have h2 := of_decide_eq_true ht.2
      omega
    have g0 := hg 2 (by omega)
    have g1 := hg 3 (by omega)
    have g2 := hg 4 (by omega)
    have g3 := hg 5 (by omega)
    have g4 := hg 6 (by omega)
    have g5 := hg 7 (by omega)
    have g6 := hg 8 (by omega)
    have g7 := hg 9 (by omega)
    clear E ht hg
    rcases this with rfl | rfl | rfl | rfl
    all_goals
      go_enter Tryd.func45, Tryd.ntmps45
      go_wp2_with fail
      refine (c _).mono ?_
      rintro e w1 ⟨rfl, rfl⟩
      go_wp2
    all_goals
      go_ret
      refine ⟨ret_bool ?_, rfl⟩
      simp
      omega
  · rw [Bool.not_eq_true] at ht
    rw [ht] at c
    rw [E.out, ht]
    clear E hg ht
    go_enter Tryd.func45, Tryd.ntmps45
    go_wp2_with fail
    refine (c _).mono ?_
    rintro e w1 ⟨rfl, rfl⟩
    go_wp2
    go_ret
    exact ⟨rfl, rfl⟩
end Go.Proofs.YtlckedionmgjjaaDoor.Four
namespace Go.Proofs.YtlckedionmgjjaaDoor
open Go.RowKit
/-- an instruction -/
structure Ins where
  op : Int
  a : Int
  b : Int
  n : Int
deriving DecidableEq
/-- an image -/
structure Img where
  name : List UInt8
  ty : List Int
  fi : List Int
  ins : List Int
  outs : List Int
  cd : List Ins
def inB (c : Int) (n : Nat) : Bool := decide (0 ≤ c) && decide (c < (n : Int))
def fromB (n : Nat) (c m : Int) : Bool := inB c n && decide (m ≤ (n : Int) - c)
def arrB (ty : List Int) (a b : Int) : Bool := decide (1 ≤ b) && (decide (b ≤ 32) && (fromB ty.length a b && ((ty.drop a.toNat).take b.toNat).all fun t => t == ty.getD a.toNat 0))
def fldT (k : Int) : List Int := (fldK k).map Prod.fst
def blkB (ty : List Int) (k b : Int) : Bool := kindOk k && (fromB ty.length b ((fldK k).length : Int) && ((ty.drop b.toNat).take (fldK k).length == fldT k))
/-- what of an instruction must be 0 -/
def hasN (op : Int) : Nat := if op = 1 then 5 else if op = 2 ∨ op = 3 ∨ op = 9 ∨ op = 10 then 1 else if op = 12 then 0 else 3
def zeroB (h : Nat) (i : Ins) : Bool := (decide (h % 2 ≠ 0) || decide (i.a = 0)) && ((decide (h / 2 % 2 ≠ 0) || decide (i.b = 0)) && (decide (h / 4 % 2 ≠ 0) || decide (i.n = 0)))
def rightB (ty : List Int) (m : Nat) (i : Ins) : Bool :=
  if i.op = 1 then Four.fitB i.a i.n
  else if i.op = 2 ∨ i.op = 3 then inB i.a ty.length
  else if i.op = 4 ∨ i.op = 5 then arrB ty i.a i.b
  else if i.op = 6 then Four.has2 i.a i.b
  else if i.op = 7 then Four.has1 i.a i.b
  else if i.op = 8 then Four.tyB i.a && (Four.tyB i.b && decide ((i.a = 1) ↔ (i.b = 1)))
  else if i.op = 9 ∨ i.op = 10 then inB i.a m
  else if i.op = 11 then blkB ty i.a i.b else true
def mayI (ty : List Int) (m : Nat) (i : Ins) : Bool := (decide (1 ≤ i.op) && decide (i.op ≤ 12)) && (zeroB (hasN i.op) i && rightB ty m i)
/-- cells, none of them twice, nor among those ahead -/
def lineB (n : Nat) : List Int → List Int → Bool
  | _, [] => true
  | seen, c :: r => inB c n && (!(seen.contains c) && lineB n (c :: seen) r)
def cellB (x : Img) : Bool := decide (x.ty.length = x.fi.length) && (decide (x.ty.length ≤ 1024) && (List.zipWith Four.fitB x.ty x.fi).all id)
def frameB (x : Img) : Bool := Ex.nameB x.name && (cellB x && (lineB x.ty.length [] (x.ins ++ x.outs) && (decide (1 ≤ x.cd.length) && decide (x.cd.length ≤ 4096))))
/-- the first instruction that may not be -/
def badAt (ty : List Int) (m : Nat) : Nat → List Ins → Option Nat
  | _, [] => none
  | k, i :: r => if mayI ty m i then badAt ty m (k + 1) r else some k
def chkP (x : Img) : Int × Int := if frameB x then (match badAt x.ty x.cd.length 0 x.cd with | none => (0, 0) | some k => ((k : Int), 130)) else (-1, 130)
/-- a slice of instructions -/
def ISt (w : World) (v : Value) (l : List Ins) : Prop :=
  ∃ a b off cap, v = .slice a l.length cap ∧ (0 < l.length → b < w.heap.size ∧ a = some ⟨b, off, none⟩) ∧
    ∀ i q, l[i]? = some q → w.cell? ⟨b, off + i * 4, none⟩ = some (.int .i64 q.op) ∧ w.cell? ⟨b, off + i * 4 + 1, none⟩ = some (.int .i64 q.a) ∧ w.cell? ⟨b, off + i * 4 + 2, none⟩ = some (.int .i64 q.b) ∧ w.cell? ⟨b, off + i * 4 + 3, none⟩ = some (.int .i64 q.n)
theorem ISt.on {w w' : World} {v : Value} {l : List Ins} (h : ISt w v l) (hb : Below w.heap.size w w') : ISt w' v l := by
  obtain ⟨a, b, off, cap, rfl, h0, hI⟩ := h
  refine ⟨a, b, off, cap, rfl, fun h => ⟨by have := hb.size; have := (h0 h).1; omega, (h0 h).2⟩, fun i q hq => ?_⟩
  have hlt : b < w.heap.size := (h0 (by have := (List.getElem?_eq_some_iff.1 hq).1; omega)).1
  obtain ⟨h1, h2, h3, h4⟩ := hI i q hq
  exact ⟨(hb.cell (p := ⟨b, _, none⟩) hlt).trans h1, (hb.cell (p := ⟨b, _, none⟩) hlt).trans h2, (hb.cell (p := ⟨b, _, none⟩) hlt).trans h3, (hb.cell (p := ⟨b, _, none⟩) hlt).trans h4⟩
/-- an image's six cells -/
structure Im (w : World) (nm tv fv iv ov cv : Value) (x : Img) : Prop where
  name : nm = .string ⟨x.name.toArray⟩
  ty : ILst w tv x.ty
  fi : ILst w fv x.fi
  ins : ILst w iv x.ins
  outs : ILst w ov x.outs
  cd : ISt w cv x.cd
theorem Im.on {w w' : World} {nm tv fv iv ov cv : Value} {x : Img} (h : Im w nm tv fv iv ov cv x) (hb : Below w.heap.size w w') : Im w' nm tv fv iv ov cv x :=
  ⟨h.name, h.ty.on hb, h.fi.on hb, h.ins.on hb, h.outs.on hb, h.cd.on hb⟩
end Go.Proofs.YtlckedionmgjjaaDoor
