/- The contract of the document's skip. -/
import Derived.Test.YtfcnbiikjopajaaDoorRBegW
namespace Go.Proofs.YtfcnbiikjopajaaDoor
open Go.RowKit
theorem dropAt {l : Bs} {j : Nat} (hj : j < l.length) : l.drop j = l[j] :: l.drop (j + 1) := List.drop_eq_getElem_cons hj
theorem skip_blk {l : Bs} {j : Nat} (hj : j < l.length) (h : isBlk l[j] = true) : skip (l.drop j) = skip (l.drop (j + 1)) := by
  rw [dropAt hj, skip_cons, if_pos h]
theorem pre_cons {a b : UInt8} {l : Bs} {j : Nat} (hj : j < l.length) : List.isPrefixOf [a, b] (l.drop j) = decide (l[j] = a ∧ (l.drop (j + 1)).head? = some b) := by
  rw [dropAt hj, pre_two]
theorem skip_note {l : Bs} {j : Nat} (hj : j < l.length) (h0 : isBlk l[j] = false) (h : List.isPrefixOf [40, 42] (l.drop j) = true) : j + 2 ≤ l.length ∧ skip (l.drop j) = match findP [42, 41] (l.drop (j + 2)) with | none => .error (l.drop j) | some i => skip (l.drop (j + 2 + i + 2)) := by
  rw [pre_cons hj, decide_eq_true_iff] at h
  have h2 : j + 1 < l.length := by
    have := h.2
    by_cases hh : j + 1 < l.length
    · exact hh
    · rw [List.drop_of_length_le (by omega)] at this; cases this
  refine ⟨by omega, ?_⟩
  rw [dropAt hj, skip_cons, if_neg (by rw [h0]; decide), if_pos h, List.tail_drop, findP_note]
  cases findP [42, 41] (l.drop (j + 1 + 1)) with
  | none => rfl
  | some i =>
    simp only [Option.map_some]
    rw [List.drop_drop]; congr 2
theorem skip_line {l : Bs} {j : Nat} (hj : j < l.length) (h0 : isBlk l[j] = false) (h : List.isPrefixOf [47, 47] (l.drop j) = true) : (findP [10] (l.drop j) = none ∧ skip (l.drop j) = skip (l.drop l.length)) ∨ ∃ i, findP [10] (l.drop j) = some i ∧ 0 < i ∧ j + i ≤ l.length ∧ skip (l.drop j) = skip (l.drop (j + i)) := by
  rw [pre_cons hj, decide_eq_true_iff] at h
  have e : skip (l.drop j) = skip (toLine (l.drop j)) := by
    rw [dropAt hj, skip_cons, if_neg (by rw [h0]; decide), if_neg (by rw [h.1]; exact fun x => absurd x.1 (by decide)), if_pos h]
    conv => rhs; rw [toLine, if_neg (by rw [h.1]; decide)]
  rw [findP_line] at e
  cases hf : findP [10] (l.drop j) with
  | none =>
    rw [hf] at e
    simp only [] at e
    exact .inl ⟨rfl, by rw [e, List.drop_length]⟩
  | some i =>
    rw [hf] at e
    simp only [List.drop_drop] at e
    have hle := findP_le hf
    rw [List.length_drop] at hle
    refine .inr ⟨i, rfl, ?_, by omega, e⟩
    rcases Nat.eq_zero_or_pos i with rfl | hp
    · rw [dropAt hj, findP, if_neg (by rw [h.1]; simp [List.isPrefixOf])] at hf
      cases hq : findP [10] (l.drop (j + 1)) with
      | none => rw [hq] at hf; cases hf
      | some q => rw [hq] at hf; cases hf
    · exact hp
theorem skip_brace {l : Bs} {j : Nat} (hj : j < l.length) (h : l[j] = 123) : skip (l.drop j) = match findP [125] (l.drop j) with | none => .error (l.drop j) | some i => skip (l.drop (j + i + 1)) := by
  have e : pastBrace (l.drop (j + 1)) = pastBrace (l.drop j) := by
    rw [dropAt hj, pastBrace, if_neg (by rw [h]; decide)]
  conv => lhs; rw [dropAt hj, skip_cons, if_neg (by rw [h]; decide), if_neg (by rw [h]; exact fun x => absurd x.1 (by decide)), if_neg (by rw [h]; exact fun x => absurd x.1 (by decide)), if_pos h, e, findP_brace]
  cases findP [125] (l.drop j) with
  | none => simp only [Option.map_none]; rw [← dropAt hj]
  | some i =>
    simp only [Option.map_some]
    rw [List.drop_drop]; congr 2
theorem skip_else {l : Bs} {j : Nat} (hj : j < l.length) (h0 : isBlk l[j] = false) (h1 : List.isPrefixOf [40, 42] (l.drop j) = false) (h2 : List.isPrefixOf [47, 47] (l.drop j) = false) (h3 : l[j] ≠ 123) : skip (l.drop j) = .ok (l.drop j) := by
  rw [pre_cons hj, decide_eq_false_iff_not] at h1 h2
  rw [dropAt hj, skip_cons, if_neg (by rw [h0]; decide), if_neg h1, if_neg h2, if_neg h3]
/-- skip's answer -/
def skipV (L : Nat) : Except Bs Bs → Value
  | .ok r => .tuple #[.int .i64 ((L - r.length : Nat) : Int), .int .i64 0]
  | .error b => .tuple #[.int .i64 (-1), .int .i64 ((L - b.length : Nat) : Int)]
theorem blk_int (c : UInt8) : isBlk c = (((c.toNat : Int) == 32) || (((c.toNat : Int) == 9) || (((c.toNat : Int) == 10) || ((c.toNat : Int) == 13)))) :=
  all8 (P := fun c => isBlk c = (((c.toNat : Int) == 32) || (((c.toNat : Int) == 9) || (((c.toNat : Int) == 10) || ((c.toNat : Int) == 13))))) (by decide +kernel) c
set_option maxRecDepth 100000 in
set_option maxHeartbeats 3200000 in
theorem rskip_any (l : Bs) (k : Nat) (hl : l.length ≤ 65536) (hk : k ≤ l.length) (w : World) : Calls Tryd.prog 25 #[.string ⟨l.toArray⟩, .int .i64 (k : Int)] w fun e w' => e = .returned (skipV l.length (skip (l.drop k))) ∧ w' = w := by
  have hsz := hide (list_size l)
  have HX : Hid (∀ (i : Nat) (h : i < l.length), ∀ W : World, (Instr.index 9 (.string ⟨l.toArray⟩) (.int .i64 (i : Int))).run Tryd.prog W = .ok (.int .u8 (l[i].toNat : Int)) W) := fun i h W => run_idx ⟨l.toArray⟩ i l[i] (List.getElem?_eq_getElem h) W
  have CB : Hid (∀ (p : Bs), p.length ≤ 8 → ∀ j, j ≤ l.length → ∀ W, Calls Tryd.prog 43 #[.string ⟨l.toArray⟩, .int .i64 (j : Int), .string ⟨p.toArray⟩] W fun e w' => e = .returned (.bool (p.isPrefixOf (l.drop j))) ∧ w' = W) := fun p hp j hj W => begins_any l p j hl hp hj W
  have CF : Hid (∀ (p : Bs), p.length ≤ 8 → 1 ≤ p.length → ∀ j, j ≤ l.length → ∀ W, Calls Tryd.prog 44 #[.string ⟨l.toArray⟩, .int .i64 (j : Int), .string ⟨p.toArray⟩] W fun e w' => e = .returned (.int .i64 (findI j (findP p (l.drop j)))) ∧ w' = W) := fun p hp hp1 j hj W => find_any l p j hl hp hp1 hj W
  have i0 : ((⟨l.toArray⟩ : ByteArray).size : Int) ≤ 65536 := by rw [list_size]; omega
  generalize (⟨l.toArray⟩ : ByteArray) = s at *
  go_enter Tryd.func25, Tryd.ntmps25
  go_wp2_with fail
  go_loopw [1] (fun i wr => ∃ j : Nat, k ≤ j ∧ j ≤ l.length ∧ i = .int .i64 (j : Int) ∧ wr = w ∧ Hid (skip (l.drop k) = skip (l.drop j))) (fun i _ => l.length - (intOf i).toNat)
  case atStart => exact ⟨k, Nat.le_refl _, hk, rfl, rfl, rfl⟩
  case round =>
    obtain ⟨j, hkj, hjl, rfl, rfl, hh⟩ := hrel
    have j0 : (0 : Int) ≤ (j : Int) := by omega
    have jl : (j : Int) ≤ 65536 := by omega
    by_cases hlt : j < l.length
    · have g1 : (j : Int) < (s.size : Int) := by have := hsz.out; omega
      have hix := HX.out j hlt
      have HB := hide (blk_int l[j])
      cases hb : isBlk l[j] with
      | true =>
        have HR := hide (hh.out.trans (skip_blk hlt hb))
        rw [hb] at HB
        have hx := byte_lt l[j]
        generalize (l[j].toNat : Int) = x at *
        clear hh CB CF HX hb
        have hor : x = 32 ∨ x = 9 ∨ x = 10 ∨ x = 13 := by
          have := HB.out
          simp only [Bool.true_eq, Bool.or_eq_true, beq_iff_eq] at this
          exact this
        clear HB
        rcases hor with rfl | rfl | rfl | rfl
        · go_wp2
          go_roundw
          case rel => exact ⟨j + 1, by omega, by omega, by go_num, trivial, HR.out⟩
          case measure => simp only [intOf]; omega
        · go_wp2
          go_roundw
          case rel => exact ⟨j + 1, by omega, by omega, by go_num, trivial, HR.out⟩
          case measure => simp only [intOf]; omega
        · go_wp2
          go_roundw
          case rel => exact ⟨j + 1, by omega, by omega, by go_num, trivial, HR.out⟩
          case measure => simp only [intOf]; omega
        · go_wp2
          go_roundw
          case rel => exact ⟨j + 1, by omega, by omega, by go_num, trivial, HR.out⟩
          case measure => simp only [intOf]; omega
      | false =>
        rw [hb] at HB
        have hor : ((l[j].toNat : Int) == 32) = false ∧ ((l[j].toNat : Int) == 9) = false ∧ ((l[j].toNat : Int) == 10) = false ∧ ((l[j].toNat : Int) == 13) = false := by
          have := HB.out
          simp only [Bool.false_eq, Bool.or_eq_false_iff] at this
          exact ⟨this.1, this.2.1, this.2.2.1, this.2.2.2⟩
        obtain ⟨x32, x9, x10, x13⟩ := hor
        have cb1 := CB.out [40, 42] (by decide) j hjl
        have cb2 := CB.out [47, 47] (by decide) j hjl
        have hx := byte_lt l[j]
        have HE : Hid (((l.length - (l.drop j).length : Nat) : Int) = (j : Int)) := by show _ = _; rw [List.length_drop]; omega
        clear HB
        cases h1 : List.isPrefixOf [40, 42] (l.drop j) with
        | true =>
          obtain ⟨hj2, hsk⟩ := skip_note hlt hb h1
          rw [h1] at cb1
          have cf := CF.out [42, 41] (by decide) (by decide) (j + 2) hj2
          rw [show ((j + 2 : Nat) : Int) = (j : Int) + 2 from by omega] at cf
          generalize (l[j].toNat : Int) = x at *
          cases hf : findP [42, 41] (l.drop (j + 2)) with
          | none =>
            rw [hf] at cf hsk
            simp only [findI] at cf
            have HR : Hid (skipV l.length (skip (l.drop k)) = .tuple #[.int .i64 (-1), .int .i64 (j : Int)]) := by
              show _ = _
              rw [hh.out, hsk]
              show Value.tuple #[.int .i64 (-1), .int .i64 ((l.length - (l.drop j).length : Nat) : Int)] = _
              rw [HE.out]
            clear hh CB CF HX hb hsk h1 hf cb2 HE
            go_wp2_with fail
            refine (cb1 _).mono ?_
            rintro e w1 ⟨rfl, rfl⟩
            clear cb1
            go_wp2_with fail
            refine (cf _).mono ?_
            rintro e w1 ⟨rfl, rfl⟩
            clear cf
            go_wp2
            go_ret2
            exact ⟨by rw [HR.out]; rfl, rfl⟩
          | some i =>
            have hle := findP_le hf
            rw [List.length_drop] at hle
            simp only [List.length_cons, List.length_nil] at hle
            rw [hf] at cf hsk
            simp only [findI] at cf hsk
            have HR := hide (hh.out.trans hsk)
            obtain ⟨q, hq⟩ : ∃ q, q = j + 2 + i := ⟨_, rfl⟩
            rw [← hq] at cf HR
            have q0 : (0 : Int) ≤ (q : Int) := by omega
            have q1 : (q : Int) ≤ 65536 := by omega
            have q2 : ((q : Int) + 2 == (j : Int)) = false := by rw [beq_eq_false_iff_ne]; omega
            have HQ := hide hq
            have HLE := hide hle
            clear hh CB CF HX hb hsk h1 hf cb2 HE hq hle hj2
            go_wp2_with fail
            refine (cb1 _).mono ?_
            rintro e w1 ⟨rfl, rfl⟩
            clear cb1
            go_wp2_with fail
            refine (cf _).mono ?_
            rintro e w1 ⟨rfl, rfl⟩
            clear cf
            go_wp2
            go_roundw
            case rel => exact ⟨q + 2, by have := HQ.out; omega, by have := HQ.out; have := HLE.out; omega, by go_num, trivial, HR.out⟩
            case measure => simp only [intOf]; have := HQ.out; omega
        | false =>
          rw [h1] at cb1
          cases h2 : List.isPrefixOf [47, 47] (l.drop j) with
          | true =>
            rw [h2] at cb2
            have cf := CF.out [10] (by decide) (by decide) j hjl
            rcases skip_line hlt hb h2 with ⟨hf, hsk⟩ | ⟨i, hf, hi0, hil, hsk⟩
            · rw [hf] at cf
              simp only [findI] at cf
              have HR := hide (hh.out.trans hsk)
              have HS := hide hsz.out
              generalize (l[j].toNat : Int) = x at *
              have q2 : ((s.size : Int) == (j : Int)) = false := by rw [beq_eq_false_iff_ne]; omega
              clear hh CB CF HX hb hsk h1 hf HE h2
              go_wp2_with fail
              refine (cb1 _).mono ?_
              rintro e w1 ⟨rfl, rfl⟩
              clear cb1
              go_wp2_with fail
              refine (cb2 _).mono ?_
              rintro e w1 ⟨rfl, rfl⟩
              clear cb2
              go_wp2_with fail
              refine (cf _).mono ?_
              rintro e w1 ⟨rfl, rfl⟩
              clear cf
              go_wp2
              go_roundw
              case rel => exact ⟨l.length, by omega, by omega, by rw [HS.out], trivial, HR.out⟩
              case measure => simp only [intOf]; have := HS.out; omega
            · rw [hf] at cf
              simp only [findI] at cf
              have HR := hide (hh.out.trans hsk)
              obtain ⟨q, hq⟩ : ∃ q, q = j + i := ⟨_, rfl⟩
              rw [← hq] at cf HR
              have q0 : (0 : Int) ≤ (q : Int) := by omega
              have q1 : (q : Int) ≤ 65536 := by omega
              have q2 : ((q : Int) == (j : Int)) = false := by rw [beq_eq_false_iff_ne]; omega
              have HQ := hide hq
              have HLE := hide hil
              generalize (l[j].toNat : Int) = x at *
              clear hh CB CF HX hb hsk h1 hf HE h2 hil hq
              go_wp2_with fail
              refine (cb1 _).mono ?_
              rintro e w1 ⟨rfl, rfl⟩
              clear cb1
              go_wp2_with fail
              refine (cb2 _).mono ?_
              rintro e w1 ⟨rfl, rfl⟩
              clear cb2
              go_wp2_with fail
              refine (cf _).mono ?_
              rintro e w1 ⟨rfl, rfl⟩
              clear cf
              go_wp2
              go_roundw
              case rel => exact ⟨q, by have := HQ.out; omega, by have := HQ.out; have := HLE.out; omega, rfl, trivial, HR.out⟩
              case measure => simp only [intOf]; have := HQ.out; omega
          | false =>
            rw [h2] at cb2
            by_cases h3 : l[j] = 123
            · have hsk := skip_brace hlt h3
              have cf := CF.out [125] (by decide) (by decide) j hjl
              have hx3 : (l[j].toNat : Int) = 123 := by rw [h3]; rfl
              rw [hx3] at hix
              cases hf : findP [125] (l.drop j) with
              | none =>
                rw [hf] at cf hsk
                simp only [findI] at cf
                have HR : Hid (skipV l.length (skip (l.drop k)) = .tuple #[.int .i64 (-1), .int .i64 (j : Int)]) := by
                  show _ = _
                  rw [hh.out, hsk]
                  show Value.tuple #[.int .i64 (-1), .int .i64 ((l.length - (l.drop j).length : Nat) : Int)] = _
                  rw [HE.out]
                clear hh CB CF HX hb hsk h1 hf HE h2 h3 hx3 x32 x9 x10 x13 hx
                go_wp2_with fail
                refine (cb1 _).mono ?_
                rintro e w1 ⟨rfl, rfl⟩
                clear cb1
                go_wp2_with fail
                refine (cb2 _).mono ?_
                rintro e w1 ⟨rfl, rfl⟩
                clear cb2
                go_wp2_with fail
                refine (cf _).mono ?_
                rintro e w1 ⟨rfl, rfl⟩
                clear cf
                go_wp2
                go_ret2
                exact ⟨by rw [HR.out]; rfl, rfl⟩
              | some i =>
                have hle := findP_le hf
                rw [List.length_drop] at hle
                simp only [List.length_cons, List.length_nil] at hle
                rw [hf] at cf hsk
                simp only [findI] at cf hsk
                have HR := hide (hh.out.trans hsk)
                obtain ⟨q, hq⟩ : ∃ q, q = j + i := ⟨_, rfl⟩
                rw [← hq] at cf HR
                have q0 : (0 : Int) ≤ (q : Int) := by omega
                have q1 : (q : Int) ≤ 65536 := by omega
                have q2 : ((q : Int) + 1 == (j : Int)) = false := by rw [beq_eq_false_iff_ne]; omega
                have HQ := hide hq
                have HLE := hide hle
                clear hh CB CF HX hb hsk h1 hf HE hq hle h2 h3 hx3 x32 x9 x10 x13 hx
                go_wp2_with fail
                refine (cb1 _).mono ?_
                rintro e w1 ⟨rfl, rfl⟩
                clear cb1
                go_wp2_with fail
                refine (cb2 _).mono ?_
                rintro e w1 ⟨rfl, rfl⟩
                clear cb2
                go_wp2_with fail
                refine (cf _).mono ?_
                rintro e w1 ⟨rfl, rfl⟩
                clear cf
                go_wp2
                go_roundw
                case rel => exact ⟨q + 1, by have := HQ.out; omega, by have := HQ.out; have := HLE.out; omega, by go_num, trivial, HR.out⟩
                case measure => simp only [intOf]; have := HQ.out; omega
            · have hsk := skip_else hlt hb h1 h2 h3
              have HR : Hid (skipV l.length (skip (l.drop k)) = .tuple #[.int .i64 (j : Int), .int .i64 0]) := by
                show _ = _
                rw [hh.out, hsk]
                show Value.tuple #[.int .i64 ((l.length - (l.drop j).length : Nat) : Int), .int .i64 0] = _
                rw [HE.out]
              have x3 : ((l[j].toNat : Int) == 123) = false := by rw [beq_eq_false_iff_ne]; exact fun e => h3 (UInt8.toNat_inj.1 (by show l[j].toNat = 123; omega))
              generalize (l[j].toNat : Int) = x at *
              clear hh CB CF HX hb hsk h1 HE h2 h3
              go_wp2_with fail
              refine (cb1 _).mono ?_
              rintro e w1 ⟨rfl, rfl⟩
              clear cb1
              go_wp2_with fail
              refine (cb2 _).mono ?_
              rintro e w1 ⟨rfl, rfl⟩
              clear cb2
              go_wp2
              go_ret2
              exact ⟨by rw [HR.out]; rfl, rfl⟩
    · have hjj : j = l.length := by omega
      have g1 : ¬ (j : Int) < (s.size : Int) := by have := hsz.out; omega
      have HR : Hid (skipV l.length (skip (l.drop k)) = .tuple #[.int .i64 (j : Int), .int .i64 0]) := by
        show _ = _
        rw [hh.out, hjj, List.drop_length, skip_nil]; rfl
      clear hh CB CF HX hjj
      go_wp2
      go_ret2
      exact ⟨by rw [HR.out]; rfl, rfl⟩
end Go.Proofs.YtfcnbiikjopajaaDoor
