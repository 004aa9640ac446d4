/- The contract of the document's one. -/
import Derived.Test.YtfcnbiikjopajaaDoorRTypW
import Derived.Test.YtfcnbiikjopajaaDoorWordW
namespace Go.Proofs.YtfcnbiikjopajaaDoor
open Go.RowKit
theorem one_word {l : Bs} {k : Nat} (hk : k < l.length) (h : isLet l[k] = true) : oneTok (l.drop k) = if (restL (l.drop k)).head? = some 35 then typedL (upL (wordL (l.drop k))) (restL (l.drop k)).tail
    else if (wordL (l.drop k)).length ≤ 24 then some (wordT (upL (wordL (l.drop k))), restL (l.drop k)) else none := by
  conv => lhs; rw [dropAt hk, oneTok]
  rw [if_pos h, ← dropAt hk]
theorem one_num {l : Bs} {k : Nat} (hk : k < l.length) (h : isLet l[k] = false) (hd : isDig l[k] = true) : oneTok (l.drop k) = (based (l.drop k)).map fun x => (numT x.1 0, x.2) := by
  conv => lhs; rw [dropAt hk, oneTok]
  rw [if_neg (by rw [h]; decide), if_pos hd, ← dropAt hk]
theorem one_sign {l : Bs} {k : Nat} (hk : k < l.length) (h : isLet l[k] = false) (hd : isDig l[k] = false) : oneTok (l.drop k) = signL (l.drop k) := by
  conv => lhs; rw [dropAt hk, oneTok]
  rw [if_neg (by rw [h]; decide), if_neg (by rw [hd]; decide), ← dropAt hk]
theorem wrap_i64 (x : Int) (h0 : 0 ≤ x) (h : x ≤ 9223372036854775807) : IntKind.i64.wrap x = x := by
  simp only [IntKind.wrap, IntKind.bits, IntKind.signed]
  simp
  omega
theorem bas_form (L : Nat) (o : Option (Int × Bs)) : ∃ q0 q1 q2, basV L o = .tuple #[.int .i64 q0, .int .i64 q1, .bool q2] ∧ TokOut (o.map fun x => (numT x.1 0, x.2)) L (.tuple #[tkA (numT q0 0) 0, .int .i64 q1, .bool q2]) := by
  cases o with
  | none => exact ⟨_, _, _, rfl, _, _, rfl⟩
  | some x => exact ⟨_, _, _, rfl, rfl⟩
set_option maxRecDepth 100000 in
set_option maxHeartbeats 6400000 in
theorem rone_any (l : Bs) (k : Nat) (hl : l.length ≤ 65536) (hk : k < l.length) (w : World) : Calls Tryd.prog 26 #[.string ⟨l.toArray⟩, .int .i64 (k : Int)] w fun e w' => (∃ v, e = .returned v ∧ TokOut (oneTok (l.drop k)) l.length v) ∧ Below w.heap.size w w' := by
  have hsz := hide (list_size l)
  have HX : Hid (∀ (i : Nat) (h : i < l.length), ∀ W : World, (Instr.index 9 (.string ⟨l.toArray⟩) (.int .i64 (i : Int))).run Tryd.prog W = .ok (.int .u8 (l[i].toNat : Int)) W) := fun i h W => run_idx ⟨l.toArray⟩ i l[i] (List.getElem?_eq_getElem h) W
  have CB : Hid (∀ (p : Bs), p.length ≤ 8 → ∀ W, Calls Tryd.prog 43 #[.string ⟨l.toArray⟩, .int .i64 (k : Int), .string ⟨p.toArray⟩] W fun e w' => e = .returned (.bool (p.isPrefixOf (l.drop k))) ∧ w' = W) := fun p hp W => begins_any l p k hl hp (Nat.le_of_lt hk) W
  have CBas := hide fun W => rbased_any l k hl (Nat.le_of_lt hk) W
  have CTy : Hid (∀ (j : Nat) (word : Bs), j ≤ l.length → ∀ W, Calls Tryd.prog 47 #[.string ⟨l.toArray⟩, .int .i64 (j : Int), .string ⟨word.toArray⟩] W fun e w' => (∃ v, e = .returned v ∧ TokOut (typedL word (l.drop j)) l.length v) ∧ Below W.heap.size W w') := fun j word hj W => rtyped_any l word j hl hj W
  have XS : Hid (∀ j, k ≤ j → j ≤ l.length → (wordL (l.drop k)).length = j - k → ∀ W, (Instr.slice 9 (.string ⟨l.toArray⟩) (some (.int .i64 (k : Int))) (some (.int .i64 (j : Int))) none).run Tryd.prog W = .ok (.string ⟨(wordL (l.drop k)).toArray⟩) W) := fun j h1 h2 h3 W => by
    have := slice_mid ⟨l.toArray⟩ k j h1 (by rw [list_size]; exact h2) W
    rw [← h3, show (l.toArray : Array UInt8).toList = l from rfl, word_take] at this
    exact this
  have CU : Hid (∀ j, j ≤ l.length → (wordL (l.drop k)).length = j - k → ∀ W, Calls Tryd.prog 13 #[.string ⟨(wordL (l.drop k)).toArray⟩] W fun e w' => e = .returned (.string ⟨(upL (wordL (l.drop k))).toArray⟩) ∧ Below W.heap.size W w') := fun j h1 h2 W => rupper_any _ (by omega) W
  have i0 : ((⟨l.toArray⟩ : ByteArray).size : Int) ≤ 65536 := by rw [list_size]; omega
  have g0 : (k : Int) < ((⟨l.toArray⟩ : ByteArray).size : Int) := by rw [list_size]; omega
  have kz : (0 : Int) ≤ (k : Int) := by omega
  have kb : (k : Int) ≤ 65536 := by omega
  have B0 := hide ((Below.refl w.heap.size w).alloc (Nat.le_refl _) Z5)
  have hix := HX.out k hk
  have hx := byte_lt l[k]
  have cl := fun W => letter_any l[k] W
  have cdg := fun W => digit_any l[k] W
  generalize (⟨l.toArray⟩ : ByteArray) = s at *
  cases hlet : isLet l[k] with
  | true =>
    rw [hlet] at cl
    have HO := hide (one_word hk hlet)
    have HRD : Hid (∀ j, k ≤ j → (wordL (l.drop k)).length = j - k → restL (l.drop k) = l.drop j) := fun j h1 h2 => by
      rw [← word_drop, h2, List.drop_drop]; congr 1; omega
    have HLA := hide fun c => letter_any c
    have HDA := hide fun c => digit_any c
    clear CB CBas cdg hlet
    generalize (l[k].toNat : Int) = x at *
    go_enter Tryd.func26, Tryd.ntmps26
    go_wp2_with fail
    refine (cl _).mono ?_
    rintro e w1 ⟨rfl, hw1⟩
    subst hw1
    clear cl hix hx
    go_wp2_with fail
    go_loopw [8] (fun v wr => ∃ (j : Nat), k ≤ j ∧ j ≤ l.length ∧ v = .int .i64 (j : Int) ∧ wr = w.alloc (.cells #[.int .i64 0, .string ⟨#[]⟩, .int .i64 0, .int .i64 0, .int .i64 0] 41) ∧ Hid ((wordL (l.drop k)).length = (j - k) + (wordL (l.drop j)).length)) (fun v _ => l.length - (intOf v).toNat)
    case atStart => exact ⟨k, Nat.le_refl _, Nat.le_of_lt hk, rfl, rfl, by show _ = _; omega⟩
    case round =>
      obtain ⟨j, hkj, hjl, rfl, hwr, hh⟩ := hrel
      subst hwr
      have j0 : (0 : Int) ≤ (j : Int) := by omega
      have jb : (j : Int) ≤ 65536 := by omega
      have jk : (k : Int) ≤ (j : Int) := by omega
      by_cases hw : ∃ h : j < l.length, isWord l[j] = true
      · obtain ⟨hlt, hwd⟩ := hw
        have g1 : (j : Int) < (s.size : Int) := by have := hsz.out; omega
        have hix := HX.out j hlt
        have hx := byte_lt l[j]
        have cl := HLA.out l[j]
        have cd := HDA.out l[j]
        have HR : Hid ((wordL (l.drop k)).length = (j + 1 - k) + (wordL (l.drop (j + 1))).length) := by
          have := hh.out
          rw [word_step hlt hwd] at this
          show _ = _
          omega
        have hor : isLet l[j] = true ∨ (isLet l[j] = false ∧ isDig l[j] = true) := by
          unfold isWord at hwd
          cases h : isLet l[j] with
          | true => exact .inl rfl
          | false => rw [h, Bool.false_or] at hwd; exact .inr ⟨rfl, hwd⟩
        clear hh hwd HX CTy XS CU HO HRD HLA HDA
        rcases hor with h | ⟨h, h2⟩
        · rw [h] at cl
          clear cd h
          generalize (l[j].toNat : Int) = x at *
          go_wp2_with fail
          refine (cl _).mono ?_
          rintro e w1 ⟨rfl, hw1⟩
          subst hw1
          clear cl
          go_wp2
          go_roundw
          case rel => exact ⟨j + 1, by omega, by omega, by go_num, trivial, HR.out⟩
          case measure => simp only [intOf]; omega
        · rw [h] at cl
          rw [h2] at cd
          clear h h2
          generalize (l[j].toNat : Int) = x at *
          go_wp2_with fail
          refine (cl _).mono ?_
          rintro e w1 ⟨rfl, hw1⟩
          subst hw1
          clear cl
          go_wp2_with fail
          refine (cd _).mono ?_
          rintro e w1 ⟨rfl, hw1⟩
          subst hw1
          clear cd
          go_wp2
          go_roundw
          case rel => exact ⟨j + 1, by omega, by omega, by go_num, trivial, HR.out⟩
          case measure => simp only [intOf]; omega
      · have hex : (wordL (l.drop k)).length = j - k := by
          have h1 := hh.out
          rw [word_stop hw] at h1
          omega
        have hrd := HRD.out j hkj hex
        rw [hrd] at HO
        have xs := XS.out j hkj hjl hex
        have cu := CU.out j hjl hex
        have HEX := hide hex
        clear hh XS CU HRD hrd hex
        have HWT : Hid ((⟨(wordL (l.drop k)).toArray⟩ : ByteArray) = ⟨(wordL (l.drop k)).toArray⟩) := rfl
        obtain ⟨t, ht⟩ : ∃ t, t = (⟨(wordL (l.drop k)).toArray⟩ : ByteArray) := ⟨_, rfl⟩
        obtain ⟨ut, hut⟩ : ∃ t, t = (⟨(upL (wordL (l.drop k))).toArray⟩ : ByteArray) := ⟨_, rfl⟩
        rw [← ht] at xs cu
        rw [← hut] at cu
        have HUT := hide hut
        have HE := hide (rest_len hjl)
        clear ht hut HWT
        by_cases hlt : j < l.length
        · have g1 : (j : Int) < (s.size : Int) := by have := hsz.out; omega
          have hix := HX.out j hlt
          have hx := byte_lt l[j]
          have hnw : isLet l[j] = false ∧ isDig l[j] = false := by
            have h : isWord l[j] = false := by
              cases h : isWord l[j] with
              | false => rfl
              | true => exact absurd ⟨hlt, h⟩ hw
            unfold isWord at h
            exact Bool.or_eq_false_iff.1 h
          have cl := HLA.out l[j]
          have cd := HDA.out l[j]
          rw [hnw.1] at cl
          rw [hnw.2] at cd
          have HH : Hid ((l.drop j).head? = some l[j]) := by show _ = _; rw [dropAt hlt]; rfl
          rw [HH.out] at HO
          clear HX HLA HDA hw hnw HH
          by_cases h35 : l[j] = 35
          · have cty := CTy.out (j + 1) (upL (wordL (l.drop k))) (by omega)
            rw [← HUT.out, show ((j + 1 : Nat) : Int) = (j : Int) + 1 from by omega] at cty
            rw [if_pos (by rw [h35]), List.tail_drop] at HO
            rw [show (l[j].toNat : Int) = 35 from by rw [h35]; rfl] at hix cl cd
            clear hx h35 CTy
            go_wp2_with fail
            refine (cl _).mono ?_
            rintro e w1 ⟨rfl, hw1⟩
            subst hw1
            clear cl
            go_wp2_with fail
            refine (cd _).mono ?_
            rintro e w1 ⟨rfl, hw1⟩
            subst hw1
            clear cd
            go_wp2_with fail
            refine (cu _).mono ?_
            rintro e w2 ⟨rfl, hb⟩
            rw [World.size_alloc] at hb
            clear cu xs
            go_wp2_with fail
            refine (cty _).mono ?_
            rintro e w3 ⟨⟨v, rfl, hv⟩, hb3⟩
            obtain ⟨tt, nn, bb, rfl⟩ := hv.form
            have hb4 := hb.trans (hb3.mono (by have := hb.size; rw [World.size_alloc] at this; exact this))
            obtain ⟨⟨k0, k1, k2, k3, k4⟩, f0, f1, f2, f3, f4⟩ := res5 hb4
            have HB := hide (B0.out.trans (hb4.mono (Nat.le_succ _)))
            have HV := hide hv
            clear hv hb hb3 hb4 cty hix
            unfold tkA
            go_wp2
            refine bodyPost_ret (v := .tuple #[tkA tt 0, .int .i64 nn, .bool bb]) ?_ rfl ⟨⟨_, rfl, ?_⟩, ?_⟩
            · simp [results, Tryd.results26, go_sem, tkA, k0, k1, k2, k3, k4]
            · rw [HO.out]; exact HV.out
            · exact below5 HB.out (Nat.le_refl _) _ _ _ _ _
          · have h35b : ((l[j].toNat : Int) == 35) = false := by rw [beq_eq_false_iff_ne]; exact fun e => h35 (UInt8.toNat_inj.1 (by show l[j].toNat = 35; omega))
            rw [if_neg (fun e => h35 (Option.some.inj e))] at HO
            clear CTy h35
            generalize (l[j].toNat : Int) = x at *
            go_wp2_with fail
            refine (cl _).mono ?_
            rintro e w1 ⟨rfl, hw1⟩
            subst hw1
            clear cl
            go_wp2_with fail
            refine (cd _).mono ?_
            rintro e w1 ⟨rfl, hw1⟩
            subst hw1
            clear cd
            go_wp2_with fail
            refine (cu _).mono ?_
            rintro e w2 ⟨rfl, hb⟩
            rw [World.size_alloc] at hb
            clear cu xs
            obtain ⟨⟨k0, k1, k2, k3, k4⟩, f0, f1, f2, f3, f4⟩ := res5 hb
            have HB := hide (B0.out.trans (hb.mono (Nat.le_succ _)))
            clear hb
            go_wp2
            refine bodyPost_ret (v := .tuple #[tkA (wordT (upL (wordL (l.drop k)))) 0, .int .i64 (j : Int), .bool (decide ((j : Int) - (k : Int) ≤ 24))]) ?_ rfl ⟨⟨_, rfl, ?_⟩, ?_⟩
            · simp [results, Tryd.results26, go_sem, tkA, wordT, HUT.out, k0, k1, k2, k3, k4]
            · rw [HO.out]
              by_cases h24 : (wordL (l.drop k)).length ≤ 24
              · rw [if_pos h24, decide_eq_true (by have := HEX.out; omega)]
                show _ = Value.tuple #[tkA (wordT (upL (wordL (l.drop k)))) 0, .int .i64 ((l.length - (l.drop j).length : Nat) : Int), .bool true]
                rw [HE.out]
              · rw [if_neg h24, decide_eq_false (by have := HEX.out; omega)]
                exact ⟨_, _, rfl⟩
            · exact below5 HB.out (Nat.le_refl _) _ _ _ _ _
        · have g1 : ¬ (j : Int) < (s.size : Int) := by have := hsz.out; omega
          rw [if_neg (by rw [List.drop_of_length_le (by omega)]; intro e; cases e)] at HO
          clear HX HLA HDA hw CTy
          go_wp2_with fail
          refine (cu _).mono ?_
          rintro e w2 ⟨rfl, hb⟩
          rw [World.size_alloc] at hb
          clear cu xs
          obtain ⟨⟨k0, k1, k2, k3, k4⟩, f0, f1, f2, f3, f4⟩ := res5 hb
          have HB := hide (B0.out.trans (hb.mono (Nat.le_succ _)))
          clear hb
          go_wp2
          refine bodyPost_ret (v := .tuple #[tkA (wordT (upL (wordL (l.drop k)))) 0, .int .i64 (j : Int), .bool (decide ((j : Int) - (k : Int) ≤ 24))]) ?_ rfl ⟨⟨_, rfl, ?_⟩, ?_⟩
          · simp [results, Tryd.results26, go_sem, tkA, wordT, HUT.out, k0, k1, k2, k3, k4]
          · rw [HO.out]
            by_cases h24 : (wordL (l.drop k)).length ≤ 24
            · rw [if_pos h24, decide_eq_true (by have := HEX.out; omega)]
              show _ = Value.tuple #[tkA (wordT (upL (wordL (l.drop k)))) 0, .int .i64 ((l.length - (l.drop j).length : Nat) : Int), .bool true]
              rw [HE.out]
            · rw [if_neg h24, decide_eq_false (by have := HEX.out; omega)]
              exact ⟨_, _, rfl⟩
          · exact below5 HB.out (Nat.le_refl _) _ _ _ _ _
  | false =>
    rw [hlet] at cl
    clear CTy XS CU HX
    cases hdg : isDig l[k] with
    | true =>
      rw [hdg] at cdg
      have HO := hide (one_num hk hlet hdg)
      obtain ⟨q0, q1, q2, hq, hto⟩ := bas_form l.length (based (l.drop k))
      have HTO := hide hto
      rw [hq] at CBas
      clear CB hlet hdg hq hto
      generalize (l[k].toNat : Int) = x at *
      go_enter Tryd.func26, Tryd.ntmps26
      go_wp2_with fail
      refine (cl _).mono ?_
      rintro e w1 ⟨rfl, hw1⟩
      subst hw1
      clear cl
      go_wp2_with fail
      refine (cdg _).mono ?_
      rintro e w1 ⟨rfl, hw1⟩
      subst hw1
      clear cdg
      go_wp2_with fail
      refine (CBas.out _).mono ?_
      rintro e w2 ⟨rfl, hb⟩
      rw [World.size_alloc] at hb
      obtain ⟨⟨k0, k1, k2, k3, k4⟩, f0, f1, f2, f3, f4⟩ := res5 hb
      have HB := hide (B0.out.trans (hb.mono (Nat.le_succ _)))
      clear hb CBas hix
      go_wp2
      refine bodyPost_ret (v := .tuple #[tkA (numT q0 0) 0, .int .i64 q1, .bool q2]) ?_ rfl ⟨⟨_, rfl, ?_⟩, ?_⟩
      · simp [results, Tryd.results26, go_sem, tkA, numT, k0, k1, k2, k3, k4]
      · rw [HO.out]; exact HTO.out
      · exact below5 HB.out (Nat.le_refl _) _ _ _ _ _
    | false =>
      rw [hdg] at cdg
      have HO := hide ((one_sign hk hlet hdg).trans (sign_find (l.drop k)))
      have cs := fun W => rsigns_any W
      clear CBas hlet hdg
      generalize (l[k].toNat : Int) = x at *
      go_enter Tryd.func26, Tryd.ntmps26
      go_wp2_with fail
      refine (cl _).mono ?_
      rintro e w1 ⟨rfl, hw1⟩
      subst hw1
      clear cl
      go_wp2_with fail
      refine (cdg _).mono ?_
      rintro e w1 ⟨rfl, hw1⟩
      subst hw1
      clear cdg
      go_wp2_with fail
      refine (cs _).mono ?_
      rintro e w2 ⟨rfl, hw2⟩
      rw [World.size_alloc]
      have hcell := fun i hi => sign_cell (w.alloc Z5) i hi
      have hb : Below (w.heap.size + 1) (w.alloc Z5) w2 := by rw [hw2]; exact (Below.refl _ _).alloc (by rw [World.size_alloc]; omega) _
      rw [World.size_alloc, ← hw2] at hcell
      have HCL := hide hcell
      obtain ⟨⟨k0, k1, k2, k3, k4⟩, f0, f1, f2, f3, f4⟩ := res5 hb
      have HB := hide (B0.out.trans (hb.mono (Nat.le_succ _)))
      clear hb cs hix hw2 hcell
      go_wp2_with fail
      go_loopw [14] (fun v wr => ∃ (i : Nat), i ≤ 22 ∧ v = .int .i64 (i : Int) ∧ wr = w2 ∧ Hid ((signAll.drop i).find? (fun g => g.isPrefixOf (l.drop k)) = signAll.find? fun g => g.isPrefixOf (l.drop k))) (fun v _ => 22 - (intOf v).toNat)
      case atStart => exact ⟨0, by omega, rfl, rfl, rfl⟩
      case round =>
        obtain ⟨i, hi, rfl, hwr, hh⟩ := hrel
        subst hwr
        have i00 : (0 : Int) ≤ (i : Int) := by omega
        by_cases h22 : i < 22
        · have i1 : (i : Int) < 22 := by omega
          have hc := HCL.out i h22
          have hs8 : (signAll[i]'h22).length ≤ 2 := (show ∀ g ∈ signAll, g.length ≤ 2 by decide) _ (List.getElem_mem _)
          have cb := CB.out (signAll[i]'h22) (by omega)
          have hlen := list_size (signAll[i]'h22)
          have hf := hh.out
          rw [List.drop_eq_getElem_cons (show i < signAll.length from h22), List.find?_cons] at hf
          generalize (signAll[i]'h22) = g at *
          obtain ⟨u, HU⟩ : ∃ u : ByteArray, Hid ((⟨g.toArray⟩ : ByteArray) = u) := ⟨_, rfl⟩
          rw [HU.out] at hc hlen cb
          have HLN := hide hlen
          have ub : (u.size : Int) ≤ 2 := by omega
          clear hlen
          cases hp : g.isPrefixOf (l.drop k) with
          | true =>
            rw [hp] at cb hf
            simp only [] at hf
            have HF := hide hf
            have HSZ : Hid (((l.length - ((l.drop k).drop g.length).length : Nat) : Int) = (k : Int) + (u.size : Int)) := by
              show _ = _
              have h2 := (pre_iff g (l.drop k)).1 hp
              have h3 := congrArg List.length h2
              rw [List.length_take, List.length_drop] at h3
              rw [List.drop_drop, List.length_drop, HLN.out]
              omega
            clear hh hf hp CB HCL hs8
            go_wp2_with fail
            refine (cb _).mono ?_
            rintro e w3 ⟨rfl, hw3⟩
            subst hw3
            clear cb
            have K1 : w3.drew.cell? ⟨w.heap.size + 1, i, none⟩ = some (.string u) := (drew_cell _ _).trans hc
            have K2 : ∀ a1 a2 a3 a4 a5, (((((w3.setCell ⟨w.heap.size, 0, none⟩ a1).setCell ⟨w.heap.size, 1, none⟩ a2).setCell ⟨w.heap.size, 2, none⟩ a3).setCell ⟨w.heap.size, 3, none⟩ a4).setCell ⟨w.heap.size, 4, none⟩ a5).drew.cell? ⟨w.heap.size + 1, i, none⟩ = some (.string u) := fun a1 a2 a3 a4 a5 => (drew_cell _ _).trans (cell5 hc (by show w.heap.size + 1 ≠ w.heap.size; omega) a1 a2 a3 a4 a5)
            have hwrap : IntKind.i64.wrap ((k : Int) + (u.size : Int)) = (k : Int) + (u.size : Int) := wrap_i64 _ (by omega) (by omega)
            go_upto_region 18 with fail
            go_region_held3 (fun W => W.cell? ⟨w.heap.size + 1, i, none⟩ = some (.string u)) (first | (with_reducible assumption) | (with_reducible exact K1) | (with_reducible exact K2 _ _ _ _ _)) (fail)
            all_goals
              go_wp2
              refine bodyPost_ret (v := .tuple #[tkA (signT g) 0, .int .i64 ((k : Int) + (u.size : Int)), .bool true]) ?_ rfl ⟨⟨_, rfl, ?_⟩, ?_⟩
              · simp [results, Tryd.results26, go_sem, tkA, signT, HU.out, k0, k1, k2, k3, k4]
              · rw [HO.out, ← HF.out]
                show _ = Value.tuple #[tkA (signT g) 0, .int .i64 ((l.length - ((l.drop k).drop g.length).length : Nat) : Int), .bool true]
                rw [HSZ.out]
              · exact (below5 HB.out (Nat.le_refl _) _ _ _ _ _).drew
          | false =>
            rw [hp] at cb hf
            simp only [] at hf
            have HF := hide hf
            clear hh hf hp CB HCL hs8
            go_wp2_with fail
            refine (cb _).mono ?_
            rintro e w3 ⟨rfl, hw3⟩
            subst hw3
            clear cb
            go_wp2
            go_roundw
            case rel => exact ⟨i + 1, by omega, by go_num, trivial, HF.out⟩
            case measure => simp only [intOf]; omega
        · obtain rfl : i = 22 := by omega
          have HF := hide hh.out
          clear hh CB HCL h22
          go_wp2
          refine bodyPost_ret (v := .tuple #[tkA ⟨0, [], 0, 0⟩ 0, .int .i64 0, .bool false]) ?_ rfl ⟨⟨_, rfl, ?_⟩, ?_⟩
          · simp [results, Tryd.results26, go_sem, tkA, k0, k1, k2, k3, k4]
          · rw [HO.out, ← HF.out]
            exact ⟨_, _, rfl⟩
          · exact below5 HB.out (Nat.le_refl _) _ _ _ _ _
end Go.Proofs.YtfcnbiikjopajaaDoor
