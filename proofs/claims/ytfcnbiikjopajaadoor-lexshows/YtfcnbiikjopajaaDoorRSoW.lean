/- The contract of the document's Show. -/
import Derived.Test.YtfcnbiikjopajaaDoorRShX
import Derived.Lib.AppendStr
import Derived.OwnWalk
import Derived.Laws.IdiomStrings
namespace Go.Proofs.YtfcnbiikjopajaaDoor
open Go.RowKit
theorem neq41 (k n t : Int) (s : ByteArray) : ∃ b, (∀ W, (binOp .neq 41 (.agg #[.int .i64 k, .string s, .int .i64 n, .int .i64 t, .int .i64 0]) (.agg #[.int .i64 4, .string ⟨#[]⟩, .int .i64 0, .int .i64 0, .int .i64 0])).run Tryd.prog W = .ok (.bool b) W) ∧ (b = false ↔ k = 4 ∧ s = ⟨#[]⟩ ∧ n = 0 ∧ t = 0) := by
  refine ⟨!decide (k = 4 ∧ s = ⟨#[]⟩ ∧ n = 0 ∧ t = 0), fun W => ?_, by simp⟩
  by_cases h1 : k = 4
  · by_cases h2 : s = ⟨#[]⟩
    · by_cases h3 : n = 0
      · by_cases h4 : t = 0
        · subst h1 h2 h3 h4; simp [go_sem]
        · subst h1 h2 h3; simp [go_sem, h4]
      · subst h1 h2; simp [go_sem, h3]
    · subst h1
      have hb2 : s.toList.isEmpty = false := by
        rw [show s = ⟨s.data.toList.toArray⟩ from (text_back s).symm, nil_text]
        exact decide_eq_false (fun h => h2 (by rw [show s = ⟨s.data.toList.toArray⟩ from (text_back s).symm, h]))
      simp [go_sem, h2, hb2]
  · simp [go_sem, h1]
theorem own_on {w w' : World} {base e size n : Nat} {v : Value} {xs : List Value} (h : w.ownsRow base e size v n xs) (hb : Below w.heap.size w w') : w'.ownsRow base e size v n xs := by
  refine ⟨h.1, ?_⟩
  rcases h.2 with h | ⟨g, cap, cur, r1, r2, r3, r4⟩
  · exact .inl h
  · exact .inr ⟨g, cap, cur, r1, r2, by rw [hb.block g (Array.getElem?_eq_some_iff.1 r3).1]; exact r3, r4⟩
theorem own_form3 {w : World} {base e size : Nat} {v : Value} {n : Nat} {xs : List Value} (h : w.ownsRow base e size v n xs) : ∃ a cap, v = .slice a n cap ∧ n ≤ cap := by
  rcases h.2 with ⟨h1, h2⟩ | ⟨g, cap, cur, h1, _, _, h4, _⟩
  · exact ⟨none, 0, by rw [h1, h2], by omega⟩
  · exact ⟨_, _, h1, h4⟩
theorem own_string {w : World} {base : Nat} {v : Value} {u : Bs} (h : w.ownsRow base 5 1 v u.length (Lib.byteCells u)) : (convert 53 9 v).run Tryd.prog w = .ok (.string ⟨u.toArray⟩) w := by
  rcases h.2 with ⟨rfl, h2⟩ | ⟨g, cap, cur, rfl, _⟩
  · have hu : u = [] := List.eq_nil_of_length_eq_zero h2
    subst hu
    simp [convert, Conv.bytesToString, go_sem]
    rfl
  · exact run_convert_bytes_back (P := Tryd.prog) w 53 9 5 ⟨g, 0, none⟩ cap u Tryd.underlying53 Tryd.underlying5 Tryd.underlying9 (fun i hi => by
      have hc := h.cellAt i (by omega)
      rw [Addr.add_mid, Nat.zero_add, hc, Lib.byteCells, List.getElem?_map, List.getElem?_eq_getElem hi]; rfl)
theorem strCells_back {S : ByteArray} {u : Bs} (h : S.data.toList = u) : Lib.strCells S = Lib.byteCells u := by rw [← h]; rfl
theorem one_cell (w : World) (c : Int) : ∀ j u, ([Value.int .u8 c])[j]? = some u → (w.alloc (.cells #[.int .u8 c] 5)).cell? ((⟨w.heap.size, 0, none⟩ : Addr).add j) = some u := fun j u hj => by
  match j, hj with
  | 0, hj => simp at hj; subst hj; simp [Addr.add]
set_option maxRecDepth 100000 in
set_option maxHeartbeats 3200000 in
theorem rShow_any (v : Value) (l : List Tv) (w : World) (hL : Lst w v l) (ho : OkV l)
    (hsh : ∀ x : Tv, -9223372036854775808 ≤ x.n → x.n ≤ 9223372036854775807 → ∀ W, Calls Tryd.prog 33 #[.agg #[.int .i64 x.k, .string x.s, .int .i64 x.n, .int .i64 x.t, .int .i64 x.at_]] W fun e w' => (∃ v, e = .returned v ∧ ShOut (tkV x) v) ∧ Below W.heap.size W w') :
    Calls Tryd.prog 17 #[v] w fun e w' => (∃ u, e = .returned u ∧ ShowOut (l.map tkV) u) ∧ Below w.heap.size w w' := by
  obtain ⟨a, b, off, cap, rfl, hA, hI⟩ := hL
  have hlen := ho.1
  have HSH := hide hsh
  clear hsh
  rcases Nat.eq_zero_or_pos l.length with h0 | h0
  · have hl : l = [] := List.eq_nil_of_length_eq_zero h0
    subst hl
    clear hA hI ho hlen h0
    go_enter Tryd.func17, Tryd.ntmps17
    go_wp2
    go_ret2
    exact ⟨⟨_, rfl, .inl ⟨fun h => h.1 rfl, rfl⟩⟩, Below.refl _ _⟩
  obtain ⟨hbw, rfl⟩ := hA h0
  have HI := hide hI
  have HO := hide ho.2
  obtain ⟨M, hM⟩ : ∃ M, l.length = M + 1 := ⟨l.length - 1, by omega⟩
  have HN := hide hM
  have HNt : Hid ((l.map tkV).length = M + 1) := by show _ = _; rw [List.length_map, hM]
  obtain ⟨x, hx⟩ : ∃ x, l[M]? = some x := ⟨_, List.getElem?_eq_getElem (by omega)⟩
  obtain ⟨q0, q1, q2, q3, q4⟩ := hI M x hx
  have HX : Hid ((l.map tkV)[M]? = some (tkV x)) := by show _ = _; rw [List.getElem?_map, hx]; rfl
  rw [hM] at hlen ⊢
  have n1 : (M : Int) ≤ 2932031007403 := by omega
  have m0 : (0 : Int) ≤ (M : Int) := by omega
  obtain ⟨bb, hrun, hbb⟩ := neq41 x.k x.n x.t x.s
  clear hA hI ho hM hx hlen h0
  cases bb with
  | true =>
    have HE : Hid (¬ Shows (l.map tkV)) := fun hs => by
      have hj : M < (l.map tkV).length := by rw [HNt.out]; omega
      have h1 := hs.2 M hj
      have e : (l.map tkV)[M] = tkV x := Option.some.inj ((List.getElem?_eq_getElem hj).symm.trans HX.out)
      rw [e, HNt.out] at h1
      have h2 := come_end h1.2 (h1.1.2 rfl)
      have h3 : x.k = 4 ∧ x.s = ⟨#[]⟩ ∧ x.n = 0 ∧ x.t = 0 := by
        injection h2 with k1 k2 k3 k4
        exact ⟨k1, by rw [show x.s = ⟨x.s.data.toList.toArray⟩ from (text_back x.s).symm, k2], k3, k4⟩
      exact absurd (hbb.2 h3) (by decide)
    clear hbb HX
    go_enter Tryd.func17, Tryd.ntmps17
    go_wp2
    go_ret2
    exact ⟨⟨_, rfl, .inl ⟨HE.out, rfl⟩⟩, (Below.refl _ _).alloc (Nat.le_refl _) _⟩
  | false =>
    have HEND : Hid (tkV x = endT) := by
      obtain ⟨k1, k2, k3, k4⟩ := hbb.1 rfl
      show Tk.mk x.k x.s.data.toList x.n x.t = _
      rw [k1, k2, k3, k4]; rfl
    obtain ⟨i0, hi, hz0, hz1, hz2⟩ := info_parts in5
    obtain ⟨ss, hss⟩ : ∃ ss, ss = (l.map tkV).dropLast.map shownK := ⟨_, rfl⟩
    have HSS := hide hss
    have HLS : Hid (ss.length = M) := by show _ = _; rw [hss, List.length_map, List.length_dropLast, HNt.out]; rfl
    have b0 := (Below.refl w.heap.size w).alloc (Nat.le_refl _) (.cells #[.int .i64 x.k, .string x.s, .int .i64 x.n, .int .i64 x.t, .int .i64 0] 41)
    have B0 := hide b0
    clear hbb hss b0
    have hm1 : ((M : Int) + 1 == 0) = false := by rw [beq_eq_false_iff_ne]; omega
    go_enter Tryd.func17, Tryd.ntmps17
    go_wp2_with fail
    go_loopw [5, 6] (fun bv i wx => ∃ (k : Nat) (b' : Value), k ≤ M ∧ i = .int .i64 (k : Int) ∧ b' = bv ∧ Hid (wx.ownsRow w.heap.size 5 1 b' (joinB (ss.take k)).length (Lib.byteCells (joinB (ss.take k))) ∧ (∀ j, j < k → ∀ t, (l.map tkV)[j]? = some t → showT t = some (shownK t)) ∧ (joinB (ss.take k)).length ≤ 31 * k ∧ Below w.heap.size w wx)) (fun _ i _ => M - (intOf i).toNat)
    case atStart => exact ⟨0, .slice none 0 0, by omega, rfl, rfl, World.ownsRow_nil _ _ _ _, fun j hj => absurd hj (Nat.not_lt_zero _), Nat.zero_le _, B0.out⟩
    case round =>
      clear q0 q1 q2 q3 q4 hrun
      obtain ⟨k, bv, hk, rfl, rfl, hh⟩ := hrel
      have O := hide hh.out.1
      have HSO := hide hh.out.2.1
      have hle := hh.out.2.2.1
      have HB := hide hh.out.2.2.2
      clear hh
      by_cases hlt : k < M
      · have j1 : (k : Int) < (M : Int) := by omega
        have j2 : (k : Int) + 1 < (M : Int) + 1 := by omega
        have j0 : (0 : Int) ≤ (k : Int) := by omega
        obtain ⟨y, hy⟩ : ∃ y, l[k]? = some y := ⟨_, List.getElem?_eq_getElem (by rw [HN.out]; omega)⟩
        have hy' : (l.map tkV)[k]? = some (tkV y) := by rw [List.getElem?_map, hy]; rfl
        obtain ⟨r0, r1, r2, r3, r4⟩ := HI.out k y hy
        have c0 := (HB.out.cell (p := ⟨b, off + k * 5, none⟩) hbw).trans r0
        have c1 := (HB.out.cell (p := ⟨b, off + k * 5 + 1, none⟩) hbw).trans r1
        have c2 := (HB.out.cell (p := ⟨b, off + k * 5 + 2, none⟩) hbw).trans r2
        have c3 := (HB.out.cell (p := ⟨b, off + k * 5 + 3, none⟩) hbw).trans r3
        have c4 := (HB.out.cell (p := ⟨b, off + k * 5 + 4, none⟩) hbw).trans r4
        have hyo := HO.out y (List.mem_of_getElem? hy)
        have m1 := HSH.out y hyo.2.1 hyo.2.2 wr
        have hjd : k < (l.map tkV).dropLast.length := by rw [List.length_dropLast, HNt.out]; omega
        have he : (l.map tkV).dropLast[k] = tkV y := by
          rw [List.getElem_dropLast]
          exact Option.some.inj ((List.getElem?_eq_getElem _).symm.trans hy')
        have HF : Hid (showT (tkV y) = none → ¬ Shows (l.map tkV)) := fun hn hs => by
          have := (showAll_eq (shows_split hs).2).2 _ (List.getElem_mem hjd)
          rw [he, hn] at this
          cases this
        have HTK : Hid (ss.take (k + 1) = ss.take k ++ [shownK (tkV y)]) := by
          show _ = _
          rw [List.take_add_one, HSS.out, List.getElem?_map, List.getElem?_eq_getElem hjd, he]
          rfl
        have HJ : Hid (joinB (ss.take (k + 1)) = if ss.take k = [] then shownK (tkV y) else joinB (ss.take k) ++ 32 :: shownK (tkV y)) := by
          show _ = _
          rw [HTK.out, joinB_add]
        have HTZ : Hid (ss.take k = [] ↔ k = 0) := by
          show _ ↔ _
          rw [List.take_eq_nil_iff, ← List.length_eq_zero_iff, HLS.out]
          omega
        have HY := hide hy'
        clear r0 r1 r2 r3 r4 hy hy' hjd he HTK hyo
        go_wp2_with fail
        refine m1.mono ?_
        rintro e w1 ⟨⟨v1, rfl, SS, bo, rfl, ht, hf⟩, hb1⟩
        have B1 := hide (HB.out.trans (hb1.mono HB.out.size))
        have O1 := hide (own_on O.out hb1)
        clear hb1 m1 c0 c1 c2 c3 c4 O HB
        cases bo with
        | false =>
          have HE := hide (HF.out (hf rfl))
          clear HF ht hf HJ HTZ O1
          go_wp2
          go_ret2
          exact ⟨⟨_, rfl, .inl ⟨HE.out, rfl⟩⟩, B1.out⟩
        | true =>
          have ht1 := ht rfl
          have HSX : Hid (SS.data.toList = shownK (tkV y)) := showT_eq ht1
          have hsl := show_len ht1
          have HSL : Hid (SS.size = (shownK (tkV y)).length) := by show _ = _; rw [← text_len, HSX.out]
          have hsz : SS.size ≤ 30 := by rw [← text_len]; exact hsl
          have HSO2 : Hid (∀ j, j < k + 1 → ∀ t, (l.map tkV)[j]? = some t → showT t = some (shownK t)) := fun j hj t htt => by
            rcases Nat.lt_or_ge j k with h | h
            · exact HSO.out j h t htt
            · have : j = k := by omega
              subst this
              obtain rfl := Option.some.inj (HY.out.symm.trans htt)
              rw [ht1, HSX.out]
          clear HSO
          have HSO := HSO2
          clear HSO2 ht hf ht1 hsl HF
          by_cases hk0 : k = 0
          · have i9 : ¬ (0 : Int) < (k : Int) := by omega
            have HP : Hid (joinB (ss.take (k + 1)) = joinB (ss.take k) ++ shownK (tkV y)) := by
              show _ = _
              rw [HJ.out, if_pos (HTZ.out.2 hk0), HTZ.out.2 hk0]; rfl
            have HLE : Hid ((joinB (ss.take (k + 1))).length ≤ 31 * (k + 1)) := by
              show _ ≤ _
              rw [HP.out, List.length_append, ← HSL.out]; omega
            clear HJ HTZ hk0
            have hw0 : (joinB (ss.take k)).length ≤ 100000000000000 := by omega
            obtain ⟨bv2, hbv⟩ : ∃ bv2, bv2 = bv := ⟨_, rfl⟩
            rw [← hbv] at O1 ⊢
            have O2 := O1
            have B2 := B1
            clear O1 B1 hbv hle
            go_wp2_with (at_builtin; go_must (refine Lib.wpList_append_own_string _ (by rfl) _ _ 53 9 (by rfl) w.heap.size 5 i0 Tryd.underlying53 Tryd.underlying9 hi hz0 hz1 hz2 bv2 _ _ (by rfl) O2.out SS (by rfl) (by unfold maxLen; omega) (by omega) (by have := B2.out.size; omega) ?_; intro bv3 w3 hown3 hgrow3 _))
            have B3 := hide (B2.out.grown hgrow3 B2.out.size (fun r hr => (O2.out.lt r hr).1))
            have O3 : Hid (w3.ownsRow w.heap.size 5 1 bv3 (joinB (ss.take (k + 1))).length (Lib.byteCells (joinB (ss.take (k + 1))))) := by
              show World.ownsRow _ _ _ _ _ _ _
              rw [HP.out, byteCells_app, List.length_append]
              have h3 := hown3
              rw [strCells_back HSX.out] at h3
              rw [← HSL.out]
              exact h3
            clear hown3 hgrow3 O2 B2
            go_wp2
            go_roundw
            case rel => exact ⟨k + 1, bv3, by omega, by go_num, rfl, O3.out, HSO.out, HLE.out, B3.out⟩
            case measure => simp [intOf]; omega
          · have i9 : (0 : Int) < (k : Int) := by omega
            have HP0 : Hid (joinB (ss.take (k + 1)) = (joinB (ss.take k) ++ [32]) ++ shownK (tkV y)) := by
              show _ = _
              rw [HJ.out, if_neg (fun h => hk0 (HTZ.out.1 h))]; simp
            have HP := HP0
            have HLE : Hid ((joinB (ss.take (k + 1))).length ≤ 31 * (k + 1)) := by
              show _ ≤ _
              rw [HP.out, List.length_append, List.length_append, ← HSL.out]; simp; omega
            clear HJ HTZ hk0 HP0
            have hw0 : (joinB (ss.take k)).length ≤ 100000000000000 := by omega
            have zz := B1.out.size
            go_wp2_with (at_builtin; first
              | (refine wpList_append_own _ (by rfl) _ _ 53 (by rfl) w.heap.size 5 i0 (.int .u8 0) 1 1 Tryd.underlying53 hi hz0 hz1 hz2 rfl (by decide) bv _ _ (by rfl) (O1.out.alloc _) ⟨w1.heap.size, 0, none⟩ 1 1 [.int .u8 32] (by rfl) (by rfl) (one_cell w1 32) (by intro u hu; simp at hu; subst hu; rfl) (by unfold maxLen; omega) (by omega) (by rw [World.size_alloc]; omega) ?_; intro bv2 w2 hown2 hgrow2 _; have O2 := hide hown2; have B2 := hide ((B1.out.alloc zz _).grown hgrow2 (by rw [World.size_alloc]; omega) (fun r hr => (O1.out.lt r hr).1)); clear hown2 hgrow2)
              | (refine Lib.wpList_append_own_string _ (by rfl) _ _ 53 9 (by rfl) w.heap.size 5 i0 Tryd.underlying53 Tryd.underlying9 hi hz0 hz1 hz2 bv2 _ _ (by rfl) O2.out SS (by rfl) (by unfold maxLen; omega) (by omega) (by have := B2.out.size; omega) ?_; intro bv3 w3 hown3 hgrow3 _))
            have B3 := hide (B2.out.grown hgrow3 B2.out.size (fun r hr => (O2.out.lt r hr).1))
            have O3 : Hid (w3.ownsRow w.heap.size 5 1 bv3 (joinB (ss.take (k + 1))).length (Lib.byteCells (joinB (ss.take (k + 1))))) := by
              show World.ownsRow _ _ _ _ _ _ _
              rw [HP.out, byteCells_app, byteCells_app, List.length_append, List.length_append]
              have h3 := hown3
              rw [strCells_back HSX.out] at h3
              rw [← HSL.out]
              exact h3
            clear hown3 hgrow3 O2 B2
            go_wp2
            go_roundw
            case rel => exact ⟨k + 1, bv3, by omega, by go_num, rfl, O3.out, HSO.out, HLE.out, B3.out⟩
            case measure => simp [intOf]; omega
      · obtain rfl : k = M := by omega
        have hj2 : ¬ (k : Int) + 1 < (k : Int) + 1 := by omega
        have htk : ss.take k = ss := List.take_of_length_le (by rw [HLS.out]; exact Nat.le_refl _)
        have hsp : l.map tkV = (l.map tkV).dropLast ++ [endT] := by
          have hne : l.map tkV ≠ [] := fun h => by have := HNt.out; rw [h] at this; cases this
          have e := List.dropLast_concat_getLast hne
          have hj : k < (l.map tkV).length := by rw [HNt.out]; omega
          have hl : (l.map tkV).getLast hne = endT := by
            rw [List.getLast_eq_getElem]
            have e1 : (l.map tkV)[k] = tkV x := Option.some.inj ((List.getElem?_eq_getElem hj).symm.trans HX.out)
            have e2 : (l.map tkV).length - 1 = k := by rw [HNt.out]; rfl
            simp only [e2]
            rw [e1, HEND.out]
          rw [hl] at e
          exact e.symm
        have HS : Hid (Shows (l.map tkV)) := by
          have h1 : showAll (l.map tkV).dropLast = some ((l.map tkV).dropLast.map shownK) := showAll_of fun t ht => by
            obtain ⟨j, hj, rfl⟩ := List.mem_iff_getElem.1 ht
            rw [List.length_dropLast, HNt.out] at hj
            refine HSO.out j (by omega) _ ?_
            rw [List.getElem_dropLast]
            exact List.getElem?_eq_getElem _
          have := shows_of h1
          rw [← hsp] at this
          exact this
        have ho := O.out
        rw [htk] at ho hle
        clear htk hsp HSO HX HEND O
        by_cases hbig : 65536 < (joinB ss).length
        · have HE : Hid (65536 < (joinB ((l.map tkV).dropLast.map shownK)).length) := by rw [← HSS.out]; exact hbig
          obtain ⟨av, cv, hv2, _⟩ := own_form3 ho
          have i7 : (65536 : Int) < ((joinB ss).length : Int) := by omega
          have i8 : ((joinB ss).length : Int) ≤ 100000000000000 := by omega
          subst hv2
          clear ho hbig hle
          generalize (joinB ss).length = Z at *
          go_wp2
          go_ret2
          exact ⟨⟨_, rfl, .inr (.inl ⟨HS.out, HE.out, rfl⟩)⟩, HB.out⟩
        · have HE : Hid ((joinB ((l.map tkV).dropLast.map shownK)).length ≤ 65536) := by rw [← HSS.out]; show _ ≤ _; omega
          have i7 : ¬ (65536 : Int) < ((joinB ss).length : Int) := by omega
          have hcv : (convert 53 9 bv).run Tryd.prog wr = .ok (.string ⟨(joinB ss).toArray⟩) wr := own_string ho
          have HR : Hid ((⟨(joinB ss).toArray⟩ : ByteArray) = ⟨(joinB ((l.map tkV).dropLast.map shownK)).toArray⟩) := by show _ = _; rw [← HSS.out]
          obtain ⟨av, cv, hv2, _⟩ := own_form3 ho
          subst hv2
          clear ho hbig hle
          generalize (⟨(joinB ss).toArray⟩ : ByteArray) = R at *
          generalize (joinB ss).length = Z at *
          go_wp2
          go_ret2
          exact ⟨⟨_, rfl, .inr (.inr ⟨HS.out, HE.out, by rw [← HR.out]; rfl⟩)⟩, HB.out⟩
end Go.Proofs.YtfcnbiikjopajaaDoor
