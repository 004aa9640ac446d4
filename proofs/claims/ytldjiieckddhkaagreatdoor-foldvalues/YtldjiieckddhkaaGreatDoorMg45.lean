/- EiV | EjV -/
import Derived.Test.YtldjiieckddhkaaGreatDoorEhV
import Derived.Deep.QuietTactic
import Derived.BigQuiet
namespace Go.Proofs.YtldjiieckddhkaaGreatDoor
open Go.RowKit Go.Sort
theorem wpList_append_pvs {w : World} {ops : Array Oper} {rest : List Oper} {o : Oper} {a : Act} {Q : Exit → Act → World → Prop} (hgd : Region.wanted o (yielded ops a.tmps) = true) (s x : Operand)
    (ho : o.op = .call { callee := .builtin .append, args := #[s, x], argTypes := #[23, 23] })
    (base n : Nat) (v : Value) (xs : List Value) (hs : a.eval s = v) (hown : w.ownsRow base 38 5 v n xs) (u : Value) (l : List Pv) (hx : a.eval x = u) (hL : PLst w u l) (hbytes : n + l.length ≤ 1000000) (hbase : base ≤ w.heap.size)
    (h : ∀ v' w', w'.ownsRow base 38 5 v' (n + l.length) (xs ++ pvsC l) → w.grownBy w' v.ownBlock → wpList Tryz.prog ops Q rest (a.put o.dst v') w') : wpList Tryz.prog ops Q (o :: rest) a w := by
  refine wpList_step fun K hK => ?_
  rw [if_pos hgd]
  obtain ⟨v', w', hr, h2, h3⟩ := run_append_pvs w base o.type n v xs hown u l hL hbytes hbase
  unfold Oper.wp execOp
  simp only [ho, resolve, invoke, builtin, Sem.run_bind, Sem.run_pure, Result.andThen_ok, List.map_toArray, List.map_cons, List.map_nil, hs, hx, hr]
  exact hK _ _ (h v' w' h2 h3)
set_option maxRecDepth 100000 in
set_option maxHeartbeats 6400000 in
theorem ask_two (z : Pv) (xa xb : List Pv) (v : Value) (t ka kb K : Int) (w : World) (la lb : List Pt) (hX : PLst w v (xa ++ (xb ++ [z]))) (hcp : CapOk v) (hlen : (xa ++ (xb ++ [z])).length ≤ 500) (hb1 : 0 < xb.length) (hla : la.length ≤ 500) (hlb : lb.length ≤ 500)
    (hfr : back (((xa ++ (xb ++ [z])).map ptV).take (xa.length + xb.length)).reverse 1 = some xa.length)
    (hka : ∀ u W, Below w.heap.size w W → PLst W u xa → Calls Tryz.prog 90 #[.slice none 0 0, u] W fun e w' => e = .returned (.int .i64 ka) ∧ Below W.heap.size W w')
    (hkb : ∀ u W, Below w.heap.size w W → PLst W u xb → Calls Tryz.prog 90 #[.slice none 0 0, u] W fun e w' => e = .returned (.int .i64 kb) ∧ Below W.heap.size W w')
    (hK : K = if max ka kb = 0 then (if 9 ≤ z.n then 3 else t) else max ka kb)
    (hra : ∀ u W, Below w.heap.size w W → PLst W u xa → CapOk u → Calls Tryz.prog 26 #[.slice none 0 0, u, .int .i64 K] W (AskOut W la))
    (hrb : ∀ u W, Below w.heap.size w W → PLst W u xb → CapOk u → Calls Tryz.prog 26 #[.slice none 0 0, u, .int .i64 K] W (AskOut W lb)) : Calls Tryz.prog 51 #[.slice none 0 0, v, .int .i64 t] w (AskOut w (la ++ (lb ++ [ptV z]))) := by
  obtain ⟨n1, hn1⟩ : ∃ n, n = xa.length := ⟨_, rfl⟩
  obtain ⟨n2, hn2⟩ : ∃ n, n = n1 + xb.length := ⟨_, rfl⟩
  have hNl : (xa ++ (xb ++ [z])).length = n2 + 1 := by simp only [List.length_append, List.length_cons, List.length_nil]; omega
  have h12 : n1 < n2 := by omega
  obtain ⟨ia, ic, hsa, hIa, hia⟩ := pl_take hX n1 (by rw [hNl]; omega) hcp
  rw [List.take_left' hn1.symm] at hIa
  obtain ⟨ja, jc, hsb, hIb, hjb⟩ := pl_mid hX n1 n2 h12 (by rw [hNl]; omega) hcp
  have hcut : ((xa ++ (xb ++ [z])).take n2).drop n1 = xb := by
    rw [← List.append_assoc, List.take_left' (by rw [List.length_append]; omega), List.drop_left' hn1.symm]
  rw [hcut] at hIb
  have mF := fun W (hb : Below w.heap.size w W) => from10_any v (xa ++ (xb ++ [z])) W (hX.below hb (Nat.le_refl _)) hlen (n2 - 1) n1 (by rw [hNl]; omega) (by rw [hn1, show n2 - 1 + 1 = xa.length + xb.length by omega]; exact hfr)
  obtain ⟨a, b, off, cap, rfl, hA, hI⟩ := hX
  rw [hNl] at hsa hsb hcp hA mF hlen ⊢
  obtain ⟨hbw, rfl⟩ := hA (by omega)
  have hz : (xa ++ (xb ++ [z]))[n2]? = some z := by
    rw [← List.append_assoc, List.getElem?_append_right (by rw [List.length_append]; omega), show n2 - (xa ++ xb).length = 0 by rw [List.length_append]; omega]; rfl
  obtain ⟨c0, c1, c2, c3, c4⟩ := hI n2 z hz
  have k1 : ((n2 + 1 : Nat) : Int) - 1 = (n2 : Int) := by omega
  have k5 : (n2 : Int) - 1 = ((n2 - 1 : Nat) : Int) := by omega
  have k2 : (0 : Int) ≤ (n2 : Int) := by omega
  have k3 : (n2 : Int) < ((n2 + 1 : Nat) : Int) := by omega
  have k4 : (n2 : Int) ≤ 500 := by omega
  have k6 : (0 : Int) ≤ (n1 : Int) := by omega
  have k7 : (n1 : Int) ≤ 500 := by omega
  have HIa := hide hIa
  have HIb := hide hIb
  have HCA : Hid (CapOk (.slice ia n1 ic)) := fun a n c h => by injection h with h1 h2 h3; omega
  have HCB : Hid (CapOk (.slice ja (n2 - n1) jc)) := fun a n c h => by injection h with h1 h2 h3; omega
  have HLN : Hid (la.length ≤ 500 ∧ lb.length ≤ 500) := ⟨hla, hlb⟩
  have HQ : Hid (∀ W, Below w.heap.size w W → W.cell? ⟨b, off + n2 * 5, none⟩ = some (.int .i64 z.k) ∧ W.cell? ⟨b, off + n2 * 5 + 1, none⟩ = some (.int .i64 z.n) ∧ W.cell? ⟨b, off + n2 * 5 + 2, none⟩ = some (.int .i64 z.t) ∧ W.cell? ⟨b, off + n2 * 5 + 3, none⟩ = some (.string z.s) ∧ W.cell? ⟨b, off + n2 * 5 + 4, none⟩ = some (.string z.f)) := fun W hb =>
    ⟨(hb.cell (p := ⟨b, off + n2 * 5, none⟩) hbw).trans c0, (hb.cell (p := ⟨b, off + n2 * 5 + 1, none⟩) hbw).trans c1, (hb.cell (p := ⟨b, off + n2 * 5 + 2, none⟩) hbw).trans c2, (hb.cell (p := ⟨b, off + n2 * 5 + 3, none⟩) hbw).trans c3, (hb.cell (p := ⟨b, off + n2 * 5 + 4, none⟩) hbw).trans c4⟩
  have HMX : Hid (∀ (ts : Array TypeId) (t : TypeId) (W : World), (Builtin.max_ ts t #[.int .i64 ka, .int .i64 kb]).run Tryz.prog W = .ok (.int .i64 (max ka kb)) W) := fun ts t W => by
    rw [run_max_int2]; exact congrArg (fun z => Result.ok (Value.int .i64 z) W) (by split <;> omega)
  have HKK := hide hK
  have HKA := hide hka
  have HKB := hide hkb
  have HRA := hide hra
  have HRB := hide hrb
  have HMF := hide mF
  clear hlen hn1 hn2 hNl hz hcut hI hA hcp hIa hIb hia hjb hla hlb hfr hka hkb hK hra hrb mF hb1 c0 c1 c2 c3 c4 h12
  generalize hNN : ((n2 + 1 : Nat) : Int) = NN at *
  generalize n2 + 1 = N1 at *
  generalize hMM : ((n2 - 1 : Nat) : Int) = MM at *
  generalize n2 - n1 = nb at *
  have m53 := HMF.out w (Below.refl _ _)
  go_enter Tryz.func51, Tryz.ntmps51
  go_wp2_with fail
  refine m53.mono ?_
  rintro e w1 ⟨rfl, hb1⟩
  have B1 := hide hb1
  clear m53 hb1
  go_wp2_with fail
  go_quiet (fail)
  go_wp2_with fail
  have b2 : Below w.heap.size w (w1.drewN nq) := below_drewD B1.out nq
  refine (HKA.out _ _ b2 (HIa.out.below b2 (Nat.le_refl _))).mono ?_
  rintro e w3 ⟨rfl, hb3⟩
  have B3 := hide (b2.trans (hb3.mono b2.size))
  clear b2 hb3
  go_wp2_with fail
  refine (HKB.out _ _ B3.out (HIb.out.below B3.out (Nat.le_refl _))).mono ?_
  rintro e w4 ⟨rfl, hb4⟩
  have B4 := hide (B3.out.trans (hb4.mono B3.out.size))
  clear hb4 B3 B1 HKA HKB HMF
  have HM' := HMX.out
  generalize max ka kb = M at *
  obtain ⟨c0, c1, c2, c3, c4⟩ := HQ.out w4 B4.out
  by_cases hM : M = 0
  · subst hM
    by_cases h9 : 9 ≤ z.n
    · obtain rfl : K = 3 := by rw [HKK.out, if_pos rfl, if_pos h9]
      clear HKK
      go_wp2_with fail
      have b5 : Below w.heap.size w (w4.alloc (.cells #[] 38)) := B4.out.alloc B4.out.size _
      refine (HRA.out _ _ b5 (HIa.out.below b5 (Nat.le_refl _)) HCA.out).mono ?_
      rintro e w5 ⟨⟨u, ya, rfl, hP, hPc, hPy⟩, hb5⟩
      have own0 : (w4.alloc (.cells #[] 38)).ownsRow w4.heap.size 38 5 (.slice (some ⟨w4.heap.size, 0, none⟩) 0 0) 0 [] := World.ownsRow_lit (e := 38) (size := 5) w4 #[] 0 (Nat.le_refl _) (by decide) rfl
      have O5 := hide (own_on own0 hb5)
      have B5 := hide (b5.trans (hb5.mono b5.size))
      have z5 : Hid (w4.heap.size ≤ w5.heap.size) := by have := hb5.size; rw [World.size_alloc] at this; show _ ≤ _; omega
      have hyl : ya.length ≤ 500 := by have := congrArg List.length hPy; rw [List.length_map] at this; have := HLN.out; omega
      have HP := hide hP
      have HPY := hide hPy
      have HYL := hide hyl
      clear hP hPc hPy hb5 own0 b5 hyl
      go_wp2_with (at_builtin; go_must (refine wpList_append_pvs (by rfl) _ _ (by rfl) w4.heap.size 0 (.slice (some ⟨w4.heap.size, 0, none⟩) 0 0) [] (by rfl) O5.out u ya (by rfl) HP.out (by have := HYL.out; omega) z5.out ?_; intro v6 w6 hown6 hg6; have O6 := hide hown6; have B6 := hide (B5.out.grown hg6 B5.out.size (fun k hk => Nat.le_trans B4.out.size (O5.out.lt k hk).1)); have z6 : Hid (w4.heap.size ≤ w6.heap.size) := Nat.le_trans z5.out hg6.size; clear hown6 hg6))
      refine (HRB.out _ _ B6.out (HIb.out.below B6.out (Nat.le_refl _)) HCB.out).mono ?_
      rintro e w7 ⟨⟨u2, yb, rfl, hP, hPc, hPy⟩, hb7⟩
      have O7 := hide (own_on O6.out hb7)
      have B7 := hide (B6.out.trans (hb7.mono B6.out.size))
      have z7 : Hid (w4.heap.size ≤ w7.heap.size) := Nat.le_trans z6.out hb7.size
      have hyl : yb.length ≤ 500 := by have := congrArg List.length hPy; rw [List.length_map] at this; have := HLN.out; omega
      have HP2 := hide hP
      have HPY2 := hide hPy
      have HYL2 := hide hyl
      have HQ7 : Hid (∀ W, Below w7.heap.size w7 W → W.cell? ⟨b, off + n2 * 5, none⟩ = some (.int .i64 z.k) ∧ W.cell? ⟨b, off + n2 * 5 + 1, none⟩ = some (.int .i64 z.n) ∧ W.cell? ⟨b, off + n2 * 5 + 2, none⟩ = some (.int .i64 z.t) ∧ W.cell? ⟨b, off + n2 * 5 + 3, none⟩ = some (.string z.s) ∧ W.cell? ⟨b, off + n2 * 5 + 4, none⟩ = some (.string z.f)) := fun W hb => HQ.out W (B7.out.trans (hb.mono B7.out.size))
      clear hP hPc hPy hb7 hyl O6 HP
      go_wp2_with (at_builtin; go_must (first | (refine wpList_append_pvs (by rfl) _ _ (by rfl) w4.heap.size (0 + ya.length) v6 ([] ++ pvsC ya) (by rfl) O7.out u2 yb (by rfl) HP2.out (by have := HYL.out; have := HYL2.out; omega) z7.out ?_; intro v8 w8 hown8 hg8; have O8 := hide hown8; have B8 := hide (B7.out.grown hg8 B7.out.size (fun k hk => Nat.le_trans B4.out.size (O7.out.lt k hk).1)); have z8 : Hid (w4.heap.size ≤ w8.heap.size) := Nat.le_trans z7.out hg8.size; obtain ⟨d0, d1, d2, d3, d4⟩ := HQ.out w8 B8.out; clear hown8 hg8) | (refine wpList_append_pvs (by rfl) _ _ (by rfl) w4.heap.size (0 + ya.length + yb.length) v8 ([] ++ pvsC ya ++ pvsC yb) (by rfl) (O8.out.alloc _) (.slice (some ⟨w8.heap.size, 0, none⟩) 1 1) [z] (by rfl) (own_one_pv (heap_alloc_new w8 _)) (by have := HYL.out; have := HYL2.out; show 0 + ya.length + yb.length + 1 ≤ _; omega) (by rw [World.size_alloc]; have := z8.out; omega) ?_; intro v9 w9 hown9 hg9; have O9 := hide hown9; have B9 := hide ((B8.out.alloc B8.out.size _).grown hg9 (by rw [World.size_alloc]; have := B8.out.size; omega) (fun k hk => Nat.le_trans B4.out.size (O8.out.lt k hk).1)); clear hown9 hg9)))
      have hl : (ya ++ (yb ++ [z])).length = 0 + ya.length + yb.length + 1 := by simp only [List.length_append, List.length_cons, List.length_nil]; omega
      have HFIN : Hid (AskOut w (la ++ (lb ++ [ptV z])) (.returned v9) w9) := by
        refine ⟨⟨v9, ya ++ (yb ++ [z]), rfl, PLst.of_owns (base := w4.heap.size) ?_, ?_, by rw [List.map_append, List.map_append, HPY.out, HPY2.out]; rfl⟩, B9.out⟩
        · rw [hl, pvsC_append, pvsC_append, ← List.append_assoc]; exact O9.out
        · obtain ⟨a, c, e, hc⟩ := own_formD O9.out; rw [e]; exact fun a n c h => by injection h with h1 h2 h3; omega
      clear hl d0 d1 d2 d3 d4
      go_wp2
      go_ret
      exact HFIN.out
    · obtain rfl : K = t := by rw [HKK.out, if_pos rfl, if_neg h9]
      have h9' : ¬ (9 : Int) ≤ z.n := h9
      clear HKK
      go_wp2_with fail
      have b5 : Below w.heap.size w (w4.alloc (.cells #[] 38)) := B4.out.alloc B4.out.size _
      refine (HRA.out _ _ b5 (HIa.out.below b5 (Nat.le_refl _)) HCA.out).mono ?_
      rintro e w5 ⟨⟨u, ya, rfl, hP, hPc, hPy⟩, hb5⟩
      have own0 : (w4.alloc (.cells #[] 38)).ownsRow w4.heap.size 38 5 (.slice (some ⟨w4.heap.size, 0, none⟩) 0 0) 0 [] := World.ownsRow_lit (e := 38) (size := 5) w4 #[] 0 (Nat.le_refl _) (by decide) rfl
      have O5 := hide (own_on own0 hb5)
      have B5 := hide (b5.trans (hb5.mono b5.size))
      have z5 : Hid (w4.heap.size ≤ w5.heap.size) := by have := hb5.size; rw [World.size_alloc] at this; show _ ≤ _; omega
      have hyl : ya.length ≤ 500 := by have := congrArg List.length hPy; rw [List.length_map] at this; have := HLN.out; omega
      have HP := hide hP
      have HPY := hide hPy
      have HYL := hide hyl
      clear hP hPc hPy hb5 own0 b5 hyl
      go_wp2_with (at_builtin; go_must (refine wpList_append_pvs (by rfl) _ _ (by rfl) w4.heap.size 0 (.slice (some ⟨w4.heap.size, 0, none⟩) 0 0) [] (by rfl) O5.out u ya (by rfl) HP.out (by have := HYL.out; omega) z5.out ?_; intro v6 w6 hown6 hg6; have O6 := hide hown6; have B6 := hide (B5.out.grown hg6 B5.out.size (fun k hk => Nat.le_trans B4.out.size (O5.out.lt k hk).1)); have z6 : Hid (w4.heap.size ≤ w6.heap.size) := Nat.le_trans z5.out hg6.size; clear hown6 hg6))
      refine (HRB.out _ _ B6.out (HIb.out.below B6.out (Nat.le_refl _)) HCB.out).mono ?_
      rintro e w7 ⟨⟨u2, yb, rfl, hP, hPc, hPy⟩, hb7⟩
      have O7 := hide (own_on O6.out hb7)
      have B7 := hide (B6.out.trans (hb7.mono B6.out.size))
      have z7 : Hid (w4.heap.size ≤ w7.heap.size) := Nat.le_trans z6.out hb7.size
      have hyl : yb.length ≤ 500 := by have := congrArg List.length hPy; rw [List.length_map] at this; have := HLN.out; omega
      have HP2 := hide hP
      have HPY2 := hide hPy
      have HYL2 := hide hyl
      have HQ7 : Hid (∀ W, Below w7.heap.size w7 W → W.cell? ⟨b, off + n2 * 5, none⟩ = some (.int .i64 z.k) ∧ W.cell? ⟨b, off + n2 * 5 + 1, none⟩ = some (.int .i64 z.n) ∧ W.cell? ⟨b, off + n2 * 5 + 2, none⟩ = some (.int .i64 z.t) ∧ W.cell? ⟨b, off + n2 * 5 + 3, none⟩ = some (.string z.s) ∧ W.cell? ⟨b, off + n2 * 5 + 4, none⟩ = some (.string z.f)) := fun W hb => HQ.out W (B7.out.trans (hb.mono B7.out.size))
      clear hP hPc hPy hb7 hyl O6 HP
      go_wp2_with (at_builtin; go_must (first | (refine wpList_append_pvs (by rfl) _ _ (by rfl) w4.heap.size (0 + ya.length) v6 ([] ++ pvsC ya) (by rfl) O7.out u2 yb (by rfl) HP2.out (by have := HYL.out; have := HYL2.out; omega) z7.out ?_; intro v8 w8 hown8 hg8; have O8 := hide hown8; have B8 := hide (B7.out.grown hg8 B7.out.size (fun k hk => Nat.le_trans B4.out.size (O7.out.lt k hk).1)); have z8 : Hid (w4.heap.size ≤ w8.heap.size) := Nat.le_trans z7.out hg8.size; obtain ⟨d0, d1, d2, d3, d4⟩ := HQ.out w8 B8.out; clear hown8 hg8) | (refine wpList_append_pvs (by rfl) _ _ (by rfl) w4.heap.size (0 + ya.length + yb.length) v8 ([] ++ pvsC ya ++ pvsC yb) (by rfl) (O8.out.alloc _) (.slice (some ⟨w8.heap.size, 0, none⟩) 1 1) [z] (by rfl) (own_one_pv (heap_alloc_new w8 _)) (by have := HYL.out; have := HYL2.out; show 0 + ya.length + yb.length + 1 ≤ _; omega) (by rw [World.size_alloc]; have := z8.out; omega) ?_; intro v9 w9 hown9 hg9; have O9 := hide hown9; have B9 := hide ((B8.out.alloc B8.out.size _).grown hg9 (by rw [World.size_alloc]; have := B8.out.size; omega) (fun k hk => Nat.le_trans B4.out.size (O8.out.lt k hk).1)); clear hown9 hg9)))
      have hl : (ya ++ (yb ++ [z])).length = 0 + ya.length + yb.length + 1 := by simp only [List.length_append, List.length_cons, List.length_nil]; omega
      have HFIN : Hid (AskOut w (la ++ (lb ++ [ptV z])) (.returned v9) w9) := by
        refine ⟨⟨v9, ya ++ (yb ++ [z]), rfl, PLst.of_owns (base := w4.heap.size) ?_, ?_, by rw [List.map_append, List.map_append, HPY.out, HPY2.out]; rfl⟩, B9.out⟩
        · rw [hl, pvsC_append, pvsC_append, ← List.append_assoc]; exact O9.out
        · obtain ⟨a, c, e, hc⟩ := own_formD O9.out; rw [e]; exact fun a n c h => by injection h with h1 h2 h3; omega
      clear hl d0 d1 d2 d3 d4
      go_wp2
      go_ret
      exact HFIN.out
  · obtain rfl : K = M := by rw [HKK.out, if_neg hM]
    have hM' : (K == 0) = false := by rw [beq_eq_false_iff_ne]; exact hM
    clear HKK hM
    go_wp2_with fail
    have b5 : Below w.heap.size w (w4.alloc (.cells #[] 38)) := B4.out.alloc B4.out.size _
    refine (HRA.out _ _ b5 (HIa.out.below b5 (Nat.le_refl _)) HCA.out).mono ?_
    rintro e w5 ⟨⟨u, ya, rfl, hP, hPc, hPy⟩, hb5⟩
    have own0 : (w4.alloc (.cells #[] 38)).ownsRow w4.heap.size 38 5 (.slice (some ⟨w4.heap.size, 0, none⟩) 0 0) 0 [] := World.ownsRow_lit (e := 38) (size := 5) w4 #[] 0 (Nat.le_refl _) (by decide) rfl
    have O5 := hide (own_on own0 hb5)
    have B5 := hide (b5.trans (hb5.mono b5.size))
    have z5 : Hid (w4.heap.size ≤ w5.heap.size) := by have := hb5.size; rw [World.size_alloc] at this; show _ ≤ _; omega
    have hyl : ya.length ≤ 500 := by have := congrArg List.length hPy; rw [List.length_map] at this; have := HLN.out; omega
    have HP := hide hP
    have HPY := hide hPy
    have HYL := hide hyl
    clear hP hPc hPy hb5 own0 b5 hyl
    go_wp2_with (at_builtin; go_must (refine wpList_append_pvs (by rfl) _ _ (by rfl) w4.heap.size 0 (.slice (some ⟨w4.heap.size, 0, none⟩) 0 0) [] (by rfl) O5.out u ya (by rfl) HP.out (by have := HYL.out; omega) z5.out ?_; intro v6 w6 hown6 hg6; have O6 := hide hown6; have B6 := hide (B5.out.grown hg6 B5.out.size (fun k hk => Nat.le_trans B4.out.size (O5.out.lt k hk).1)); have z6 : Hid (w4.heap.size ≤ w6.heap.size) := Nat.le_trans z5.out hg6.size; clear hown6 hg6))
    refine (HRB.out _ _ B6.out (HIb.out.below B6.out (Nat.le_refl _)) HCB.out).mono ?_
    rintro e w7 ⟨⟨u2, yb, rfl, hP, hPc, hPy⟩, hb7⟩
    have O7 := hide (own_on O6.out hb7)
    have B7 := hide (B6.out.trans (hb7.mono B6.out.size))
    have z7 : Hid (w4.heap.size ≤ w7.heap.size) := Nat.le_trans z6.out hb7.size
    have hyl : yb.length ≤ 500 := by have := congrArg List.length hPy; rw [List.length_map] at this; have := HLN.out; omega
    have HP2 := hide hP
    have HPY2 := hide hPy
    have HYL2 := hide hyl
    have HQ7 : Hid (∀ W, Below w7.heap.size w7 W → W.cell? ⟨b, off + n2 * 5, none⟩ = some (.int .i64 z.k) ∧ W.cell? ⟨b, off + n2 * 5 + 1, none⟩ = some (.int .i64 z.n) ∧ W.cell? ⟨b, off + n2 * 5 + 2, none⟩ = some (.int .i64 z.t) ∧ W.cell? ⟨b, off + n2 * 5 + 3, none⟩ = some (.string z.s) ∧ W.cell? ⟨b, off + n2 * 5 + 4, none⟩ = some (.string z.f)) := fun W hb => HQ.out W (B7.out.trans (hb.mono B7.out.size))
    clear hP hPc hPy hb7 hyl O6 HP
    go_wp2_with (at_builtin; go_must (first | (refine wpList_append_pvs (by rfl) _ _ (by rfl) w4.heap.size (0 + ya.length) v6 ([] ++ pvsC ya) (by rfl) O7.out u2 yb (by rfl) HP2.out (by have := HYL.out; have := HYL2.out; omega) z7.out ?_; intro v8 w8 hown8 hg8; have O8 := hide hown8; have B8 := hide (B7.out.grown hg8 B7.out.size (fun k hk => Nat.le_trans B4.out.size (O7.out.lt k hk).1)); have z8 : Hid (w4.heap.size ≤ w8.heap.size) := Nat.le_trans z7.out hg8.size; obtain ⟨d0, d1, d2, d3, d4⟩ := HQ.out w8 B8.out; clear hown8 hg8) | (refine wpList_append_pvs (by rfl) _ _ (by rfl) w4.heap.size (0 + ya.length + yb.length) v8 ([] ++ pvsC ya ++ pvsC yb) (by rfl) (O8.out.alloc _) (.slice (some ⟨w8.heap.size, 0, none⟩) 1 1) [z] (by rfl) (own_one_pv (heap_alloc_new w8 _)) (by have := HYL.out; have := HYL2.out; show 0 + ya.length + yb.length + 1 ≤ _; omega) (by rw [World.size_alloc]; have := z8.out; omega) ?_; intro v9 w9 hown9 hg9; have O9 := hide hown9; have B9 := hide ((B8.out.alloc B8.out.size _).grown hg9 (by rw [World.size_alloc]; have := B8.out.size; omega) (fun k hk => Nat.le_trans B4.out.size (O8.out.lt k hk).1)); clear hown9 hg9)))
    have hl : (ya ++ (yb ++ [z])).length = 0 + ya.length + yb.length + 1 := by simp only [List.length_append, List.length_cons, List.length_nil]; omega
    have HFIN : Hid (AskOut w (la ++ (lb ++ [ptV z])) (.returned v9) w9) := by
      refine ⟨⟨v9, ya ++ (yb ++ [z]), rfl, PLst.of_owns (base := w4.heap.size) ?_, ?_, by rw [List.map_append, List.map_append, HPY.out, HPY2.out]; rfl⟩, B9.out⟩
      · rw [hl, pvsC_append, pvsC_append, ← List.append_assoc]; exact O9.out
      · obtain ⟨a, c, e, hc⟩ := own_formD O9.out; rw [e]; exact fun a n c h => by injection h with h1 h2 h3; omega
    clear hl d0 d1 d2 d3 d4
    go_wp2
    go_ret
    exact HFIN.out
end Go.Proofs.YtldjiieckddhkaaGreatDoor
namespace Go.Proofs.YtldjiieckddhkaaGreatDoor
open Go.RowKit Go.Sort
set_option maxRecDepth 100000 in
set_option maxHeartbeats 3200000 in
theorem ask_num (z : Pv) (v : Value) (t : Int) (w : World) (hX : PLst w v [z]) (hcp : CapOk v) (hk : z.k = 1) : Calls Tryz.prog 26 #[.slice none 0 0, v, .int .i64 t] w (AskOut w [if z.t = 0 then ⟨z.k, z.s.data.toList, z.f.data.toList, z.n, t⟩ else ptV z]) := by
  obtain ⟨ia, ic, hsl, hIn, hic⟩ := pl_take hX 0 (by simp) hcp
  obtain ⟨a, b, off, cap, rfl, hA, hI⟩ := hX
  obtain ⟨hbw, rfl⟩ := hA (by simp)
  obtain ⟨c0, c1, c2, c3, c4⟩ := hI 0 z rfl
  have hk1 : (z.k == 1) = true := by rw [hk]; rfl
  have hsl : ∀ W, (Instr.slice 23 (.slice (some ⟨b, off, none⟩) 1 cap) none (some (.int .i64 0)) none).run Tryz.prog W = .ok (.slice ia 0 ic) W := hsl
  have HB2 : Hid (∀ o1 o2, Below w.heap.size w ((w.alloc o1).alloc o2)) := fun o1 o2 => ((Below.refl w.heap.size w).alloc (Nat.le_refl _) o1).alloc (by simp) o2
  have k1 : ((1 : Nat) : Int) - 1 = 0 := by decide
  simp only [List.length_cons, List.length_nil, Nat.zero_add, Nat.zero_mul, Nat.add_zero] at c0 c1 c2 c3 c4 ⊢
  clear hI hA hIn hic hcp hk
  by_cases h0 : z.t = 0
  · rw [if_pos h0]
    have h0' : (z.t == 0) = true := by rw [beq_iff_eq]; exact h0
    have HF : Hid (∀ o1, AskOut w [⟨z.k, z.s.data.toList, z.f.data.toList, z.n, t⟩] (.returned (.slice (some ⟨w.heap.size + 1, 0, none⟩) 1 1)) ((w.alloc o1).alloc (.cells #[.int .i64 z.k, .int .i64 z.n, .int .i64 t, .string z.s, .string z.f] 38))) := fun o1 => by
      refine ⟨⟨_, [⟨z.k, z.n, t, z.s, z.f⟩], rfl, own_one_pv (x := ⟨z.k, z.n, t, z.s, z.f⟩) (by have := heap_alloc_new (w.alloc o1) (.cells #[.int .i64 z.k, .int .i64 z.n, .int .i64 t, .string z.s, .string z.f] 38); rw [World.size_alloc] at this; exact this), fun a n c h => by injection h with h1 h2 h3; omega, rfl⟩, HB2.out _ _⟩
    clear h0 HB2
    go_enter Tryz.func26, Tryz.ntmps26
    go_wp2
    go_ret
    exact HF.out _
  · rw [if_neg h0]
    have h0' : (z.t == 0) = false := by rw [beq_eq_false_iff_ne]; exact h0
    have HF : Hid (∀ o1, AskOut w [ptV z] (.returned (.slice (some ⟨w.heap.size + 1, 0, none⟩) 1 1)) ((w.alloc o1).alloc (.cells #[.int .i64 z.k, .int .i64 z.n, .int .i64 z.t, .string z.s, .string z.f] 38))) := fun o1 => by
      refine ⟨⟨_, [z], rfl, own_one_pv (x := z) (by have := heap_alloc_new (w.alloc o1) (.cells #[.int .i64 z.k, .int .i64 z.n, .int .i64 z.t, .string z.s, .string z.f] 38); rw [World.size_alloc] at this; exact this), fun a n c h => by injection h with h1 h2 h3; omega, rfl⟩, HB2.out _ _⟩
    clear h0 HB2
    go_enter Tryz.func26, Tryz.ntmps26
    go_wp2
    go_ret
    exact HF.out _
set_option maxRecDepth 100000 in
set_option maxHeartbeats 3200000 in
theorem ask_op2 (z : Pv) (xi : List Pv) (v : Value) (t : Int) (w : World) (l : List Pt) (hX : PLst w v (xi ++ [z])) (hcp : CapOk v) (hk : z.k = 5) (ho : takes (ptV z) = 2) (hlen : xi.length ≤ 500)
    (hr : ∀ W, Below w.heap.size w W → Calls Tryz.prog 51 #[.slice none 0 0, v, .int .i64 t] W (AskOut W l)) : Calls Tryz.prog 26 #[.slice none 0 0, v, .int .i64 t] w (AskOut w l) := by
  obtain ⟨n1, hn1⟩ : ∃ n, n = xi.length := ⟨_, rfl⟩
  have hNl : (xi ++ [z]).length = n1 + 1 := by rw [List.length_append, hn1]; rfl
  obtain ⟨ia, ic, hsl, hIn, hic⟩ := pl_take hX n1 (by rw [hNl]; omega) hcp
  obtain ⟨a, b, off, cap, rfl, hA, hI⟩ := hX
  rw [hNl] at hsl hcp hA hr ⊢
  obtain ⟨hbw, rfl⟩ := hA (by omega)
  have hz : (xi ++ [z])[n1]? = some z := by rw [List.getElem?_append_right (by omega), hn1, Nat.sub_self]; rfl
  obtain ⟨c0, c1, c2, c3, c4⟩ := hI n1 z hz
  have k1 : ((n1 + 1 : Nat) : Int) - 1 = (n1 : Int) := by omega
  have k2 : (0 : Int) ≤ (n1 : Int) := by omega
  have k3 : (n1 : Int) < ((n1 + 1 : Nat) : Int) := by omega
  have k4 : (n1 : Int) ≤ 500 := by omega
  have HR := hide hr
  clear hlen hz hn1 hNl hr hIn hic hI hA hcp
  generalize hNN : ((n1 + 1 : Nat) : Int) = NN at *
  generalize n1 + 1 = N1 at *
  have B1 : Hid (Below w.heap.size w (w.alloc (.cells #[.int .i64 z.k, .int .i64 z.n, .int .i64 z.t, .string z.s, .string z.f] 38))) := (Below.refl _ _).alloc (Nat.le_refl _) _
  have hk1 : (z.k == 1) = false := by rw [hk]; rfl
  have hk3 : (z.k == 3) = false := by rw [hk]; rfl
  have hk6 : (z.k == 6) = false := by rw [hk]; rfl
  have hk5 : (z.k == 5) = true := by rw [hk]; rfl
  have m50 := fun W => qTakes_v z W
  rw [ho] at m50
  clear hk ho
  go_enter Tryz.func26, Tryz.ntmps26
  go_wp2_with fail
  refine (m50 _).mono ?_
  rintro e wd ⟨rfl, hbd⟩
  have B2 := hide (B1.out.trans (hbd.mono B1.out.size))
  clear hbd m50 B1
  go_wp2_with fail
  refine (HR.out _ B2.out).mono ?_
  rintro e we ⟨⟨u, yy, rfl, hP, hPc, hPy⟩, hbe⟩
  have HFIN : Hid (AskOut w l (.returned u) we) := ⟨⟨u, yy, rfl, hP, hPc, hPy⟩, B2.out.trans (hbe.mono B2.out.size)⟩
  clear hP hPc hPy hbe HR B2
  go_wp2
  go_ret
  exact HFIN.out
theorem map_snoc {l : List Pv} {a : List Pt} {p : Pt} (h : l.map ptV = a ++ [p]) : ∃ xi z, l = xi ++ [z] ∧ xi.map ptV = a ∧ ptV z = p := by
  rcases List.eq_nil_or_concat l with rfl | ⟨r, z, rfl⟩
  · simp at h
  · rw [List.concat_eq_append, List.map_append] at h
    obtain ⟨h1, h2⟩ := List.append_inj' h rfl
    exact ⟨r, z, List.concat_eq_append, h1, by simpa using h2⟩
theorem map_app2 {l : List Pv} {a b : List Pt} (h : l.map ptV = a ++ b) : ∃ x y, l = x ++ y ∧ x.map ptV = a ∧ y.map ptV = b := List.map_eq_append_iff.1 h
theorem askE_len (vs : List Vr) : ∀ (t : Int) (e : Ex), (flat (askE vs t e)).length = (flat e).length
  | t, .leaf p => rfl
  | t, .one p e => by
    show (flat (askE vs _ e) ++ [p]).length = (flat e ++ [p]).length
    rw [List.length_append, List.length_append, askE_len]
  | t, .two p a b => by
    show (flat (askE vs _ a) ++ (flat (askE vs _ b) ++ [p])).length = (flat a ++ (flat b ++ [p])).length
    simp only [List.length_append, askE_len]
theorem askN_any : ∀ {e : Ex} {k : Kd}, well e → (∀ p ∈ flat e, p.s = []) → evT (partK []) e = .ok k → dep e ≤ 24 → (flat e).length ≤ 500 → ∀ (v : Value) (x : List Pv) (t : Int) (w : World), PLst w v x → CapOk v → x.map ptV = flat e → Calls Tryz.prog 26 #[.slice none 0 0, v, .int .i64 t] w (AskOut w (flat (askE [] t e)))
  | .leaf p, k, hw, hs, hk, hd, hl, v, x, t, w, hX, hcp, hx => by
    obtain ⟨xi, z, rfl, hxi, rfl⟩ := map_snoc (a := []) hx
    obtain rfl : xi = [] := by simpa using hxi
    have h1 : (ptV z).kind = 1 := by
      rcases kind_none hw.2 (hs _ (by simp [flat])) with h | h | h
      · exact h
      · have := hw.1; unfold takes at this; rw [if_neg (by omega)] at this; split at this
        · cases this
        · first | cases this | (rw [if_pos h] at this; cases this)
      · have := hw.1; unfold takes at this; rw [if_pos (.inr h)] at this; cases this
    have := ask_num z v t w hX hcp h1
    have e : flat (askE [] t (.leaf (ptV z))) = [if z.t = 0 then ⟨z.k, z.s.data.toList, z.f.data.toList, z.n, t⟩ else ptV z] := by
      show [if (ptV z).kind = 1 ∧ (ptV z).t = 0 then _ else _] = _
      by_cases h0 : z.t = 0
      · rw [if_pos ⟨h1, h0⟩, if_pos h0]; rfl
      · rw [if_neg (fun h => h0 h.2), if_neg h0]
    rw [e]; exact this
  | .one p a, k, hw, hs, hk, hd, hl, v, x, t, w, hX, hcp, hx => by
    obtain ⟨xi, z, rfl, hxi, rfl⟩ := map_snoc (a := flat a) hx
    have hsa : ∀ q ∈ flat a, q.s = [] := fun q hq => hs q (by simp [flat, hq])
    have hla : (flat a).length ≤ 500 := by have : (flat (.one (ptV z) a)).length = (flat a).length + 1 := by show (flat a ++ [ptV z]).length = _; simp
                                           omega
    have hda : dep a ≤ 24 := by have : dep (.one (ptV z) a) = dep a + 1 := rfl; omega
    obtain ⟨u, hu, -⟩ := ev1_inv hk
    have hxl : xi.length ≤ 500 := by have := congrArg List.length hxi; rw [List.length_map] at this; omega
    rcases kind_none hw.2.1 (hs _ (by simp [flat])) with h | h | h
    · have := hw.1; unfold takes at this; rw [h] at this; cases this
    · have e : askE [] t (.one (ptV z) a) = .one (ptV z) (askE [] t a) := by rw [askE, if_neg (by omega), if_neg (by omega)]
      rw [e]
      exact ask_op1 z xi v t w (flat (askE [] t a)) hX hcp h hw.1 hxl (by rw [askE_len]; exact hla) (fun u W hb hP hc => askN_any hw.2.2 hsa hu hda hla u xi t W hP hc hxi)
    · have e : askE [] t (.one (ptV z) a) = .one (ptV z) (askE [] 3 a) := by rw [askE, if_neg (by omega), if_pos h]
      rw [e]
      exact ask_to z xi v t w (flat (askE [] 3 a)) hX hcp h hxl (by rw [askE_len]; exact hla) (fun u W hb hP hc => askN_any hw.2.2 hsa hu hda hla u xi 3 W hP hc hxi)
  | .two p a b, k, hw, hs, hk, hd, hl, v, x, t, w, hX, hcp, hx => by
    obtain ⟨xa, xr, rfl, hxa, hxr⟩ := map_app2 (a := flat a) (b := flat b ++ [p]) hx
    obtain ⟨xb, z, rfl, hxb, rfl⟩ := map_snoc (a := flat b) hxr
    have hsa : ∀ q ∈ flat a, q.s = [] := fun q hq => hs q (by simp [flat, hq])
    have hsb : ∀ q ∈ flat b, q.s = [] := fun q hq => hs q (by simp [flat, hq])
    have hfl : (flat (.two (ptV z) a b)).length = (flat a).length + ((flat b).length + 1) := by show (flat a ++ (flat b ++ [ptV z])).length = _; simp
    have hdd : dep (.two (ptV z) a b) = max (dep b) (dep a) + 1 := rfl
    obtain ⟨u, u', hu, hu', -⟩ := ev2_inv hk
    have hal : xa.length = (flat a).length := by have := congrArg List.length hxa; rwa [List.length_map] at this
    have hbl : xb.length = (flat b).length := by have := congrArg List.length hxb; rwa [List.length_map] at this
    have hpb := flat_pos b
    obtain ⟨h5, hn⟩ := two_kind hw.1 hw.2.1
    have hka : typD (flat a) = u.typ := typ_alike hw.2.2.1 hsa hu
    have hkb : typD (flat b) = u'.typ := typ_alike hw.2.2.2 hsb hu'
    have hxl : (xa ++ (xb ++ [z])).length ≤ 500 := by simp only [List.length_append, List.length_cons, List.length_nil]; omega
    have e : askE [] t (.two (ptV z) a b) = .two (ptV z) (askE [] (kTwo [] (ptV z) a b t) a) (askE [] (kTwo [] (ptV z) a b t) b) := by rw [askE]
    rw [e]
    have hX' : PLst w v ((xa ++ xb) ++ [z]) := by rw [List.append_assoc]; exact hX
    refine ask_op2 z (xa ++ xb) v t w _ hX' hcp h5 hw.1 (by simp only [List.length_append] at hxl ⊢; omega) (fun W hb => ?_)
    refine ask_two z xa xb v t (typD (flat a)) (typD (flat b)) (kTwo [] (ptV z) a b t) W _ _ (hX.below hb (Nat.le_refl _)) hcp hxl (by omega) (by rw [askE_len]; omega) (by rw [askE_len]; omega) ?_ ?_ ?_ ?_ ?_ ?_
    · have h1 : ((xa ++ (xb ++ [z])).map ptV).take (xa.length + xb.length) = flat a ++ flat b := by
        rw [List.map_append, List.map_append, hxa, hxb, ← List.append_assoc, List.take_left' (by rw [List.length_append]; omega)]
      rw [h1, List.reverse_append, back_flat b hw.2.2.2 1 _ (Nat.le_refl _), if_pos rfl, List.length_reverse, hal]
    · intro q W' hb' hP
      have := kindN_any q xa W' hP (by rw [hxa]; exact check_flat hw.2.2.1 (by omega) (by omega)) (by rw [hxa]; exact hsa)
      rwa [hxa] at this
    · intro q W' hb' hP
      have := kindN_any q xb W' hP (by rw [hxb]; exact check_flat hw.2.2.2 (by omega) (by omega)) (by rw [hxb]; exact hsb)
      rwa [hxb] at this
    · unfold kTwo
      rw [hka, hkb, kt_ok hu, kt_ok hu']; rfl
    · exact fun q W' hb' hP hc => askN_any hw.2.2.1 hsa hu (by omega) (by omega) q xa _ W' hP hc hxa
    · exact fun q W' hb' hP hc => askN_any hw.2.2.2 hsb hu' (by omega) (by omega) q xb _ W' hP hc hxb
end Go.Proofs.YtldjiieckddhkaaGreatDoor
