/- The document's Decode. -/
import Derived.Test.YtmbgcpmapaedcaaGreatDoorRnP
namespace Go.Proofs.YtmbgcpmapaedcaaGreatDoor
open Go.RowKit
open Wi (It itA ItsAt)
theorem insV_take (q : List UInt8) : insV (q.take 11) = insV q := by
  unfold insV
  have h1 : (q.take 11).headD 0 = q.headD 0 := by cases q <;> rfl
  have h2 : ∀ a b, a + b ≤ 11 → ((q.take 11).drop a).take b = (q.drop a).take b := fun a b hab => by
    rw [List.drop_take, List.take_take]
    congr 1
    omega
  rw [h1, h2 1 2 (by omega), h2 3 2 (by omega), h2 5 6 (by omega)]
set_option maxRecDepth 100000 in
set_option maxHeartbeats 6400000 in
theorem rdecode13_any (s : ByteArray) (hs : s.size ≤ 140737488355328) (w : World) :
    Calls Tryz.prog 15 #[.string s] w fun e w' => ∃ nm tv fv iv ov cv, e = .returned (.tuple #[.agg #[nm, tv, fv, iv, ov, cv], .int .i64 (decP s.data.toList).2]) ∧ Im w' nm tv fv iv ov cv (decP s.data.toList).1 ∧ Below w.heap.size w w' := by
  have HB1 : Hid (∀ A, Below w.heap.size w (w.alloc A)) := fun A => (Below.refl _ _).alloc (Nat.le_refl _) _
  have m1 : Hid (∀ W, Calls Tryz.prog 31 #[.string s] W (Wi.DecOut s.data.toList W)) := fun W => Wi.rdecode_any s hs W
  have HP : Hid (decP s.data.toList = if (Wi.decB s.data.toList).2.2 = 0 then refP (Wi.decB s.data.toList).1 else (img0, 130)) := dec_ref _
  obtain ⟨Z, hZ⟩ : ∃ Z, Z = w.heap.size := ⟨_, rfl⟩
  generalize decP s.data.toList = D at *
  obtain ⟨rx, rc⟩ := D
  clear hs
  go_enter Tryz.func15, Tryz.ntmps15
  go_wp2_with fail
  refine (m1.out _).mono ?_
  rintro e w1 ⟨v, l, p, c, hd, rfl, ho1, hb1⟩
  rw [hd] at HP
  have HD := hide hd
  clear hd m1
  have B1 := hide ((HB1.out _).trans (hb1.mono (by simp)))
  have hres := (hb1.block w.heap.size (by simp)).trans (heap_alloc_new w _)
  have z1 := hb1.size
  simp only [World.size_alloc] at z1
  have O1 := hide ho1
  obtain ⟨va, vc, hv, -⟩ := owns_slice ho1
  have HV := hide hv
  obtain ⟨n, hn⟩ : ∃ n, n = l.length := ⟨_, rfl⟩
  rw [← hn] at hv
  have HN := hide hn
  subst hv
  have RES := hide hres
  clear hb1 hres ho1 hn
  by_cases hc : c = 0
  · subst hc
    obtain ⟨h0, hE, hby, hfit⟩ := Wi.enc_dec _ l p HD.out
    obtain ⟨hl, hall, hlen⟩ := Wi.encE_zero hE
    have hsz := all_size l hall
    have HSZ := hide (sZ_size l hsz)
    subst h0
    have HQ : Hid ((rx, rc) = refP l) := by show _ = _; rw [HP.out]; rfl
    clear hall hlen hby hfit hE HP HD hsz
    obtain ⟨lb, loff, hlb, hlR, hIts, hRD⟩ := rd_start (Wi.owns_base O1.out (Nat.zero_le _)) HV.out (.cells #[.int .i64 0, .int .i64 0] 51)
    obtain ⟨R, hR⟩ : ∃ R, R = w1.heap.size + 1 := ⟨_, rfl⟩
    obtain ⟨B, hB⟩ : ∃ B, B = w1.heap.size + 2 := ⟨_, rfl⟩
    rw [← hR, ← hB] at hRD
    rw [← hB] at hlb
    rw [← hR] at hlR
    rw [← HN.out] at hRD hIts
    have HLB := hide hlb
    have HRD := hide hRD
    have HIT := hide hIts
    clear hlb hRD hIts
    have c32 : Hid (∀ st W, RDr B W R l st → Calls Tryz.prog 32 #[.pointer (some ⟨R, 0, none⟩)] W fun e w' => e = .returned (.string ⟨(tR st).1.toArray⟩) ∧ RDr B w' R l (tR st).2 ∧ But R W w') := fun st W h => rtext_any B R l st W h hl
    have c33 : Hid (∀ st m W, RDr B W R l st → 0 ≤ m ∧ m ≤ 1024 → Calls Tryz.prog 33 #[.pointer (some ⟨R, 0, none⟩), .int .i64 m] W fun e w' => e = .returned (.int .i64 (nR m st).1) ∧ RDr B w' R l (nR m st).2 ∧ But R W w') := fun st m W h hm => rnum_any B R l st m W h hl hm
    have c34 : Hid (∀ st W, RDr B W R l st → Calls Tryz.prog 34 #[.pointer (some ⟨R, 0, none⟩)] W fun e w' => ∃ v, e = .returned v ∧ w'.ownsRow W.heap.size 3 1 v (lR st).1.length (intC (lR st).1) ∧ RDr B w' R l (lR st).2 ∧ But R W w') := fun st W h => rlist_any B R l st W h hl
    have HM := hide (sM_le l)
    have hMi : Hid ((nR 1024 (tR ⟨l, false⟩).2).1 = (sM l : Int)) := by
      have := nR_pos 1024 (tR ⟨l, false⟩).2 (by omega)
      show _ = _
      unfold sM
      omega
    have HSN : Hid ((nR 1024 (tR ⟨l, false⟩).2).2 = sN l) := rfl

    have HIM : Hid (imR l = ⟨(tR ⟨l, false⟩).1, (sC l).1.1, (sC l).1.2, (sI l).1, (sO l).1, cdV (sZ l).1⟩) := rfl
    obtain ⟨xs, hxs⟩ : ∃ xs : ByteArray, xs = ⟨(tR ⟨l, false⟩).1.toArray⟩ := ⟨_, rfl⟩
    have C1 := hide (c32.out ⟨l, false⟩ _ HRD.out)
    rw [← hxs] at C1
    have HX := hide hxs
    generalize (tR ⟨l, false⟩).2 = s1 at *
    obtain ⟨M, hM⟩ : ∃ M, M = sM l := ⟨_, rfl⟩
    rw [← hM] at hMi HM
    have HMM := hide hM
    clear hxs hM
    subst hR
    go_wp2_with fail
    refine C1.out.mono ?_
    rintro e w2 ⟨rfl, hr2, hb2⟩
    have z2 := hb2.size
    simp only [World.size_alloc] at z2
    have J1 : Hid (DJ w (w1.heap.size + 1) B w2.heap.size lb loff l xs (.slice none 0 0) (.slice none 0 0) (.slice none 0 0) (.slice none 0 0) (.slice none 0 0) [] [] [] [] [] s1 (w2.alloc (.cells #[.string xs, .slice none 0 0, .slice none 0 0, .slice none 0 0, .slice none 0 0, .slice none 0 0] 26))) := by
      have hb0 : Below w1.heap.size w1 w2 := ⟨hb2.os, hb2.tape, hb2.output, by omega, fun k hk => (hb2.block k (by simp; omega) (fun e => by have : k = w1.heap.size + 1 := Option.some.inj e; omega)).trans (by rw [heap_alloc_old _ _ (by simp; omega), heap_alloc_old _ _ hk])⟩
      refine ⟨(B1.out.trans (hb0.mono (by omega))).alloc (by omega) _, ?_, hr2.on ((Below.refl _ _).alloc (by omega) _), heap_alloc_new _ _, World.ownsRow_nil _ _ _ _, World.ownsRow_nil _ _ _ _, World.ownsRow_nil _ _ _ _, World.ownsRow_nil _ _ _ _, World.ownsRow_nil _ _ _ _, ?_, fun h => (HLB.out h).1, hlR, by omega, by omega⟩
      · rw [heap_alloc_old _ _ (by omega), hb0.block _ (by omega)]; exact RES.out
      · refine its_below HIT.out fun h => ?_
        have := (HLB.out h).1
        rw [heap_alloc_old _ _ (by omega), hb2.block _ (by simp; omega) (fun e => hlR (Option.some.inj e))]
    have C2 := hide (c33.out s1 1024 _ J1.out.rd (by omega))
    rw [hMi.out] at C2
    clear hr2 hb2 C1 HRD HIT RES
    go_wp2_with fail
    refine C2.out.mono ?_
    rintro e w3 ⟨rfl, hr3, hb3⟩
    have J2 := hide (J1.out.next hb3 hr3)
    obtain ⟨X, hX⟩ : ∃ X, X = w2.heap.size := ⟨_, rfl⟩
    rw [← hX] at J2 ⊢
    rw [HSN.out] at J2
    clear hr3 hb3 J1 hX C2 z2 hMi HSN
    obtain ⟨q, hq⟩ : ∃ q, q = sN l := ⟨_, rfl⟩
    rw [← hq] at J2
    have HSC : Hid (sC l = cN M q) := by show _ = _; rw [hq, HMM.out]; rfl
    clear hq
    go_wp2_with fail
    go_loopw [9] (fun i wr => ∃ k : Nat, k ≤ M ∧ i = .int .i64 (k : Int) ∧ Hid (∃ tv fv, DJ w (w1.heap.size + 1) B X lb loff l xs tv fv (.slice none 0 0) (.slice none 0 0) (.slice none 0 0) (cN k q).1.1 (cN k q).1.2 [] [] [] (cN k q).2 wr)) (fun i _ => M - (intOf i).toNat)
    case atStart => exact ⟨0, by omega, rfl, _, _, J2.out⟩
    case round =>
      obtain ⟨k, hk, rfl, hh⟩ := hrel
      obtain ⟨tv, fv, hJ⟩ := hh.out
      have JJ := hide hJ
      have k0 : (0 : Int) ≤ (k : Int) := by omega
      have cb := hJ.rd.bad
      clear hh hJ J2
      by_cases hgo : k < M ∧ (cN k q).2.bad = false
      · obtain ⟨hlt, hbad⟩ := hgo
        rw [hbad] at cb
        have j1 : (k : Int) < (M : Int) := by omega
        have hlA := (cN_len k q).1
        have hlB := (cN_len k q).2
        have HNX : Hid (cN (k + 1) q = (((cN k q).1.1 ++ [(nR 9 (cN k q).2).1], (cN k q).1.2 ++ (fH (nR 9 (cN k q).2).2.bad (nR 9 (cN k q).2).2.q).1), (fH (nR 9 (cN k q).2).2.bad (nR 9 (cN k q).2).2.q).2)) := cN_next k q hbad
        have HMle := HM.out
        obtain ⟨i3, hi3, hz30, hz31, hz32⟩ := info_parts info3
        obtain ⟨i2, hi2, hz20, hz21, hz22⟩ := info_parts info2
        have CA := hide (c33.out (cN k q).2 9 _ JJ.out.drew.rd (by omega))
        clear hbad
        generalize (cN k q).1.1 = tl at *
        generalize (cN k q).1.2 = fl at *
        generalize (cN k q).2 = st at *
        obtain ⟨yn, hyn⟩ : ∃ y, y = (nR 9 st).1 := ⟨_, rfl⟩
        obtain ⟨st2, hst2⟩ : ∃ y, y = (nR 9 st).2 := ⟨_, rfl⟩
        rw [← hyn, ← hst2] at CA HNX
        clear hyn hst2
        obtain ⟨tn, htn⟩ : ∃ n, n = tl.length := ⟨_, rfl⟩
        go_wp2_with fail
        have JA := hide JJ.out.drew
        have cA : wr.drew.cell? ⟨X, 1, none⟩ = some tv := (JA.out.cell 1).trans rfl
        refine region_L (S := fun W => W.cell? ⟨X, 1, none⟩ = some tv) (L := 7) (by kernel_rfl) ?_
        refine tkL 0 (.pointer (some ⟨X, 1, none⟩)) cA ?_
        refine tkL 1 tv cA ?_
        refine tkL 2 (.pointer (some ⟨w1.heap.size + 1, 0, none⟩)) cA ?_
        try simp only [Act.put, List.setIfInBounds_toArray, List.set_cons_zero, List.set_cons_succ]
        refine rdL 3 (fun K hK => ?_)
        go_simp
        refine CA.out.mono ?_
        rintro e w3a ⟨rfl, hr3, hb3⟩
        have JB := hide (JA.out.next hb3 hr3)
        have cB : w3a.cell? ⟨X, 1, none⟩ = some tv := (JB.out.cell 1).trans rfl
        have zX := JB.out.ltX
        refine hK.out _ _ (fun _ => cB) ?_
        clear hK K hr3 hb3 cA CA JA JJ cb
        try simp only [Act.put, List.setIfInBounds_toArray, List.set_cons_zero, List.set_cons_succ]
        refine rdL 4 (fun K hK => ?_)
        go_simp
        have cC : ∀ A, (w3a.alloc A).cell? ⟨X, 1, none⟩ = some tv := fun A => (World.cell?_alloc_lt _ _ ⟨X, 1, none⟩ zX).trans cB
        refine hK.out _ _ (fun _ => cC _) ?_
        clear hK K
        try simp only [Act.put, List.setIfInBounds_toArray, List.set_cons_zero, List.set_cons_succ]
        refine rdL 5 (fun K hK => ?_)
        refine wp_append_lies _ _ _ _ (by rfl) (X + 1) 3 i3 _ 1 8 Tryz.underlying22 hi3 hz30 hz31 hz32 rfl (by omega) tv tl.length _ (by rfl) (JB.out.ty.alloc _) ⟨w3a.heap.size, 0, none⟩ 1 1 [.int .i64 yn] (by rfl) (by rfl) (World.news_of_block (cs := #[.int .i64 yn]) (t := 3) (fr := (0, 0)) (heap_alloc_new w3a _)) (by simp [Value.oneCell']) (by omega) (by unfold maxLen; omega) (by omega) (by simp; omega) (w3a.heap.size + 1) (by simp) ?_
        intro gga capa w4a hown hgrow hat hlt3
        have JC := hide (JB.out.tyApp hown hgrow)
        have xfa : w4a.heap[X]? = w3a.heap[X]? := (((Below.refl (X + 1) w3a).alloc (by omega) _).grown hgrow (by simp; omega) (fun r hr => ((JB.out.ty.lt r hr).1))).block X (by omega)
        have cD : w4a.cell? ⟨X, 1, none⟩ = some tv := (World.cell?_of_block (w := w3a) (a := ⟨X, 1, none⟩) xfa).trans cB
        have fD : w4a.frozen? ⟨X, 1, none⟩ = false := Lib.frozen_of_heap (xfa.trans JB.out.x) 1
        refine hK.out _ _ (fun _ => cD) ?_
        clear hK K hown hgrow hat hlt3 xfa cC cB JB
        try simp only [Act.put, List.setIfInBounds_toArray, List.set_cons_zero, List.set_cons_succ]
        refine tkL 6 (.pointer (some ⟨X, 1, none⟩)) cD ?_
        try simp only [Act.put, List.setIfInBounds_toArray, List.set_cons_zero, List.set_cons_succ]
        refine rdL 7 (fun K hK => ?_)
        go_simp
        refine hK.out _ _ (fun h => absurd rfl h) ?_
        clear hK K cD fD
        try simp only [Act.put, List.setIfInBounds_toArray, List.set_cons_zero, List.set_cons_succ]
        refine doneL ?_
        generalize hT : (Value.slice (some ⟨gga, 0, none⟩) (tl.length + 1) capa) = tv2 at *
        generalize hW5 : w4a.setCell ⟨X, 1, none⟩ tv2 = w5 at *
        clear hT hW5
        obtain ⟨kk, hkk, hqq, ca, cbd, fr, hinc, hbd⟩ := JC.out.rd.parts
        rw [← HN.out] at hkk
        have HQ2 := hide hqq
        have HINC := hide hinc
        have HBD := hide hbd
        clear hqq hinc hbd
        obtain ⟨q2, b2⟩ := st2
        have zR : w1.heap.size + 1 < w5.heap.size := JC.out.rd.lt
        have hRX : w1.heap.size + 1 ≠ X := by have := JC.out.rd.1; have := JC.out.hX; omega
        have kk0 : (0 : Int) ≤ (kk : Int) := by omega
        cases q2 with
        | nil =>
          have hkn : kk = n := by
            have := congrArg List.length HQ2.out
            rw [List.length_nil, List.length_drop, ← HN.out] at this
            omega
          subst hkn
          have HNA : Hid (cN (k + 1) q = ((tl ++ [yn], fl), ⟨[], true⟩)) := by show _ = _; rw [HNX.out]; simp [fH]
          have JE := hide (JC.out.next (but_set w5 2 _) HBD.out)
          clear HNX HQ2 HINC HBD JC
          go_wp2
          go_roundw
          case rel => exact ⟨k + 1, by omega, by go_num, _, _, by rw [HNA.out]; exact JE.out⟩
          case measure => simp [intOf]; omega
        | cons x r =>
          obtain ⟨d0, d1, -, hkn, hrr⟩ := its_head JC.out.its HQ2.out
          rw [← HN.out] at hkn
          obtain ⟨hlbB, rfl⟩ := HLB.out (by rw [← HN.out]; omega)
          have j2 : (kk : Int) < (n : Int) := by omega
          have HR2 := hide hrr
          clear hrr
          obtain ⟨xt, xn, xs'⟩ := x
          cases xt with
          | true =>
            have HNA : Hid (cN (k + 1) q = ((tl ++ [yn], fl), ⟨⟨true, xn, xs'⟩ :: r, true⟩)) := by show _ = _; rw [HNX.out]; simp [fH]
            have JE := hide (JC.out.next (but_set w5 2 _) HBD.out)
            clear HNX HQ2 HINC HBD JC d1
            go_wp2
            go_roundw
            case rel => exact ⟨k + 1, by omega, by go_num, _, _, by rw [HNA.out]; exact JE.out⟩
            case measure => simp [intOf]; omega
          | false =>
            have HNA : Hid (cN (k + 1) q = ((tl ++ [yn], fl ++ [xn]), ⟨r, b2⟩)) := by show _ = _; rw [HNX.out]; simp [fH]
            clear cbd HNX HINC HBD
            go_wp2_with fail
            have JD := hide JC.out.drew
            have hlX : lb < X := by have := JC.out.hX; omega
            have hSS : w5.drew.cell? ⟨X, 2, none⟩ = some fv ∧ w5.drew.cell? ⟨w1.heap.size + 1, 1, none⟩ = some (.int .i64 (kk : Int)) ∧ w5.drew.cell? ⟨lb, loff + kk * 3 + 1, none⟩ = some (.int .i64 xn) := ⟨(JD.out.cell 2).trans rfl, ca, d1⟩
            have zX := JD.out.ltX
            have zD : w5.drew.heap.size = w5.heap.size := rfl
            clear JC ca d0 d1 fr
            refine region_L (S := fun W => W.cell? ⟨X, 2, none⟩ = some fv ∧ W.cell? ⟨w1.heap.size + 1, 1, none⟩ = some (.int .i64 (kk : Int)) ∧ W.cell? ⟨lb, loff + kk * 3 + 1, none⟩ = some (.int .i64 xn)) (L := 13) (by kernel_rfl) ?_
            refine tkL 0 (.pointer (some ⟨X, 2, none⟩)) hSS ?_
            try simp only [Act.put, List.setIfInBounds_toArray, List.set_cons_zero, List.set_cons_succ]
            refine tkL 1 (fv) hSS ?_
            try simp only [Act.put, List.setIfInBounds_toArray, List.set_cons_zero, List.set_cons_succ]
            refine tkL 2 (.slice (some ⟨lb, loff, none⟩) n vc) hSS ?_
            try simp only [Act.put, List.setIfInBounds_toArray, List.set_cons_zero, List.set_cons_succ]
            refine tkL 3 (.pointer (some ⟨w1.heap.size + 1, 0, none⟩)) hSS ?_
            try simp only [Act.put, List.setIfInBounds_toArray, List.set_cons_zero, List.set_cons_succ]
            refine tkL 4 (.pointer (some ⟨w1.heap.size + 1, 0, none⟩)) hSS ?_
            try simp only [Act.put, List.setIfInBounds_toArray, List.set_cons_zero, List.set_cons_succ]
            refine tkL 5 (.pointer (some ⟨w1.heap.size + 1, 1, none⟩)) hSS ?_
            try simp only [Act.put, List.setIfInBounds_toArray, List.set_cons_zero, List.set_cons_succ]
            refine tkL 6 (.int .i64 (kk : Int)) hSS ?_
            try simp only [Act.put, List.setIfInBounds_toArray, List.set_cons_zero, List.set_cons_succ]
            refine tkL 7 (.pointer (some ⟨lb, loff + kk * 3, none⟩)) hSS ?_
            try simp only [Act.put, List.setIfInBounds_toArray, List.set_cons_zero, List.set_cons_succ]
            refine tkL 8 (.pointer (some ⟨lb, loff + kk * 3 + 1, none⟩)) hSS ?_
            try simp only [Act.put, List.setIfInBounds_toArray, List.set_cons_zero, List.set_cons_succ]
            refine tkL 9 (.int .i64 xn) hSS ?_
            try simp only [Act.put, List.setIfInBounds_toArray, List.set_cons_zero, List.set_cons_succ]
            refine rdL 10 (fun K hK => ?_)
            go_simp
            have hSA : ∀ A, (w5.drew.alloc A).cell? ⟨X, 2, none⟩ = some fv ∧ (w5.drew.alloc A).cell? ⟨w1.heap.size + 1, 1, none⟩ = some (.int .i64 (kk : Int)) ∧ (w5.drew.alloc A).cell? ⟨lb, loff + kk * 3 + 1, none⟩ = some (.int .i64 xn) := fun A => ⟨(World.cell?_alloc_lt _ _ ⟨X, 2, none⟩ zX).trans hSS.1, (World.cell?_alloc_lt _ _ ⟨w1.heap.size + 1, 1, none⟩ zR).trans hSS.2.1, (World.cell?_alloc_lt _ _ ⟨lb, loff + kk * 3 + 1, none⟩ (by show lb < _; omega)).trans hSS.2.2⟩
            refine hK.out _ _ (fun _ => hSA _) ?_
            clear hK K
            try simp only [Act.put, List.setIfInBounds_toArray, List.set_cons_zero, List.set_cons_succ]
            refine rdL 11 (fun K hK => ?_)
            refine wp_append_lies _ _ _ _ (by rfl) (X + 1) 2 i2 _ 1 8 Tryz.underlying23 hi2 hz20 hz21 hz22 rfl (by omega) fv fl.length _ (by rfl) (JD.out.fi.alloc _) ⟨w5.drew.heap.size, 0, none⟩ 1 1 [.int .i64 xn] (by rfl) (by rfl) (World.news_of_block (cs := #[.int .i64 xn]) (t := 2) (fr := (0, 0)) (heap_alloc_new w5.drew _)) (by simp [Value.oneCell']) (by omega) (by unfold maxLen; omega) (by omega) (by simp; omega) (w5.drew.heap.size + 1) (by simp) ?_
            intro ggb capb w6 hown hgrow hat hlt3
            have JE := hide (JD.out.fiApp hown hgrow)
            have b6 : Below (X + 1) w5.drew w6 := ((Below.refl (X + 1) w5.drew).alloc (by omega) _).grown hgrow (by simp; omega) (fun r hr => ((JD.out.fi.lt r hr).1))
            have hSB : w6.cell? ⟨X, 2, none⟩ = some fv ∧ w6.cell? ⟨w1.heap.size + 1, 1, none⟩ = some (.int .i64 (kk : Int)) ∧ w6.cell? ⟨lb, loff + kk * 3 + 1, none⟩ = some (.int .i64 xn) := ⟨(World.cell?_of_block (w := w5.drew) (a := ⟨X, 2, none⟩) (b6.block X (by omega))).trans hSS.1, (World.cell?_of_block (w := w5.drew) (a := ⟨w1.heap.size + 1, 1, none⟩) (b6.block (w1.heap.size + 1) (by have := JD.out.rd.1; have := JD.out.hX; omega))).trans hSS.2.1, (World.cell?_of_block (w := w5.drew) (a := ⟨lb, loff + kk * 3 + 1, none⟩) (b6.block lb (by omega))).trans hSS.2.2⟩
            have fE : w6.frozen? ⟨X, 2, none⟩ = false := Lib.frozen_of_heap ((b6.block X (by omega)).trans JD.out.x) 2
            refine hK.out _ _ (fun _ => hSB) ?_
            clear hK K hown hgrow hat hlt3 hSA hSS JD b6
            try simp only [Act.put, List.setIfInBounds_toArray, List.set_cons_zero, List.set_cons_succ]
            refine tkL 12 (.pointer (some ⟨X, 2, none⟩)) hSB ?_
            try simp only [Act.put, List.setIfInBounds_toArray, List.set_cons_zero, List.set_cons_succ]
            refine rdL 13 (fun K hK => ?_)
            go_simp
            refine hK.out _ _ (fun h => absurd rfl h) ?_
            clear hK K fE hSB
            try simp only [Act.put, List.setIfInBounds_toArray, List.set_cons_zero, List.set_cons_succ]
            refine doneL ?_
            generalize hT : (Value.slice (some ⟨ggb, 0, none⟩) (fl.length + 1) capb) = fv2 at *
            generalize hW5 : w6.setCell ⟨X, 2, none⟩ fv2 = w7 at *
            clear hT hW5
            obtain ⟨k2, hk2, hq2, ca, -, fr, hinc, -⟩ := JE.out.rd.parts
            have n5 : (n : Int) ≤ 1000 := by
              have h9 := hl
              rw [← HN.out] at h9
              omega
            have hkk2 : k2 = kk := by
              have h1 := congrArg List.length hq2
              have h2 := congrArg List.length HQ2.out
              rw [List.length_drop] at h1 h2
              rw [← HN.out] at h1 h2 hk2
              simp only [List.length_cons] at h1 h2
              omega
            subst hkk2
            have JG : Hid (DJ w (w1.heap.size + 1) B X lb loff l xs tv2 fv2 (.slice none 0 0) (.slice none 0 0) (.slice none 0 0) (tl ++ [yn]) (fl ++ [xn]) [] [] [] ⟨r, b2⟩ (w7.setCell ⟨w1.heap.size + 1, 1, none⟩ (.int .i64 ((k2 : Int) + 1)))) := by
              have h := JE.out.next (but_set w7 1 _) (hinc (by rw [← HN.out]; omega))
              rw [HR2.out]; exact h
            clear hinc hq2 hk2 JE
            go_wp2
            go_roundw
            case rel => exact ⟨k + 1, by omega, by go_num, _, _, by rw [HNA.out]; exact JG.out⟩
            case measure => simp [intOf]; omega
      · have HS : Hid (sC l = cN k q) := by
          show _ = _
          rw [HSC.out]
          by_cases hlt : k < M
          · exact cN_stop k M q (by omega) (by
              cases h : (cN k q).2.bad with
              | true => rfl
              | false => exact absurd ⟨hlt, h⟩ hgo)
          · rw [show k = M by omega]
        obtain ⟨st, hst⟩ : ∃ st, st = (sC l).2 := ⟨_, rfl⟩
        rw [← HS.out] at JJ
        rw [← hst] at JJ
        have cbb : k < M → (cN k q).2.bad = true := fun hlt => by
          cases h : (cN k q).2.bad with
          | true => rfl
          | false => exact absurd ⟨hlt, h⟩ hgo
        have H1 : Hid (lR st = sI l) := by show _ = _; rw [hst]; rfl
        have H2 : Hid (lR (sI l).2 = sO l) := rfl
        have H3 : Hid (tR (sO l).2 = sZ l) := rfl
        have hl1 := lR_len st
        rw [H1.out] at hl1
        have hl2 := lR_len (sI l).2
        rw [H2.out] at hl2
        have htl := (cN_len k q).1
        rw [← HS.out] at htl
        have hfl := (cN_len k q).2
        rw [← HS.out] at hfl
        have HMle := HM.out
        clear hgo HS HSC hst
        rcases Nat.lt_or_ge k M with hlt | hge
        case' inl =>
          rw [cbb hlt] at cb
          have j1 : (k : Int) < (M : Int) := by omega
          clear cbb
          go_wp2_with fail
        case' inr =>
          obtain rfl : k = M := by omega
          clear cbb cb
          go_wp2_with fail
        all_goals
          (have D1 := hide (c34.out st _ JJ.out.rd)
           rw [H1.out] at D1
           refine D1.out.mono ?_
           rintro e w3b ⟨iv, rfl, ho3, hr3, hb3⟩
           have J3 := hide (JJ.out.next hb3 hr3)
           obtain ⟨ia, ic, hiv, -⟩ := owns_slice ho3
           obtain ⟨in_, hin⟩ : ∃ n, n = (sI l).1.length := ⟨_, rfl⟩
           rw [← hin] at hiv
           have HI9 := hide hin
           clear hin
           subst hiv
           have O3 := hide (Wi.owns_base ho3 (b := X + 1) JJ.out.ltX)
           have q3 : w3b.cell? ⟨X, 3, none⟩ = some (.slice none 0 0) := (J3.out.cell 3).trans rfl
           have f3 := J3.out.fro
           clear ho3 hr3 hb3 JJ D1
           go_wp2_with fail
           have J4 := hide (J3.out.insSet O3.out)
           clear J3 O3 q3 f3
           generalize w3b.setCell ⟨X, 3, none⟩ (.slice ia in_ ic) = w4 at *
           have D2 := hide (c34.out (sI l).2 _ J4.out.rd)
           rw [H2.out] at D2
           refine D2.out.mono ?_
           rintro e w5 ⟨ov, rfl, ho5, hr5, hb5⟩
           have J5 := hide (J4.out.next hb5 hr5)
           obtain ⟨oa, oc, hov, -⟩ := owns_slice ho5
           obtain ⟨on_, hon⟩ : ∃ n, n = (sO l).1.length := ⟨_, rfl⟩
           rw [← hon] at hov
           have HO9 := hide hon
           clear hon
           subst hov
           have O5 := hide (Wi.owns_base ho5 (b := X + 1) J4.out.ltX)
           have q5 : w5.cell? ⟨X, 4, none⟩ = some (.slice none 0 0) := (J5.out.cell 4).trans rfl
           have f5 := J5.out.fro
           clear ho5 hr5 hb5 J4 D2
           go_wp2_with fail
           have J6 := hide (J5.out.outsSet O5.out)
           clear J5 O5 q5 f5
           generalize w5.setCell ⟨X, 4, none⟩ (.slice oa on_ oc) = w6 at *
           have D3 := hide (c32.out (sO l).2 _ J6.out.rd)
           rw [H3.out] at D3
           obtain ⟨zs, hzs⟩ : ∃ zs : ByteArray, zs = ⟨(sZ l).1.toArray⟩ := ⟨_, rfl⟩
           rw [← hzs] at D3
           have HZ9 := hide hzs
           clear hzs
           refine D3.out.mono ?_
           rintro e w7 ⟨rfl, hr7, hb7⟩
           have J7 := hide (J6.out.next hb7 hr7)
           obtain ⟨k7, hk7, hq7, ca7, cb7, -, -, -⟩ := J7.out.rd.parts
           rw [← HN.out] at hk7
           have HQ7 := hide hq7
           clear hr7 hb7 J6 D3 H1 H2 H3 hq7
           have HOK : Hid (okR l = (!(sZ l).2.bad && ((sZ l).2.q.isEmpty && decide ((sZ l).1.length % 11 = 0)))) := rfl
           have zzs : zs.size = (sZ l).1.length := by rw [HZ9.out, Wi.list_size]
           obtain ⟨q0, q1, q2, q3, q4, q5, qf⟩ := six J7.out.res
           obtain ⟨bb, hbb⟩ : ∃ bb, bb = (sZ l).2.bad := ⟨_, rfl⟩
           rw [← hbb] at cb7 HOK
           clear hbb
           have zm : ((zs.size : Nat) : Int).tmod 11 = ((zs.size % 11 : Nat) : Int) := by
             rw [Int.tmod_eq_emod_of_nonneg (by omega)]; omega
           have k70 : (0 : Int) ≤ (k7 : Int) := by omega
           have hRef : Hid (refP l = if okR l then (if (chkP (imR l)).2 = 0 then (imR l, 0) else (img0, 130)) else (img0, 130)) := rfl
           cases bb with
           | true =>
             have hno : okR l = false := by rw [HOK.out]; rfl
             have HR : Hid ((rx, rc) = (img0, 130)) := by show _ = _; rw [HQ.out, hRef.out, if_neg (by rw [hno]; decide)]
             obtain ⟨rfl, rfl⟩ := Prod.mk.inj HR.out
             clear HR hno hRef HOK zm zzs
             go_wp2_with fail
             clear q0 q1 q2 q3 q4 q5 qf
             obtain ⟨W, hW⟩ : ∃ W, W = set6 w7 w.heap.size (.string ⟨#[]⟩) (.slice none 0 0) (.slice none 0 0) (.slice none 0 0) (.slice none 0 0) (.slice none 0 0) := ⟨_, rfl⟩
             have hr : W.heap[w.heap.size]? = some (.cells #[.string ⟨#[]⟩, .slice none 0 0, .slice none 0 0, .slice none 0 0, .slice none 0 0, .slice none 0 0] 26 (0, 0)) := by rw [hW]; exact heap6 J7.out.res
             have bW : Below w.heap.size w W := by rw [hW]; exact below6 J7.out.below (Nat.le_refl _)
             unfold set6 at hW
             rw [← hW]
             obtain ⟨e0, e1, e2, e3, e4, e5, -⟩ := six hr
             refine bodyPost_ret (v := .tuple #[.agg #[.string ⟨#[]⟩, .slice none 0 0, .slice none 0 0, .slice none 0 0, .slice none 0 0, .slice none 0 0], .int .i64 130]) (by simp [results, Tryz.results15, go_sem, e0, e1, e2, e3, e4, e5]) rfl ⟨_, _, _, _, _, _, rfl, im_none W, bW⟩
           | false =>
             by_cases hkn : k7 = n
             · subst hkn
               have hq0 : (sZ l).2.q.isEmpty = true := by
                 rw [HQ7.out, HN.out, List.drop_length]; rfl
               rw [hq0] at HOK
               by_cases hmod : zs.size % 11 = 0
               · have hmi : ((zs.size : Nat) : Int).tmod 11 = 0 := by rw [zm, hmod]; rfl
                 have hyes : okR l = true := by rw [HOK.out, ← zzs, hmod]; rfl
                 have HR : Hid ((rx, rc) = if (chkP (imR l)).2 = 0 then (imR l, 0) else (img0, 130)) := by show _ = _; rw [HQ.out, hRef.out, if_pos hyes]
                 have ZZ9 := hide zzs
                 clear hRef HOK zm hq0 hyes zzs
                 go_wp2_with fail
                 have zzs := ZZ9.out
                 obtain ⟨i41, hi41, hz40, hz41, hz42⟩ := info_parts in41
                 obtain ⟨zq, hzq⟩ : ∃ zq, zq = (sZ l).1 := ⟨_, rfl⟩
                 have HZQ : Hid (zs.data.toList = zq) := by show _ = _; rw [hzq, HZ9.out]
                 obtain ⟨N, hN2⟩ : ∃ N, N = zs.size / 11 := ⟨_, rfl⟩
                 have hzN : zs.size = 11 * N := by omega
                 have hzl : zq.length = 11 * N := by rw [hzq, ← zzs]; exact hzN
                 have hN3 : 11 * N ≤ 65536 := by have := HSZ.out; omega
                 have HCV : Hid (cdV (sZ l).1 = cdN N zq) := by
                   show _ = _
                   rw [← hzq]
                   unfold cdV
                   rw [hzl, Nat.mul_div_cancel_left _ (by decide)]
                 have c35 : Hid (∀ k, k < N → ∀ W, Calls Tryz.prog 35 #[.string ⟨((zq.drop (11 * k)).take 11).toArray⟩] W fun e w' => e = .returned (inA (insV (zq.drop (11 * k)))) ∧ Below W.heap.size W w') := fun k hk W => by
                   have h := rinstr_any ⟨((zq.drop (11 * k)).take 11).toArray⟩ ((zq.drop (11 * k)).take 11) (by simp) (by rw [List.length_take, List.length_drop]; omega) W
                   rw [insV_take] at h
                   exact h
                 have x2 : Hid (∀ k, k < N → ∀ W, (Instr.slice 9 (.string zs) (some (.int .i64 ((11 * k : Nat) : Int))) (some (.int .i64 (((11 * k : Nat) : Int) + 11))) none).run Tryz.prog W = .ok (.string ⟨((zq.drop (11 * k)).take 11).toArray⟩) W) := fun k hk W => by
                   have h := Wi.slice_mid zs (11 * k) (11 * k + 11) (by omega) (by omega) W
                   rw [HZQ.out, Nat.add_sub_cancel_left] at h
                   exact h
                 have HIMG : Hid (imR l = ⟨xs.data.toList, (sC l).1.1, (sC l).1.2, (sI l).1, (sO l).1, cdN N zq⟩) := by
                   show _ = _
                   rw [HIM.out, HCV.out, HX.out]
                 have HZN := hide hzN
                 have J8 : Hid (DJ w (w1.heap.size + 1) B X lb loff l xs tv fv (.slice ia in_ ic) (.slice oa on_ oc) (.slice none 0 0) (sC l).1.1 (sC l).1.2 (sI l).1 (sO l).1 (cdN 0 zq) (sZ l).2 w7) := J7.out
                 clear HCV hzq zzs ZZ9 hmod hmi HIM HQ7 J7 q0 q1 q2 q3 q4 q5 qf cb7 ca7 hzN HZ9 hN2
                 go_wp2_with fail
                 go_loopw [11] (fun i wr => ∃ k : Nat, k ≤ N ∧ i = .int .i64 ((11 * k : Nat) : Int) ∧ Hid (∃ cv, DJ w (w1.heap.size + 1) B X lb loff l xs tv fv (.slice ia in_ ic) (.slice oa on_ oc) cv (sC l).1.1 (sC l).1.2 (sI l).1 (sO l).1 (cdN k zq) (sZ l).2 wr)) (fun i _ => 11 * N - (intOf i).toNat)
                 case atStart => exact ⟨0, by omega, rfl, _, J8.out⟩
                 case round =>
                   obtain ⟨k', hk', rfl, hh⟩ := hrel
                   obtain ⟨cv, hJ⟩ := hh.out
                   have JK := hide hJ
                   obtain ⟨z, hz⟩ : ∃ z, z = 11 * k' := ⟨_, rfl⟩
                   rw [← hz]
                   have z0 : (0 : Int) ≤ (z : Int) := by omega
                   have zle : (z : Int) ≤ 65536 := by omega
                   clear hh hJ J8
                   by_cases hlt2 : k' < N
                   · have j9 : (z : Int) < (zs.size : Int) := by rw [HZN.out]; omega
                     have X2 := x2.out k' hlt2
                     have C35 := hide (c35.out k' hlt2)
                     have HNC : Hid (cdN (k' + 1) zq = cdN k' zq ++ [insV (zq.drop (11 * k'))]) := cdN_next k' N zq hlt2
                     have hcl : (cdN k' zq).length = k' := cdN_length _ _
                     have w11 : IntKind.i64.wrap ((z : Int) + 11) = (z : Int) + 11 := by rw [IntKind.wrap_i64]; omega
                     rw [← hz] at X2 C35 HNC
                     generalize insV (zq.drop z) = i9 at *
                     generalize (⟨((zq.drop z).take 11).toArray⟩ : ByteArray) = ys at *
                     have HZZ := hide hz
                     generalize cdN k' zq = cl at *
                     have hclb : cl.length ≤ 6000 := by omega
                     clear hz hcl
                     go_wp2_with fail
                     have JD := hide JK.out.drew
                     have cA : wr.drew.cell? ⟨X, 5, none⟩ = some cv := (JD.out.cell 5).trans rfl
                     clear JK
                     refine region_L (S := fun W => W.cell? ⟨X, 5, none⟩ = some cv) (L := 11) (by kernel_rfl) ?_
                     refine tkL 0 (.pointer (some ⟨X, 5, none⟩)) cA ?_
                     try simp only [Act.put, List.setIfInBounds_toArray, List.set_cons_zero, List.set_cons_succ]
                     refine tkL 1 (cv) cA ?_
                     try simp only [Act.put, List.setIfInBounds_toArray, List.set_cons_zero, List.set_cons_succ]
                     refine tkL 2 (.string zs) cA ?_
                     try simp only [Act.put, List.setIfInBounds_toArray, List.set_cons_zero, List.set_cons_succ]
                     refine tkL 3 (.int .i64 (z : Int)) cA ?_
                     try simp only [Act.put, List.setIfInBounds_toArray, List.set_cons_zero, List.set_cons_succ]
                     refine tkL 4 (.int .i64 (z : Int)) cA ?_
                     try simp only [Act.put, List.setIfInBounds_toArray, List.set_cons_zero, List.set_cons_succ]
                     refine tkL 5 (.int .i64 ((z : Int) + 11)) cA ?_
                     try simp only [Act.put, List.setIfInBounds_toArray, List.set_cons_zero, List.set_cons_succ]
                     refine tkL 6 (.string ys) cA ?_
                     try simp only [Act.put, List.setIfInBounds_toArray, List.set_cons_zero, List.set_cons_succ]
                     refine rdL 7 (fun K hK => ?_)
                     go_simp
                     refine (C35.out _).mono ?_
                     rintro e w8 ⟨rfl, hb8⟩
                     have JE := hide (JD.out.on hb8)
                     have cB : w8.cell? ⟨X, 5, none⟩ = some cv := (JE.out.cell 5).trans rfl
                     have zX := JE.out.ltX
                     refine hK.out _ _ (fun _ => cB) ?_
                     clear hK K hb8 cA JD C35 X2
                     unfold inA
                     try simp only [Act.put, List.setIfInBounds_toArray, List.set_cons_zero, List.set_cons_succ]
                     refine rdL 8 (fun K hK => ?_)
                     go_simp
                     have cC : ∀ A, (w8.alloc A).cell? ⟨X, 5, none⟩ = some cv := fun A => (World.cell?_alloc_lt _ _ ⟨X, 5, none⟩ zX).trans cB
                     refine hK.out _ _ (fun _ => cC _) ?_
                     clear hK K
                     try simp only [Act.put, List.setIfInBounds_toArray, List.set_cons_zero, List.set_cons_succ]
                     refine rdL 9 (fun K hK => ?_)
                     refine wp_append_lies _ _ _ _ (by rfl) (X + 1) 41 i41 _ 4 32 Tryz.underlying24 hi41 hz40 hz41 hz42 rfl (by omega) cv cl.length _ (by rfl) (JE.out.cd.alloc _) ⟨w8.heap.size, 0, none⟩ 1 1 [.int .i64 i9.op, .int .i64 i9.a, .int .i64 i9.b, .int .i64 i9.n] (by rfl) (by rfl) (World.news_of_block (cs := #[.int .i64 i9.op, .int .i64 i9.a, .int .i64 i9.b, .int .i64 i9.n]) (t := 41) (fr := (0, 0)) (heap_alloc_new w8 _)) (by simp [Value.oneCell']) (by omega) (by unfold maxLen; omega) (by omega) (by simp; omega) (w8.heap.size + 1) (by simp) ?_
                     intro gg9 cap9 w9 hown hgrow hat hlt3
                     have JF := hide (JE.out.cdApp hown hgrow)
                     have b9 : Below (X + 1) w8 w9 := ((Below.refl (X + 1) w8).alloc (by omega) _).grown hgrow (by simp; omega) (fun r hr => ((JE.out.cd.lt r hr).1))
                     have cD : w9.cell? ⟨X, 5, none⟩ = some cv := (World.cell?_of_block (w := w8) (a := ⟨X, 5, none⟩) (b9.block X (by omega))).trans cB
                     have fD : w9.frozen? ⟨X, 5, none⟩ = false := Lib.frozen_of_heap ((b9.block X (by omega)).trans JE.out.x) 5
                     refine hK.out _ _ (fun _ => cD) ?_
                     clear hK K hown hgrow hat hlt3 b9 cC cB JE
                     try simp only [Act.put, List.setIfInBounds_toArray, List.set_cons_zero, List.set_cons_succ]
                     refine tkL 10 (.pointer (some ⟨X, 5, none⟩)) cD ?_
                     try simp only [Act.put, List.setIfInBounds_toArray, List.set_cons_zero, List.set_cons_succ]
                     refine rdL 11 (fun K hK => ?_)
                     go_simp
                     refine hK.out _ _ (fun h => absurd rfl h) ?_
                     clear hK K cD fD
                     try simp only [Act.put, List.setIfInBounds_toArray, List.set_cons_zero, List.set_cons_succ]
                     refine doneL ?_
                     generalize hT : (Value.slice (some ⟨gg9, 0, none⟩) (cl.length + 1) cap9) = cv2 at *
                     generalize hW5 : w9.setCell ⟨X, 5, none⟩ cv2 = w10 at *
                     clear hT hW5
                     go_wp2
                     go_roundw
                     case rel => exact ⟨k' + 1, by omega, by congr 1; rw [HZZ.out]; omega, _, by rw [HNC.out]; exact JF.out⟩
                     case measure => simp [intOf]; rw [HZN.out] at j9; omega
                   · obtain rfl : k' = N := by omega
                     have j9 : ¬ (z : Int) < (zs.size : Int) := by rw [HZN.out]; omega
                     obtain ⟨ta, tc, htv, -⟩ := owns_slice JK.out.ty
                     obtain ⟨fa, fc, hfv, -⟩ := owns_slice JK.out.fi
                     obtain ⟨ca, cc, hcv, -⟩ := owns_slice JK.out.cd
                     have hcn : (cdN k' zq).length = k' := cdN_length _ _
                     have hIL : ImL (imR l) := by
                       rw [HIMG.out]
                       exact ⟨by show (sC l).1.1.length ≤ _; omega, by show (sC l).1.2.length ≤ _; omega, by show (sI l).1.length ≤ _; omega, by show (sO l).1.length ≤ _; omega, by show (cdN k' zq).length ≤ _; omega⟩
                     have hio : (imR l).ins.length + (imR l).outs.length ≤ 20000000000000 := by
                       rw [HIMG.out]
                       show (sI l).1.length + (sO l).1.length ≤ _
                       omega
                     have M8 := hide (rcheck_any _ _ _ _ _ _ (imR l) wr (by rw [HIMG.out]; exact JK.out.im) hIL hio)
                     obtain ⟨tn, htn⟩ : ∃ n, n = (sC l).1.1.length := ⟨_, rfl⟩
                     obtain ⟨fn, hfn⟩ : ∃ n, n = (sC l).1.2.length := ⟨_, rfl⟩
                     obtain ⟨cn, hcn2⟩ : ∃ n, n = (cdN k' zq).length := ⟨_, rfl⟩
                     rw [← htn] at htv
                     rw [← hfn] at hfv
                     rw [← hcn2] at hcv
                     clear htn hfn hcn2 hcn hIL hio
                     subst htv hfv hcv
                     obtain ⟨g0, g1, g2, g3, g4, g5, -⟩ := six JK.out.x
                     obtain ⟨c1, hc1⟩ : ∃ c, c = (chkP (imR l)).1 := ⟨_, rfl⟩
                     obtain ⟨c2, hc2⟩ : ∃ c, c = (chkP (imR l)).2 := ⟨_, rfl⟩
                     rw [← hc1, ← hc2] at M8
                     rw [← hc2] at HR
                     have HRR := hide HR.out
                     clear HR hc1 hc2 x2 c35
                     go_wp2_with fail
                     refine M8.out.mono ?_
                     rintro e w9 ⟨rfl, hb9⟩
                     have J9 := hide (JK.out.on hb9)
                     clear hb9 M8 g0 g1 g2 g3 g4 g5 JK
                     obtain ⟨q0, q1, q2, q3, q4, q5, qf⟩ := six J9.out.res
                     by_cases hchk : c2 = 0
                     · have HR2 : Hid ((rx, rc) = (imR l, 0)) := by show _ = _; rw [HRR.out, if_pos hchk]
                       obtain ⟨rfl, rfl⟩ := Prod.mk.inj HR2.out
                       subst hchk
                       obtain ⟨g0, g1, g2, g3, g4, g5, -⟩ := six J9.out.x
                       clear HR2 HRR
                       go_wp2_with fail
                       clear q0 q1 q2 q3 q4 q5 qf g0 g1 g2 g3 g4 g5
                       obtain ⟨W, hW⟩ : ∃ W, W = set6 w9 w.heap.size (.string xs) (.slice ta tn tc) (.slice fa fn fc) (.slice ia in_ ic) (.slice oa on_ oc) (.slice ca cn cc) := ⟨_, rfl⟩
                       have hr : W.heap[w.heap.size]? = some (.cells #[.string xs, .slice ta tn tc, .slice fa fn fc, .slice ia in_ ic, .slice oa on_ oc, .slice ca cn cc] 26 (0, 0)) := by rw [hW]; exact heap6 J9.out.res
                       have bW : Below w.heap.size w W := by rw [hW]; exact below6 J9.out.below (Nat.le_refl _)
                       have hZX : w.heap.size < X + 1 := by have := J9.out.hR; have := J9.out.rd.1; have := J9.out.hX; omega
                       have iW : Im W (.string xs) (.slice ta tn tc) (.slice fa fn fc) (.slice ia in_ ic) (.slice oa on_ oc) (.slice ca cn cc) (imR l) := by
                         rw [hW, HIMG.out]
                         exact ⟨congrArg Value.string (Wi.of_list xs _ rfl), ILst.of_ownsE (owns6 J9.out.ty hZX), ILst.of_ownsE (owns6 J9.out.fi hZX), ILst.of_ownsE (owns6 J9.out.ins hZX), ILst.of_ownsE (owns6 J9.out.outs hZX), ISt.of_owns (owns6 J9.out.cd hZX)⟩
                       unfold set6 at hW
                       rw [← hW]
                       obtain ⟨e0, e1, e2, e3, e4, e5, -⟩ := six hr
                       refine bodyPost_ret (v := .tuple #[.agg #[.string xs, .slice ta tn tc, .slice fa fn fc, .slice ia in_ ic, .slice oa on_ oc, .slice ca cn cc], .int .i64 0]) (by simp [results, Tryz.results15, go_sem, e0, e1, e2, e3, e4, e5]) rfl ⟨_, _, _, _, _, _, rfl, iW, bW⟩
                     · have hb : (c2 == 0) = false := by simpa using hchk
                       have hb2 : (c2 != 0) = true := by simpa using hchk
                       have HR2 : Hid ((rx, rc) = (img0, 130)) := by show _ = _; rw [HRR.out, if_neg hchk]
                       obtain ⟨rfl, rfl⟩ := Prod.mk.inj HR2.out
                       clear HR2 HRR
                       go_wp2_with fail
                       clear q0 q1 q2 q3 q4 q5 qf
                       obtain ⟨W, hW⟩ : ∃ W, W = set6 w9 w.heap.size (.string ⟨#[]⟩) (.slice none 0 0) (.slice none 0 0) (.slice none 0 0) (.slice none 0 0) (.slice none 0 0) := ⟨_, rfl⟩
                       have hr : W.heap[w.heap.size]? = some (.cells #[.string ⟨#[]⟩, .slice none 0 0, .slice none 0 0, .slice none 0 0, .slice none 0 0, .slice none 0 0] 26 (0, 0)) := by rw [hW]; exact heap6 J9.out.res
                       have bW : Below w.heap.size w W := by rw [hW]; exact below6 J9.out.below (Nat.le_refl _)
                       unfold set6 at hW
                       rw [← hW]
                       obtain ⟨e0, e1, e2, e3, e4, e5, -⟩ := six hr
                       refine bodyPost_ret (v := .tuple #[.agg #[.string ⟨#[]⟩, .slice none 0 0, .slice none 0 0, .slice none 0 0, .slice none 0 0, .slice none 0 0], .int .i64 130]) (by simp [results, Tryz.results15, go_sem, e0, e1, e2, e3, e4, e5]) rfl ⟨_, _, _, _, _, _, rfl, im_none W, bW⟩
               · have hmi : (((zs.size : Nat) : Int).tmod 11 != 0) = true := by rw [zm]; simp; omega
                 have hmj : ¬ ((zs.size : Nat) : Int).tmod 11 = 0 := by rw [zm]; omega
                 have hno : okR l = false := by rw [HOK.out, ← zzs]; simp [hmod]
                 have HR : Hid ((rx, rc) = (img0, 130)) := by show _ = _; rw [HQ.out, hRef.out, if_neg (by rw [hno]; decide)]
                 obtain ⟨rfl, rfl⟩ := Prod.mk.inj HR.out
                 clear HR hno hRef HOK zm zzs hq0
                 go_wp2_with fail
                 clear q0 q1 q2 q3 q4 q5 qf
                 obtain ⟨W, hW⟩ : ∃ W, W = set6 w7 w.heap.size (.string ⟨#[]⟩) (.slice none 0 0) (.slice none 0 0) (.slice none 0 0) (.slice none 0 0) (.slice none 0 0) := ⟨_, rfl⟩
                 have hr : W.heap[w.heap.size]? = some (.cells #[.string ⟨#[]⟩, .slice none 0 0, .slice none 0 0, .slice none 0 0, .slice none 0 0, .slice none 0 0] 26 (0, 0)) := by rw [hW]; exact heap6 J7.out.res
                 have bW : Below w.heap.size w W := by rw [hW]; exact below6 J7.out.below (Nat.le_refl _)
                 unfold set6 at hW
                 rw [← hW]
                 obtain ⟨e0, e1, e2, e3, e4, e5, -⟩ := six hr
                 refine bodyPost_ret (v := .tuple #[.agg #[.string ⟨#[]⟩, .slice none 0 0, .slice none 0 0, .slice none 0 0, .slice none 0 0, .slice none 0 0], .int .i64 130]) (by simp [results, Tryz.results15, go_sem, e0, e1, e2, e3, e4, e5]) rfl ⟨_, _, _, _, _, _, rfl, im_none W, bW⟩
             · have hne : ((k7 : Int) != (n : Int)) = true := by simp; omega
               have hnf : (sZ l).2.q.isEmpty = false := by
                 rw [HQ7.out]
                 have hlen : (l.drop k7).length ≠ 0 := by rw [List.length_drop, ← HN.out]; omega
                 cases hdd : l.drop k7 with
                 | nil => rw [hdd] at hlen; exact absurd rfl hlen
                 | cons a b => rfl
               have hno : okR l = false := by rw [HOK.out, hnf]; rfl
               have HR : Hid ((rx, rc) = (img0, 130)) := by show _ = _; rw [HQ.out, hRef.out, if_neg (by rw [hno]; decide)]
               obtain ⟨rfl, rfl⟩ := Prod.mk.inj HR.out
               clear HR hno hRef HOK zm zzs hnf
               go_wp2_with fail
               clear q0 q1 q2 q3 q4 q5 qf
               obtain ⟨W, hW⟩ : ∃ W, W = set6 w7 w.heap.size (.string ⟨#[]⟩) (.slice none 0 0) (.slice none 0 0) (.slice none 0 0) (.slice none 0 0) (.slice none 0 0) := ⟨_, rfl⟩
               have hr : W.heap[w.heap.size]? = some (.cells #[.string ⟨#[]⟩, .slice none 0 0, .slice none 0 0, .slice none 0 0, .slice none 0 0, .slice none 0 0] 26 (0, 0)) := by rw [hW]; exact heap6 J7.out.res
               have bW : Below w.heap.size w W := by rw [hW]; exact below6 J7.out.below (Nat.le_refl _)
               unfold set6 at hW
               rw [← hW]
               obtain ⟨e0, e1, e2, e3, e4, e5, -⟩ := six hr
               refine bodyPost_ret (v := .tuple #[.agg #[.string ⟨#[]⟩, .slice none 0 0, .slice none 0 0, .slice none 0 0, .slice none 0 0, .slice none 0 0], .int .i64 130]) (by simp [results, Tryz.results15, go_sem, e0, e1, e2, e3, e4, e5]) rfl ⟨_, _, _, _, _, _, rfl, im_none W, bW⟩)
  · have hcb : (c == 0) = false := by simpa using hc
    have hcb2 : (c != 0) = true := by simpa using hc
    have HR : Hid ((rx, rc) = (img0, 130)) := by show _ = _; rw [HP.out]; exact if_neg hc
    clear hc HP
    obtain ⟨rfl, rfl⟩ := Prod.mk.inj HR.out
    have hA : ∀ A, (w1.alloc A).heap[w.heap.size]? = some (.cells #[.string ⟨#[]⟩, .slice none 0 0, .slice none 0 0, .slice none 0 0, .slice none 0 0, .slice none 0 0] 26 (0, 0)) := fun A => (heap_alloc_old _ _ (by omega)).trans RES.out
    obtain ⟨w2, hw2⟩ : ∃ w2, w2 = w1.alloc (.cells #[.int .i64 (p : Int), .int .i64 c] 51) := ⟨_, rfl⟩
    have h2 : w2.heap[w.heap.size]? = some (.cells #[.string ⟨#[]⟩, .slice none 0 0, .slice none 0 0, .slice none 0 0, .slice none 0 0, .slice none 0 0] 26 (0, 0)) := by rw [hw2]; exact hA _
    obtain ⟨q0, q1, q2, q3, q4, q5, qf⟩ := six h2
    have B2 := hide (show Below w.heap.size w w2 by rw [hw2]; exact B1.out.alloc B1.out.size _)
    have H2 := hide h2
    have HW2 := hide hw2
    rw [hw2] at q0 q1 q2 q3 q4 q5 qf
    clear hA h2 hw2
    go_wp2_with fail
    clear q0 q1 q2 q3 q4 q5 qf
    rw [← HW2.out]
    obtain ⟨W, hW⟩ : ∃ W, W = set6 w2 w.heap.size (.string ⟨#[]⟩) (.slice none 0 0) (.slice none 0 0) (.slice none 0 0) (.slice none 0 0) (.slice none 0 0) := ⟨_, rfl⟩
    have hr : W.heap[w.heap.size]? = some (.cells #[.string ⟨#[]⟩, .slice none 0 0, .slice none 0 0, .slice none 0 0, .slice none 0 0, .slice none 0 0] 26 (0, 0)) := by rw [hW]; exact heap6 H2.out
    have bW : Below w.heap.size w W := by rw [hW]; exact below6 B2.out (Nat.le_refl _)
    unfold set6 at hW
    rw [← hW]
    obtain ⟨e0, e1, e2, e3, e4, e5, -⟩ := six hr
    refine bodyPost_ret (v := .tuple #[.agg #[.string ⟨#[]⟩, .slice none 0 0, .slice none 0 0, .slice none 0 0, .slice none 0 0, .slice none 0 0], .int .i64 130]) (by simp [results, Tryz.results15, go_sem, e0, e1, e2, e3, e4, e5]) rfl ⟨_, _, _, _, _, _, rfl, im_none W, bW⟩
end Go.Proofs.YtmbgcpmapaedcaaGreatDoor
