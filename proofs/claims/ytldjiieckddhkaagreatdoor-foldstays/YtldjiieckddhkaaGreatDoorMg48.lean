/- The walk of FoldStays. | FoldOne's contract, as its row asks for it. | FoldStays, as the row hands it its arguments. -/
import Derived.Test.YtldjiieckddhkaaGreatDoorMg47
import Derived.Test.YtldjiieckddhkaaGreatDoorMg45
import Derived.Test.YtldjiieckddhkaaGreatDoorMg46
namespace Go.Proofs.YtldjiieckddhkaaGreatDoor
open Go.RowKit Go.Sort Go.Lib
theorem ptV_inj {y z : Pv} (h : ptV y = ptV z) : y = z := by
  obtain ⟨a, b, c, s, f⟩ := y
  obtain ⟨a', b', c', s', f'⟩ := z
  unfold ptV at h
  simp only [Pt.mk.injEq] at h
  obtain ⟨rfl, h1, h2, rfl, rfl⟩ := h
  rw [← text_back s, ← text_back f, h1, h2, text_back, text_back]
theorem maps_inj : ∀ {a b : List Pv}, a.map ptV = b.map ptV → a = b
  | [], [], _ => rfl
  | [], _ :: _, h => by cases h
  | _ :: _, [], h => by cases h
  | y :: a, z :: b, h => by
    rw [List.map_cons, List.map_cons] at h
    injection h with h1 h2
    rw [ptV_inj h1, maps_inj h2]
theorem sameParts_one (va vb : Value) (o : List Pv) (w : World) (ha : PLst w va o) (hb : PLst w vb o) (h5 : o.length ≤ 500) : Calls Tryz.prog 13 #[va, vb] w fun e w' => e = .returned (.bool true) ∧ Below w.heap.size w w' :=
  (sameParts_any va vb o o w ha hb (by omega) (by omega)).mono fun e w' ⟨⟨b, he, hb⟩, hw⟩ => ⟨by rw [he, hb.2 rfl], hw⟩
/-- typed.Type of a tree that has a type -/
theorem type_of (vv u : Value) (l : List Vv) (o : List Pv) (t : Int) (W : World) (hV : VLst W vv l) (hvl : l.length ≤ 4398046510976) (hcp : CapOk vv) (hP : PLst W u o) (hf : fitsP (l.map vrV) (o.map ptV) t = 0) (ht : t ≠ 0) (hty : ∃ e, well e ∧ flat e = o.map ptV ∧ evT (partK (l.map vrV)) e = .ok (kT t)) (h5 : o.length ≤ 500) (hg : Glo W) :
    Calls Tryz.prog 18 #[vv, u] W fun e w' => e = .returned (.tuple #[.int .i64 t, .int .i64 0]) ∧ Below W.heap.size W w' := by
  refine (typeT_any vv u l o W hV hvl hcp hP (by omega) hg).mono fun e w' ⟨⟨t', e', he, k, hk, hK⟩, hb⟩ => ⟨?_, hb⟩
  obtain ⟨ex, h1, h2, h3⟩ := hty
  have ha : askP (l.map vrV) (o.map ptV) = .ok (kT t) := by
    unfold fitsP at hf
    cases hq : askP (l.map vrV) (o.map ptV) with
    | error er =>
      rw [hq] at hf
      have hf : er = 0 := hf
      rw [hq] at hK
      exact absurd (hK.1.trans hf) hK.2
    | ok k' =>
      unfold askP at hq
      split at hq
      · cases hq
      · split at hq
        · cases hq
        · unfold kindP at hq
          rw [← h2, run_tree _ h1, h3] at hq
          have hq : (if (kT t).typ = 0 ∧ kFits (kT t) 3 ≠ 0 then (Except.error 1 : Except Int Kd) else .ok (kT t)) = .ok k' := hq
          rw [if_neg (fun h => ht h.1)] at hq
          rw [hq]
  rw [ha] at hK
  obtain ⟨rfl, rfl⟩ := hK
  rw [he, hk]; rfl
/-- Resolve of what is resolved -/
theorem res_again (vv u : Value) (l : List Vv) (o : List Pv) (t : Int) (W : World) (hV : VLst W vv l) (hvl : l.length ≤ 4398046510976) (hcp : CapOk vv) (hP : PLst W u o) (h5 : o.length ≤ 500) (hs : StrOk o) (hf : fitsP (l.map vrV) (o.map ptV) t = 0) (hr : resP (l.map vrV) (o.map ptV) t = o.map ptV) (hg : Glo W) :
    Calls Tryz.prog 9 #[vv, u, .int .i64 t] W fun e w' => (∃ v', e = .returned (.tuple #[v', .int .i64 0]) ∧ PLst w' v' o) ∧ Below W.heap.size W w' := by
  have e1 : resolveP (l.map vrV) (o.map ptV) t = (o.map ptV, 0) := by unfold resolveP; rw [if_neg (fun h => h hf), hr]
  refine (resolve_any vv u l o t W hV hvl hcp hP (by omega) hs hg).mono fun e w' ⟨⟨v', o', he, ho, hL, _⟩, hb⟩ => ⟨?_, hb⟩
  rw [e1] at he ho
  obtain rfl := maps_inj ho
  exact ⟨v', he, hL⟩
/-- Fold of what is resolved -/
theorem fold_again (vv u : Value) (l : List Vv) (o ob : List Pv) (t : Int) (W : World) (hV : VLst W vv l) (hvl : l.length ≤ 4398046510976) (hcp : CapOk vv) (hP : PLst W u o) (h5 : o.length ≤ 500) (hs : StrOk o) (hf : fitsP (l.map vrV) (o.map ptV) t = 0) (hr : resP (l.map vrV) (o.map ptV) t = o.map ptV) (hb : foldP (o.map ptV) = ob.map ptV) (hg : Glo W) :
    Calls Tryz.prog 11 #[vv, u, .int .i64 t] W fun e w' => (∃ v', e = .returned (.tuple #[v', .int .i64 0]) ∧ PLst w' v' ob) ∧ Below W.heap.size W w' := by
  have e1 : resolveP (l.map vrV) (o.map ptV) t = (o.map ptV, 0) := by unfold resolveP; rw [if_neg (fun h => h hf), hr]
  have e2 : foldAll (l.map vrV) (o.map ptV) t = (ob.map ptV, 0) := by unfold foldAll; rw [e1, if_neg (fun h => h rfl), hb]
  refine (fold_any vv u l o t W hV hvl hcp hP (by omega) hs hg).mono fun e w' ⟨⟨v', o', he, ho, hL⟩, hb⟩ => ⟨?_, hb⟩
  rw [e2] at he ho
  obtain rfl := maps_inj ho
  exact ⟨v', he, hL⟩
theorem word_len {s : Bs} (h : wordB s = true) : s.length ≤ 24 := by
  unfold wordB at h
  cases s with
  | nil => simp
  | cons c r =>
    simp only [Bool.and_eq_true, decide_eq_true_eq] at h
    exact h.1
theorem may_f {p : Pt} (h : mayP p = true) : p.f.length ≤ 24 := by
  have key : p.f = [] ∨ wordB p.f = true := by
    unfold mayP at h
    split at h
    · simp at h; exact .inl h.2.1
    · split at h
      · simp at h; exact .inl h.1
      · split at h
        · simp at h; exact .inr h.2.2.2
        · split at h
          · simp at h; exact .inl h.2.1
          · split at h
            · simp at h; exact .inl h.2.1
            · cases h
  rcases key with h | h
  · rw [h]; simp
  · exact word_len h
theorem strOk_may {o : List Pv} (h : checkP (o.map ptV) = 0) : StrOk o := fun y hy => by
  have hm := (check_parts h).2 (ptV y) (List.mem_map_of_mem hy)
  have h1 : y.s.data.toList.length ≤ 24 := may_s hm
  have h2 : y.f.data.toList.length ≤ 24 := may_f hm
  rw [text_len] at h1 h2
  omega
/-- what a round of the law asks of a list that is resolved -/
structure LiQ (vs : List Vr) (Q : List Pt) (t : Int) : Prop where
  fit : fitsP vs Q t = 0
  res : resP vs Q t = Q
  ty : ∃ e, well e ∧ flat e = Q ∧ evT (partK vs) e = .ok (kT t)
  chk : checkP Q = 0
  num : ∀ p ∈ Q, p.kind = 1 → fit6 p.t p.n = true
theorem StayQ.a {vs : List Vr} {x a b : List Pt} {t : Int} (h : StayQ vs x a b t) : LiQ vs a t := ⟨h.fit_a, h.res_a, h.ty_a, h.chk_a, h.num_a⟩
theorem StayQ.b {vs : List Vr} {x a b : List Pt} {t : Int} (h : StayQ vs x a b t) : LiQ vs b t := ⟨h.fit_b, h.res_b, h.ty_b, h.chk_b, h.num_b⟩
set_option maxRecDepth 100000 in
set_option maxHeartbeats 3200000 in
theorem fstays_any (vv v : Value) (l : List Vv) (x : List Pv) (t : Int) (w : World) (hV : VLst w vv l) (hvl : l.length ≤ 4398046510976) (hcp : CapOk vv) (hX : PLst w v x) (hxl : x.length ≤ 4398046510976) (hs : StrOk x) (hg : Glo w) :
    Calls Tryz.prog 5 #[vv, v, .int .i64 t] w fun e w' => e = .returned (.bool true) ∧ Below w.heap.size w w' := by
  have m0 := works_any w hg
  have m1 : Hid (∀ W, Below w.heap.size w W → Calls Tryz.prog 9 #[vv, v, .int .i64 t] W (ResOut (l.map vrV) (x.map ptV) t W)) := fun W hb =>
    resolve_any vv v l x t W (hV.below hb (Nat.le_refl _)) hvl hcp (hX.below hb (Nat.le_refl _)) hxl hs (hg.below hb hg.lt)
  have m2 : Hid (∀ W, Below w.heap.size w W → Calls Tryz.prog 11 #[vv, v, .int .i64 t] W (FoldOut (l.map vrV) (x.map ptV) t W)) := fun W hb =>
    fold_any vv v l x t W (hV.below hb (Nat.le_refl _)) hvl hcp (hX.below hb (Nat.le_refl _)) hxl hs (hg.below hb hg.lt)
  unfold ResOut at m1
  unfold FoldOut at m2
  by_cases h0 : (resolveP (l.map vrV) (x.map ptV) t).2 = 0
  · obtain ⟨e1, e2, st⟩ := stay_of h0
    rw [e1] at m1
    rw [e2] at m2
    have LA := st.a
    have LB := st.b
    have t0 := st.ty
    have la := st.len_a
    have lb := st.len_b
    have fa := st.fold_a
    have fb := st.fold_b
    rw [List.length_map] at la lb
    have x5 : x.length ≤ 500 := by have := (check_parts st.chk_x).1; rw [List.length_map] at this; exact this
    dsimp only at m1 m2
    clear st e1 e2 h0
    generalize hPB : foldP (resP (l.map vrV) (x.map ptV) t) = PB at *
    generalize hPA : resP (l.map vrV) (x.map ptV) t = PA at *
    have m6 : Hid (∀ W u (o : List Pv), Below w.heap.size w W → PLst W u o → LiQ (l.map vrV) (o.map ptV) t → Calls Tryz.prog 18 #[vv, u] W fun e w' => e = .returned (.tuple #[.int .i64 t, .int .i64 0]) ∧ Below W.heap.size W w') := fun W u o hb hP hQ =>
      type_of vv u l o t W (hV.below hb (Nat.le_refl _)) hvl hcp hP hQ.fit t0 hQ.ty (by have := (check_parts hQ.chk).1; rw [List.length_map] at this; exact this) (hg.below hb hg.lt)
    have m7 : Hid (∀ W u (o : List Pv), Below w.heap.size w W → PLst W u o → LiQ (l.map vrV) (o.map ptV) t → Calls Tryz.prog 9 #[vv, u, .int .i64 t] W fun e w' => (∃ v', e = .returned (.tuple #[v', .int .i64 0]) ∧ PLst w' v' o) ∧ Below W.heap.size W w') := fun W u o hb hP hQ =>
      res_again vv u l o t W (hV.below hb (Nat.le_refl _)) hvl hcp hP (by have := (check_parts hQ.chk).1; rw [List.length_map] at this; exact this) (strOk_may hQ.chk) hQ.fit hQ.res (hg.below hb hg.lt)
    have m8 : Hid (∀ W u (o ob : List Pv), Below w.heap.size w W → PLst W u o → LiQ (l.map vrV) (o.map ptV) t → foldP (o.map ptV) = ob.map ptV → Calls Tryz.prog 11 #[vv, u, .int .i64 t] W fun e w' => (∃ v', e = .returned (.tuple #[v', .int .i64 0]) ∧ PLst w' v' ob) ∧ Below W.heap.size W w') := fun W u o ob hb hP hQ hF =>
      fold_again vv u l o ob t W (hV.below hb (Nat.le_refl _)) hvl hcp hP (by have := (check_parts hQ.chk).1; rw [List.length_map] at this; exact this) (strOk_may hQ.chk) hQ.fit hQ.res hF (hg.below hb hg.lt)
    have HG := hide hg
    obtain ⟨VS, hVS⟩ : ∃ VS, VS = l.map vrV := ⟨_, rfl⟩
    rw [← hVS] at LA LB m6 m7 m8
    have HLA := hide LA
    have HLB := hide LB
    have HFA : Hid (foldP PA = PB) := hPB
    have HFB := hide fb
    obtain ⟨xa, xb, xoff, xcap, rfl, -⟩ := hX
    generalize x.length = XN at *
    have HXN := hide hxl
    clear hV hg hs hvl hcp hxl hVS LA LB fa fb hPA hPB
    have qt : (t != t) = false := by simp
    go_enter Tryz.func5, Tryz.ntmps5
    go_wp2_with fail
    refine m0.mono ?_
    rintro e w1 ⟨rfl, hb1⟩
    have B1 := hide hb1
    clear m0 hb1
    go_wp2_with fail
    refine (m1.out _ B1.out).mono ?_
    rintro e w2 ⟨⟨va, oa, rfl, ha1, ha2, -⟩, hb2⟩
    have B2 := hide (B1.out.trans (hb2.mono B1.out.size))
    have QA : Hid (LiQ VS (oa.map ptV) t) := by show LiQ _ _ _; rw [ha1]; exact HLA.out
    have FA : Hid (foldP (oa.map ptV) = PB) := by show _ = _; rw [ha1]; exact HFA.out
    have na : oa.length = XN := by rw [← la, ← ha1, List.length_map]
    have PA2 := hide ha2
    clear m1 B1 hb2 ha1 ha2 HLA HFA la
    go_wp2_with fail
    refine (m2.out _ B2.out).mono ?_
    rintro e w3 ⟨⟨vb, ob, rfl, hq1, hq2⟩, hb3⟩
    have B3 := hide (B2.out.trans (hb3.mono B2.out.size))
    have QB : Hid (LiQ VS (ob.map ptV) t) := by show LiQ _ _ _; rw [hq1]; exact HLB.out
    have FB : Hid (foldP (ob.map ptV) = ob.map ptV) := by show _ = _; rw [hq1]; exact HFB.out
    have FA2 : Hid (foldP (oa.map ptV) = ob.map ptV) := by show _ = _; rw [hq1]; exact FA.out
    have nb : ob.length ≤ XN := by rw [← hq1, List.length_map] at lb; exact lb
    have hA3 := PA2.out.below hb3 (Nat.le_refl _)
    obtain ⟨aa, ba, fa, ca, rfl, -⟩ := id hA3
    obtain ⟨ab, bb, fb, cb, rfl, -⟩ := id hq2
    rw [na] at hA3 ⊢
    obtain ⟨NB, hNB⟩ : ∃ NB, NB = ob.length := ⟨_, rfl⟩
    rw [← hNB] at hq2 nb ⊢
    have PA3 := hide hA3
    have PB3 := hide hq2
    have HNB := hide hNB
    have HNA := hide na
    have x5' : (XN : Int) ≤ 500 := by omega
    have nb' : (NB : Int) ≤ (XN : Int) := by omega
    clear m2 B2 hb3 hq1 hq2 HLB HFB lb PA2 hA3 FA hNB na
    go_wp2_with fail
    have HNBX := hide nb
    have dn : decide (XN < NB) = false := decide_eq_false (by omega)
    simp only [dn]
    clear nb nb' dn
    go_loopw [74] (fun i wr => ∃ J : Nat, J ≤ 2 ∧ i = .int .i64 (J : Int) ∧ Hid (Below w3.heap.size w3 wr ∧ w3.heap.size < wr.heap.size ∧ wr.cell? ⟨w3.heap.size, 0, none⟩ = some (.slice aa XN ca) ∧ wr.cell? ⟨w3.heap.size, 1, none⟩ = some (.slice ab NB cb))) (fun i _ => 2 - (intOf i).toNat)
    case atStart =>
      have hb := heap_alloc_new w3 (.cells #[.slice aa XN ca, .slice ab NB cb] 23)
      exact ⟨0, by omega, rfl, (Below.refl _ _).alloc (Nat.le_refl _) _, by simp, by rw [Lib.cell_of_heap hb]; rfl, by rw [Lib.cell_of_heap hb]; rfl⟩
    case round =>
      obtain ⟨J, hJ, rfl, hh⟩ := hrel
      have HR := hide hh.out
      clear hh
      by_cases hlt : J < 2
      · have j1 : (J : Int) < 2 := by omega
        have j0 : (0 : Int) ≤ (J : Int) := by omega
        obtain ⟨u, o, hcell, hP, hQ⟩ : ∃ u o, wr.cell? ⟨w3.heap.size, J, none⟩ = some u ∧ PLst wr u o ∧ LiQ VS (o.map ptV) t := by
          obtain ⟨r1, r2, r3, r4⟩ := HR.out
          rcases (show J = 0 ∨ J = 1 by omega) with rfl | rfl
          · exact ⟨_, oa, r3, PA3.out.below r1 (Nat.le_refl _), QA.out⟩
          · exact ⟨_, ob, r4, PB3.out.below r1 (Nat.le_refl _), QB.out⟩
        have o5 : o.length ≤ 500 := by have := (check_parts hQ.chk).1; rw [List.length_map] at this; exact this
        have HQ := hide hQ
        obtain ⟨a1, b1, f1, c1, rfl, hA, hI⟩ := id hP
        have HA := hide hA
        have HI := hide hI
        obtain ⟨M, hM⟩ : ∃ M, M = o.length := ⟨_, rfl⟩
        rw [← hM] at hP hcell o5
        have HM := hide hM
        have HP := hide hP
        have o5' : (M : Int) ≤ 500 := by omega
        have HBr := hide (B3.out.trans (HR.out.1.mono B3.out.size))
        clear hQ hA hI hM hP
        go_wp2_with fail
        refine (m6.out _ _ o HBr.out HP.out HQ.out).mono ?_
        rintro e w5 ⟨rfl, hb5⟩
        have C5 := hide hb5
        clear hb5
        go_wp2_with fail
        refine (m7.out _ _ o (HBr.out.trans (C5.out.mono HBr.out.size)) (HP.out.below C5.out (Nat.le_refl _)) HQ.out).mono ?_
        rintro e w6 ⟨⟨v', rfl, hv'⟩, hb6⟩
        have C6 := hide (C5.out.trans (hb6.mono C5.out.size))
        have PV := hide hv'
        clear hb6 hv'
        go_wp2_with fail
        refine (sameParts_one v' _ o _ PV.out (HP.out.below C6.out (Nat.le_refl _)) (by rw [← HM.out]; exact o5)).mono ?_
        rintro e w7 ⟨rfl, hb7⟩
        have C7 := hide (C6.out.trans (hb7.mono C6.out.size))
        clear hb7 PV C5 C6
        go_wp2_with fail
        go_loopw [110] (fun i wr2 => ∃ k : Nat, k ≤ M ∧ i = .int .i64 (k : Int) ∧ Hid (Below wr.heap.size wr wr2)) (fun i _ => M - (intOf i).toNat)
        case atStart => exact ⟨0, by omega, rfl, C7.out⟩
        case round =>
          obtain ⟨k, hk, rfl, hh⟩ := hrel
          rename_i wr2
          have HB := hide hh.out
          clear hh
          by_cases hl2 : k < M
          · have k1 : (k : Int) < (M : Int) := by omega
            have k0 : (0 : Int) ≤ (k : Int) := by omega
            obtain ⟨y, hy⟩ : ∃ y, o[k]? = some y := ⟨_, List.getElem?_eq_getElem (by rw [← HM.out]; exact hl2)⟩
            have HN : Hid (y.k = 1 → fit6 y.t y.n = true) := fun h => HQ.out.num (ptV y) (List.mem_map_of_mem (List.mem_of_getElem? hy)) h
            obtain ⟨hbw, rfl⟩ := HA.out (by rw [← HM.out]; omega)
            obtain ⟨q0, q1, q2, q3, q4⟩ := HI.out k y hy
            have c0 := (HB.out.cell (p := ⟨b1, f1 + k * 5, none⟩) hbw).trans q0
            have c1' := (HB.out.cell (p := ⟨b1, f1 + k * 5 + 1, none⟩) hbw).trans q1
            have c2 := (HB.out.cell (p := ⟨b1, f1 + k * 5 + 2, none⟩) hbw).trans q2
            have c3 := (HB.out.cell (p := ⟨b1, f1 + k * 5 + 3, none⟩) hbw).trans q3
            have c4 := (HB.out.cell (p := ⟨b1, f1 + k * 5 + 4, none⟩) hbw).trans q4
            have zr := HB.out.size
            have HB1 := hide (HB.out.alloc zr (.cells #[.int .i64 y.k, .int .i64 y.n, .int .i64 y.t, .string y.s, .string y.f] 38))
            clear q0 q1 q2 q3 q4 hy
            by_cases hy1 : y.k = 1
            · have e1 : (y.k == 1) = true := by simp [hy1]
              have m9 := fun W (hb : Below w.heap.size w W) => fits_all y.t y.n W (HG.out.below hb HG.out.lt).span
              have hf := HN.out hy1
              rw [hf] at m9
              clear hy1 hf
              go_wp2_with (go_at_call 19; refine (m9 _ (HBr.out.trans (HB1.out.mono HBr.out.size))).mono ?_; rintro e w9 ⟨rfl, rfl⟩)
              go_roundw
              case rel => exact ⟨k + 1, by omega, by go_num, HB1.out⟩
              case measure => simp [intOf]; omega
            · have e1 : (y.k == 1) = false := by simp [hy1]
              clear hy1
              go_wp2
              go_roundw
              case rel => exact ⟨k + 1, by omega, by go_num, HB1.out⟩
              case measure => simp [intOf]; omega
          · go_wp2
            go_roundw
            case rel =>
              obtain ⟨r1, r2, r3, r4⟩ := HR.out
              exact ⟨J + 1, by omega, by go_num, r1.trans (HB.out.mono r1.size), Nat.lt_of_lt_of_le r2 HB.out.size, (HB.out.cell (p := ⟨w3.heap.size, 0, none⟩) r2).trans r3, (HB.out.cell (p := ⟨w3.heap.size, 1, none⟩) r2).trans r4⟩
            case measure => simp [intOf]; omega
      · have BR := hide (B3.out.trans (HR.out.1.mono B3.out.size))
        have PAr := hide (PA3.out.below HR.out.1 (Nat.le_refl _))
        have PBr := hide (PB3.out.below HR.out.1 (Nat.le_refl _))
        have n5 : ob.length ≤ 500 := by have := HNB.out; have := HNBX.out; omega
        obtain rfl : J = 2 := by omega
        go_wp2_with fail
        refine (m8.out _ _ ob ob BR.out PBr.out QB.out FB.out).mono ?_
        rintro e w5 ⟨⟨v5, rfl, hv5⟩, hb5⟩
        have B5 := hide (BR.out.trans (hb5.mono BR.out.size))
        have PA5 := hide (PAr.out.below hb5 (Nat.le_refl _))
        have PB5 := hide (PBr.out.below hb5 (Nat.le_refl _))
        have PV5 := hide hv5
        clear hb5 hv5 PAr PBr
        go_wp2_with fail
        refine (m8.out _ _ oa ob B5.out PA5.out QA.out FA2.out).mono ?_
        rintro e w6 ⟨⟨v6, rfl, hv6⟩, hb6⟩
        have B6 := hide (B5.out.trans (hb6.mono B5.out.size))
        have PB6 := hide (PB5.out.below hb6 (Nat.le_refl _))
        have PV6 := hide (PV5.out.below hb6 (Nat.le_refl _))
        have PW6 := hide hv6
        clear hb6 hv6 PA5 PB5 PV5
        go_wp2_with fail
        refine (sameParts_one _ v5 ob _ PB6.out PV6.out n5).mono ?_
        rintro e w7 ⟨rfl, hb7⟩
        have B7 := hide (B6.out.trans (hb7.mono B6.out.size))
        have PB7 := hide (PB6.out.below hb7 (Nat.le_refl _))
        have PW7 := hide (PW6.out.below hb7 (Nat.le_refl _))
        clear hb7 PB6 PV6 PW6
        go_wp2_with fail
        refine (sameParts_one _ v6 ob _ PB7.out PW7.out n5).mono ?_
        rintro e w8 ⟨rfl, hb8⟩
        have B8 := hide (B7.out.trans (hb8.mono B7.out.size))
        go_wp2
        go_ret
        exact ⟨rfl, B8.out⟩
  · have e2 : foldAll (l.map vrV) (x.map ptV) t = ([], (resolveP (l.map vrV) (x.map ptV) t).2) := by unfold foldAll; rw [if_pos h0]
    have e1 : resolveP (l.map vrV) (x.map ptV) t = ([], (resolveP (l.map vrV) (x.map ptV) t).2) := by
      unfold resolveP at h0 ⊢
      split
      · rfl
      · rename_i h; rw [if_neg h] at h0; exact absurd rfl h0
    obtain ⟨E, hE⟩ : ∃ E, E = (resolveP (l.map vrV) (x.map ptV) t).2 := ⟨_, rfl⟩
    rw [← hE] at e1 e2 h0
    rw [e1] at m1
    rw [e2] at m2
    dsimp only at m1 m2
    have q1 : (E != 0) = true := by simp [h0]
    clear hV hX hg hs hvl hcp hxl e2 hE e1
    go_enter Tryz.func5, Tryz.ntmps5
    go_wp2_with (first | (go_at_call 15; refine m0.mono ?_; rintro e w1 ⟨rfl, hb1⟩) | (go_at_call 9; refine (m1.out _ hb1).mono ?_; rintro e w2 ⟨⟨va, oa, rfl, ha, pa, -⟩, hb2⟩; obtain rfl := List.map_eq_nil_iff.1 ha; obtain ⟨pa1, pa2, pa3, pa4, rfl, -, -⟩ := pa; replace hb2 := hb1.trans (hb2.mono hb1.size)) | (go_at_call 11; refine (m2.out _ hb2).mono ?_; rintro e w3 ⟨⟨vb, ob, rfl, hb, pb⟩, hb3⟩; obtain rfl := List.map_eq_nil_iff.1 hb; obtain ⟨pb1, pb2, pb3, pb4, rfl, -, -⟩ := pb; replace hb3 := hb2.trans (hb3.mono hb2.size)))
    go_ret
    exact ⟨rfl, hb3⟩
end Go.Proofs.YtldjiieckddhkaaGreatDoor
namespace Go.Proofs.YtldjiieckddhkaaGreatDoor
open Go.RowKit
theorem strOk_of {l : List Pv} (h : OkP l) : StrOk l := fun y hy => ⟨Nat.le_trans (h.2 y hy).1 (by decide), Nat.le_trans (h.2 y hy).2.1 (by decide)⟩
theorem one_row (vx : Value) (x : List Pv) (vy : Value) (y : List Pv) (k : Int) (w : World) (hX : PLst w vx x) (_ : ∀ a n cap, vx = .slice a n cap → n ≤ cap) (ox : OkP x) (hY : PLst w vy y) (_ : ∀ a n cap, vy = .slice a n cap → n ≤ cap) (oy : OkP y) (hg : Glo w) :
    Calls Tryz.prog 6 #[vx, vy, .int .i64 k] w fun e w' => e = .returned (.bool true) ∧ Below w.heap.size w w' :=
  foldOne_any vx vy x y k w hX (by have := ox.1; omega) (strOk_of ox) hY (by have := oy.1; omega) (strOk_of oy) hg
end Go.Proofs.YtldjiieckddhkaaGreatDoor
namespace Go.Proofs.YtldjiieckddhkaaGreatDoor
open Go.RowKit
theorem fs_row (vv : Value) (l : List Vv) (v : Value) (x : List Pv) (t : Int) (w : World) (hV : VLst w vv l) (hc : ∀ a n cap, vv = .slice a n cap → n ≤ cap) (hvl : l.length * 48 ≤ 140737488351232) (hX : PLst w v x) (_ : ∀ a n cap, v = .slice a n cap → n ≤ cap) (ox : OkP x) (hg : Glo w) :
    Calls Tryz.prog 5 #[vv, v, .int .i64 t] w fun e w' => e = .returned (.bool true) ∧ Below w.heap.size w w' :=
  fstays_any vv v l x t w hV (by omega) hc hX (by have := ox.1; omega) (strOk_of ox) hg
end Go.Proofs.YtldjiieckddhkaaGreatDoor
