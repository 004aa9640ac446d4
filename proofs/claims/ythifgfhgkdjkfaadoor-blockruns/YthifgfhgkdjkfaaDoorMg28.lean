/- The document's Run. | The document's Run, whole. | Short forms of the kit's laws on drawn regions. | Rows of calls, as a list of cells. -/
import Derived.Test.YthifgfhgkdjkfaaDoorMg27
import Derived.Deep.RegionHeldLaw
import Derived.Deep.AppendLies
namespace Go.Proofs.YthifgfhgkdjkfaaDoor
open Go.RowKit
set_option maxRecDepth 100000 in
set_option maxHeartbeats 3200000 in
theorem rrun_ok (k : Int) (hk : 1 ≤ k ∧ k ≤ 10) (cv : Value) (c : List Int) (v : Value) (cl : List (Int × List Int)) (w : World) (hC : ILst w cv c) (hV : CLst w v cl) (hN : cl.length ≤ 35184372088832) (h0 : mayP (fldK k) c 0 = 0) :
    Calls Tryd.prog 17 #[.int .i64 k, cv, v] w fun e w' => RunQ (runP k cl c) (fldK k).length e w' ∧ Below w.heap.size w w' := by
  have m23 := rcheck_any k cv c w hC
  have hck : chkE k c = 0 := chk_of (now := 0) (by unfold stepE; rw [(kindOk_iff k).2 hk]; exact h0)
  rw [hck] at m23
  have m31 : Hid (∀ W, Calls Tryd.prog 31 #[.int .i64 k] W fun e w' => (∃ v, e = .returned (.tuple #[v, .int .i64 0]) ∧ FLst w' v (fldK k)) ∧ Below W.heap.size W w') := fun W => rfields_ok k hk W
  have h6 := fldK_len k
  have hcn : c.length = (fldK k).length := (may_zero.1 h0).1
  have HFP : Hid (0 < (fldK k).length) := by
    show _ < _
    obtain rfl | rfl | rfl | rfl | rfl | rfl | rfl | rfl | rfl | rfl : k = 1 ∨ k = 2 ∨ k = 3 ∨ k = 4 ∨ k = 5 ∨ k = 6 ∨ k = 7 ∨ k = 8 ∨ k = 9 ∨ k = 10 := by omega
    all_goals decide
  have mS : Hid (∀ W av a now, ILst W av a → mayP (fldK k) a now = 0 → Calls Tryd.prog 11 #[.int .i64 k, av, .int .i64 now] W fun e w' => ∃ g cap, e = .returned (.tuple #[.slice (some ⟨g, 0, none⟩) (fldK k).length cap, .int .i64 0]) ∧ Rw w' g (stepL k a now) ∧ W.heap.size ≤ g ∧ Below W.heap.size W w') := fun W av a now ha hm => by
    have h := rstep_ok k av a now W ha (by unfold stepE; rw [(kindOk_iff k).2 hk]; exact hm)
    rw [stepL_len' hk] at h
    exact h
  have mE : Hid (∀ W av a now, ILst W av a → mayP (fldK k) a now ≠ 0 → Calls Tryd.prog 11 #[.int .i64 k, av, .int .i64 now] W fun e w' => e = .returned (.tuple #[.slice none 0 0, .int .i64 (mayP (fldK k) a now)]) ∧ Below W.heap.size W w') := fun W av a now ha hm => by
    have e : stepE k a now = mayP (fldK k) a now := by unfold stepE; rw [(kindOk_iff k).2 hk]; rfl
    have h := rstep_no k av a now W ha (by rw [e]; exact hm)
    rw [e] at h
    exact h
  have HSL : Hid (∀ a now, (stepL k a now).length = (fldK k).length) := fun a now => stepL_len' hk a now
  have HRN : Hid (∀ now ins r c, runP k ((now, ins) :: r) c = if setN (fldK k) < ins.length then ([], 4) else if mayP (fldK k) (putL ins c) now = 0 then runP k r (stepL k (putL ins c) now) else ([], mayP (fldK k) (putL ins c) now)) := fun _ _ _ _ => rfl
  have HR0 : Hid (∀ c, runP k [] c = (c, 0)) := fun _ => rfl
  have hs6 := setN_le (fldK k)
  have HST := hide (setN_true (fldK k))
  have HSF := hide (setN_false (fldK k))
  have HC := hide hC
  obtain ⟨ca, cb, coff, ccap, hcv, hcA, -⟩ := hC
  obtain ⟨va, vb, voff, vcap, hvv, hvA, hvI⟩ := hV
  have HVA := hide hvA
  have HVI := hide hvI
  rw [hcn] at hcv
  have HCN := hide hcn
  clear hcA hvA hvI hk hck
  generalize fldK k = fl at *
  obtain ⟨n, hn⟩ : ∃ n, n = fl.length := ⟨_, rfl⟩
  obtain ⟨L, hL⟩ : ∃ L, L = cl.length := ⟨_, rfl⟩
  obtain ⟨mo, hmo⟩ : ∃ mo, mo = setN fl := ⟨_, rfl⟩
  have m31' : Hid (∀ W, Calls Tryd.prog 31 #[.int .i64 k] W fun e w' => (∃ fa fb fcap, e = .returned (.tuple #[.slice fa n fcap, .int .i64 0]) ∧ (0 < n → fb < w'.heap.size ∧ fa = some ⟨fb, 0, none⟩) ∧ ∀ i r, fl[i]? = some r → w'.cell? ⟨fb, i * 3 + 2, none⟩ = some (.bool r.2)) ∧ Below W.heap.size W w') := fun W => by
    refine (m31.out W).mono ?_
    rintro e w' ⟨⟨v, rfl, fa, fb, fcap, rfl, h1, h2⟩, hb⟩
    rw [← hn] at h1 ⊢
    exact ⟨⟨fa, fb, fcap, rfl, h1, fun i r hr => (h2 i r hr).choose_spec.2.2⟩, hb⟩
  rw [← hn] at hcv h6 hs6 HFP mS HSL HCN HSF
  rw [← hL] at hvv hN HVA
  rw [← hmo] at HRN hs6 HST HSF
  rw [← hn]
  have HL := hide hL
  subst hcv hvv
  have HRR : Hid (∃ r, r = runP k cl c) := ⟨_, rfl⟩
  obtain ⟨r, hr⟩ := HRR.out
  rw [← hr]
  have HR := hide hr
  have n6 : (n : Int) ≤ 6 := by omega
  have n0 : (0 : Int) ≤ (n : Int) := by omega
  have L0 : (0 : Int) ≤ (L : Int) := by omega
  have L5 : (L : Int) ≤ 35184372088832 := by omega
  have HMO := hide hs6
  clear hn hL hmo hr HRR h0 hcn m31
  generalize hPost : RunQ r n = Post at *
  have HP := hide hPost
  clear hPost
  go_enter Tryd.func17, Tryd.ntmps17
  go_wp2_with (first | (go_at_call 23; refine m23.mono ?_; rintro e w1 ⟨rfl, b1⟩; have B1 := hide b1; clear b1) | (go_at_call 31; refine (m31'.out _).mono ?_; rintro e w2 ⟨⟨fa, fb, fcap, rfl, hfA, hfI⟩, b2⟩; have HFA := hide hfA; have HFI := hide hfI; have B2 := hide (B1.out.trans (b2.mono B1.out.size)); clear hfA hfI b2) | (at_builtin; refine wpList_append_nums (by rfl) _ _ (by rfl) w2.heap.size 0 _ _ (by rfl) (own_none2 _ _ (Nat.le_refl _)) _ c (by rfl) ((HC.out.on B2.out).on (blw_alloc (Below.refl _ _) _)) (by rw [HCN.out]; omega) (by simp) ?_; intro v' w3 hown hgr; have HB3 := hide (below_app2 (blw_alloc (Below.refl w2.heap.size w2) (.cells #[] 2)) (by simp) (own_none2 _ _ (Nat.le_refl _)) hgr); have hw3 : ∃ g c2, v' = .slice (some ⟨g, 0, none⟩) n c2 ∧ w2.heap.size ≤ g ∧ n ≤ c2 ∧ Rw w3 g c := (Rw.of_owns (n := n) (l := c) (by rw [HCN.out, Nat.zero_add] at hown; exact hown) HFP.out HCN.out.symm); obtain ⟨g0, c0, rfl, hg2, hc2, hrw⟩ := hw3; have G3 := hide hg2; have R3 := hide hrw; clear hown hgr hg2 hrw hc2))
  obtain ⟨hfb, rfl⟩ := HFA.out HFP.out
  go_loopw [11, 12] (fun av i wr => ∃ (j g cp : Nat), j ≤ L ∧ i = .int .i64 (j : Int) ∧ av = .slice (some ⟨g, 0, none⟩) n cp ∧ Hid (∃ a, Rw wr g a ∧ a.length = n ∧ r = runP k (cl.drop j) a ∧ w2.heap.size ≤ g ∧ Below w2.heap.size w2 wr)) (fun _ i _ => L - (intOf i).toNat)
  case atStart => exact ⟨0, g0, c0, by omega, rfl, rfl, c, R3.out, HCN.out, HR.out, G3.out, HB3.out⟩
  case round =>
    obtain ⟨j, g, cp, hj, rfl, rfl, hh⟩ := hrel
    obtain ⟨a, ra, la, hra, lg, hb⟩ := hh.out
    have RA := hide ra
    have LA := hide la
    have HRA := hide hra
    have LG := hide lg
    have HB := hide hb
    have HBW := hide (B2.out.trans (hb.mono B2.out.size))
    clear hh ra la hra lg hb
    by_cases hlt : j < L
    · have j1 : (j : Int) < (L : Int) := by omega
      have j0 : (0 : Int) ≤ (j : Int) := by omega
      obtain ⟨⟨now, ins⟩, hq⟩ : ∃ q, cl[j]? = some q := ⟨_, List.getElem?_eq_getElem (by rw [← HL.out]; exact hlt)⟩
      obtain ⟨hvb, rfl⟩ := HVA.out (by omega)
      obtain ⟨p0, sv, p1, hsv⟩ := HVI.out j _ hq
      have HD : Hid (cl.drop j = (now, ins) :: cl.drop (j + 1)) := by
        show _ = _
        obtain ⟨hjl, e⟩ := List.getElem?_eq_some_iff.1 hq
        rw [List.drop_eq_getElem_cons hjl, e]
      obtain ⟨sa, sb, soff, scap, hsv2, hsA, hsI⟩ := hsv
      change sv = .slice sa ins.length scap at hsv2
      obtain ⟨m, hm⟩ : ∃ m, m = ins.length := ⟨_, rfl⟩
      rw [← hm] at hsv2
      subst hsv2
      have HM := hide hm
      have HSA := hide hsA
      have HSI := hide hsI
      have HP0 := hide p0
      have HP1 := hide p1
      have m0 : (0 : Int) ≤ (m : Int) := by omega
      clear hq p0 p1 hm hsA hsI
      obtain ⟨wo, hwo⟩ : ∃ wo, wo = wr := ⟨_, rfl⟩
      subst hwo
      go_wp2_with fail
      go_loopw [13] (fun i wq => ∃ q : Nat, q ≤ m ∧ q ≤ mo ∧ i = .int .i64 (q : Int) ∧ Hid (Rw wq g (putL (ins.take q) a) ∧ Below w2.heap.size w2 wq)) (fun i _ => m - (intOf i).toNat)
      case atStart => exact ⟨0, by omega, by omega, rfl, by rw [putL_zero]; exact RA.out, HB.out⟩
      case round =>
        obtain ⟨q, hq1, hq2, rfl, hh⟩ := hrel
        obtain ⟨rq, bq⟩ := hh.out
        have RQ := hide rq
        have BQ := hide bq
        have BWQ := hide (B2.out.trans (bq.mono B2.out.size))
        clear hh rq bq
        have q0 : (0 : Int) ≤ (q : Int) := by omega
        have q6 : (q : Int) ≤ 6 := by have := HMO.out; omega
        have c1' := (BWQ.out.cell (p := ⟨vb, voff + j * 2 + 1, none⟩) hvb).trans HP1.out
        have c0' : wr.cell? ⟨vb, voff + j * 2, none⟩ = some (.int .i64 now) := (BWQ.out.cell (p := ⟨vb, voff + j * 2, none⟩) hvb).trans HP0.out
        by_cases hqm : q < m
        · have i1 : (q : Int) < (m : Int) := by omega
          by_cases hqo : q < mo
          · obtain ⟨t, ht⟩ := HST.out q hqo
            have cs : wr.cell? ⟨fb, q * 3 + 2, none⟩ = some (.bool true) := (BQ.out.cell (p := ⟨fb, q * 3 + 2, none⟩) hfb).trans (HFI.out q _ ht)
            have i2 : (q : Int) < (n : Int) := by have := HMO.out; omega
            obtain ⟨x, hx⟩ : ∃ x, ins[q]? = some x := ⟨_, List.getElem?_eq_getElem (by rw [← HM.out]; exact hqm)⟩
            obtain ⟨hsb, rfl⟩ := HSA.out (by rw [← HM.out]; omega)
            have cx := (BWQ.out.cell (p := ⟨sb, soff + q, none⟩) hsb).trans (HSI.out q x hx)
            have hlen : (putL (ins.take q) a).length = n := by rw [putL_take_len (by rw [← HM.out]; omega) (by rw [LA.out]; omega)]; exact LA.out
            obtain ⟨y, hy⟩ : ∃ y, (putL (ins.take q) a)[q]? = some y := ⟨_, List.getElem?_eq_getElem (by rw [hlen]; omega)⟩
            have cy := RQ.out.cell q hy
            have fy := RQ.out.fr q
            have HNX : Hid (Rw (wr.setCell ⟨g, q, none⟩ (.int .i64 x)) g (putL (ins.take (q + 1)) a)) := RQ.out.set q x (putL_next hx (by rw [LA.out]; omega))
            clear ht hx hy hlen
            go_wp2
            go_roundw
            case rel => exact ⟨q + 1, by omega, by omega, by go_num, HNX.out, BQ.out.setCell LG.out _⟩
            case measure => simp [intOf]; omega
          · obtain rfl : q = mo := by omega
            have HE : Hid (r = ([], 4)) := by show _ = _; rw [HRA.out, HD.out, HRN.out, if_pos (by rw [← HM.out]; exact hqm)]
            by_cases hqn : q < n
            · obtain ⟨t, ht⟩ := HSF.out hqn
              have cs : wr.cell? ⟨fb, q * 3 + 2, none⟩ = some (.bool false) := (BQ.out.cell (p := ⟨fb, q * 3 + 2, none⟩) hfb).trans (HFI.out q _ ht)
              have i2 : (q : Int) < (n : Int) := by omega
              clear ht
              go_wp2
              go_ret2
              refine ⟨?_, BWQ.out⟩
              rw [← HP.out, HE.out]
              exact .inr ⟨by decide, rfl, rfl⟩
            · have i2 : ¬ (q : Int) < (n : Int) := by omega
              have i3 : (n : Int) ≤ (q : Int) := by omega
              go_wp2
              go_ret2
              refine ⟨?_, BWQ.out⟩
              rw [← HP.out, HE.out]
              exact .inr ⟨by decide, rfl, rfl⟩
        · have i1 : ¬ (q : Int) < (m : Int) := by omega
          obtain rfl : q = m := by omega
          have RM : Hid (Rw wr g (putL ins a)) := by
            have := RQ.out
            rw [HM.out, putL_all] at this
            exact this
          have hlen : (putL ins a).length = n := by rw [putL_len (by rw [← HM.out, LA.out]; have := HMO.out; omega)]; exact LA.out
          have IM := hide (RM.out.ilst n cp hlen.symm)
          have hnm : ¬ mo < ins.length := by rw [← HM.out]; omega
          clear hlen
          by_cases hE : mayP fl (putL ins a) now = 0
          · have mS1 := mS.out wr _ _ now IM.out hE
            have HNX : Hid (r = runP k (cl.drop (j + 1)) (stepL k (putL ins a) now)) := by show _ = _; rw [HRA.out, HD.out, HRN.out, if_neg hnm, if_pos hE]
            clear hE hnm
            go_wp2_with (first | (go_at_call 11; refine mS1.mono ?_; rintro e w7 ⟨g7, c7, rfl, r7, l7, b7⟩; have R7 := hide r7; have L7 := hide (Nat.le_trans BQ.out.size l7); have B7 := hide (BQ.out.trans (b7.mono BQ.out.size)); clear r7 l7 b7))
            go_roundw
            case rel => exact ⟨j + 1, g7, c7, by omega, by go_num, rfl, stepL k (putL ins a) now, R7.out, HSL.out _ _, HNX.out, L7.out, B7.out⟩
            case measure => simp [intOf]; omega
          · have mE1 := mE.out wr _ _ now IM.out hE
            have hee := may_err hE
            have HNX : Hid (r = ([], mayP fl (putL ins a) now)) := by show _ = _; rw [HRA.out, HD.out, HRN.out, if_neg hnm, if_neg hE]
            clear hE hnm
            generalize mayP fl (putL ins a) now = E at *
            rcases hee with rfl | rfl
            all_goals
              go_wp2_with (first | (go_at_call 11; refine mE1.mono ?_; rintro e w7 ⟨rfl, b7⟩; have B7 := hide (BWQ.out.trans (b7.mono BWQ.out.size)); clear b7))
              go_ret2
              refine ⟨?_, B7.out⟩
              rw [← HP.out, HNX.out]
              exact .inr ⟨by decide, rfl, rfl⟩
    · have j1 : ¬ (j : Int) < (L : Int) := by omega
      have HE : Hid (r = (a, 0)) := by show _ = _; rw [HRA.out, List.drop_eq_nil_of_le (by rw [← HL.out]; omega), HR0.out]
      go_wp2
      go_ret2
      refine ⟨?_, HBW.out⟩
      rw [← HP.out, HE.out]
      exact .inl ⟨rfl, g, cp, rfl, RA.out⟩
end Go.Proofs.YthifgfhgkdjkfaaDoor
namespace Go.Proofs.YthifgfhgkdjkfaaDoor
open Go.RowKit
theorem runA_ok {k : Int} {c : List Int} {cl : List (Int × List Int)} (hk : 1 ≤ k ∧ k ≤ 10) (h0 : mayP (fldK k) c 0 = 0) : runA k c cl = runP k cl c := by
  unfold runA; rw [(kindOk_iff k).2 hk, if_pos rfl, if_pos h0]
theorem runA_no {k : Int} {c : List Int} {cl : List (Int × List Int)} (h : ¬ ((1 ≤ k ∧ k ≤ 10) ∧ mayP (fldK k) c 0 = 0)) : runA k c cl = ([], chkE k c) ∧ (chkE k c = 1 ∨ chkE k c = 4 ∨ chkE k c = 92) := by
  have e := chk_step k c 0
  have hn : nowOk 0 = true := by decide
  rw [hn] at e
  simp only [if_true] at e
  have e2 : stepE k c 0 = chkE k c := by
    rw [e]
    split
    · rename_i h1; exact h1.symm
    · rfl
  unfold stepE at e2
  unfold runA
  cases a : kindOk k
  · rw [a] at e2
    simp only [Bool.false_eq_true, if_false] at e2 ⊢
    rw [← e2]
    exact ⟨rfl, .inr (.inr rfl)⟩
  · rw [a] at e2
    simp only [if_true] at e2 ⊢
    have hm : ¬ mayP (fldK k) c 0 = 0 := fun q => h ⟨(kindOk_iff k).1 a, q⟩
    rw [if_neg hm, ← e2]
    refine ⟨rfl, ?_⟩
    rcases may_err hm with q | q
    · exact .inl q
    · exact .inr (.inl q)
set_option maxRecDepth 100000 in
set_option maxHeartbeats 1600000 in
theorem rrun_any (k : Int) (cv : Value) (c : List Int) (v : Value) (cl : List (Int × List Int)) (w : World) (hC : ILst w cv c) (hV : CLst w v cl) (hN : cl.length ≤ 35184372088832) :
    Calls Tryd.prog 17 #[.int .i64 k, cv, v] w fun e w' => RunQ (runA k c cl) (fldK k).length e w' ∧ Below w.heap.size w w' := by
  by_cases h : (1 ≤ k ∧ k ≤ 10) ∧ mayP (fldK k) c 0 = 0
  · rw [runA_ok h.1 h.2]
    exact rrun_ok k h.1 cv c v cl w hC hV hN h.2
  · obtain ⟨e, hr⟩ := runA_no (cl := cl) h
    rw [e]
    have m1 := rcheck_any k cv c w hC
    obtain ⟨va, vb, voff, vcap, rfl, -, -⟩ := hV
    clear hC e h hN
    generalize chkE k c = E at *
    rcases hr with rfl | rfl | rfl
    all_goals
      go_enter Tryd.func17, Tryd.ntmps17
      go_wp2_with (first | (go_at_call 23; refine m1.mono ?_; rintro e w1 ⟨rfl, b1⟩; have B1 := hide b1; clear b1))
      go_ret2
      exact ⟨.inr ⟨by decide, rfl, rfl⟩, B1.out⟩
end Go.Proofs.YthifgfhgkdjkfaaDoor
namespace Go.Proofs.YthifgfhgkdjkfaaDoor
theorem tkH {P : Program} {ops : Array Oper} {Q : Exit → Act → World → Prop} {md : Region.Mode} {S : World → Prop} (i : Nat) {d : Option Tmp} {o : Op} {t : TypeId} {p : String} {f : Array Edge} {fuel : Nat} {listed : Array Bool} {a : Act} {w : World} (v : Value) (hS : S w)
    (h : wpAnyH P md ops Q S fuel (listed.setIfInBounds i true) (a.put d v) w) (hi : ops[i]? = some ⟨d, o, t, p, f, none⟩ := by rfl) (hs : Region.noSelect ops = true := by kernel_rfl) (hf : Region.free md ops listed i = true := by kernel_rfl)
    (hr : (Region.ready md ops listed).contains i = true := by kernel_rfl) (hQ : ∀ c a w, Q (.panic c) (a.put d v) w → Q (.panic c) a w := by exact fun _ _ _ h => h) (hy : YieldsIf P ops S ⟨d, o, t, p, f, none⟩ v a := by exact Or.inl ⟨by rfl, fun W hW => by ((try dsimp only at hW); go_simp)⟩) :
    wpAnyH P md ops Q S (fuel + 1) listed a w := wpAnyH_take hi hs hf hr hQ hy hS h
theorem rdH {P : Program} {ops : Array Oper} {Q : Exit → Act → World → Prop} {md : Region.Mode} {S : World → Prop} (i : Nat) {d : Option Tmp} {o : Op} {t : TypeId} {p : String} {f : Array Edge} {fuel : Nat} {listed : Array Bool} {a : Act} {w : World}
    (h : ∀ K' : Act → World → Prop, Shut (∀ a w, S w → (S w → wpAnyH P md ops Q S fuel (listed.setIfInBounds i true) a w) → K' a w) → if Region.wanted (⟨d, o, t, p, f, none⟩ : Oper) (yielded ops a.tmps) = true then Oper.wp P ⟨d, o, t, p, f, none⟩ a w K' Q else K' (a.put d undef) w)
    (hi : ops[i]? = some ⟨d, o, t, p, f, none⟩ := by rfl) (hr : Region.ready md ops listed = [i] := by kernel_rfl) : wpAnyH P md ops Q S (fuel + 1) listed a w :=
  wpAnyH_ready hr (by simp) (AllReadyH.cons hi h AllReadyH.nil)
end Go.Proofs.YthifgfhgkdjkfaaDoor
namespace Go.Proofs.YthifgfhgkdjkfaaDoor
open Go.RowKit
/-- the cells of calls, whose slices are these -/
def rowC : List (Int × List Int) → List Value → List Value
  | q :: cl, sv :: svs => .int .i64 q.1 :: sv :: rowC cl svs
  | _, _ => []
theorem rowC_next : ∀ {cl : List (Int × List Int)} {svs : List Value} {j : Nat} {q : Int × List Int} {sv : Value}, cl[j]? = some q → svs[j]? = some sv → rowC (cl.take (j + 1)) (svs.take (j + 1)) = rowC (cl.take j) (svs.take j) ++ [.int .i64 q.1, sv]
  | [], _, _, _, _, h, _ => by cases h
  | _ :: _, [], _, _, _, _, h => by cases h
  | c :: cl, s :: svs, 0, q, sv, h, h2 => by
    obtain rfl := Option.some.inj h
    obtain rfl := Option.some.inj h2
    simp [rowC]
  | c :: cl, s :: svs, j + 1, q, sv, h, h2 => by
    rw [List.take_succ_cons, List.take_succ_cons, List.take_succ_cons, List.take_succ_cons, rowC, rowC, rowC_next (cl := cl) (svs := svs) (j := j) h h2]
    rfl
theorem rowC_get : ∀ {cl : List (Int × List Int)} {svs : List Value} {j : Nat} {q : Int × List Int} {sv : Value}, cl[j]? = some q → svs[j]? = some sv → (rowC cl svs)[j * 2]? = some (.int .i64 q.1) ∧ (rowC cl svs)[j * 2 + 1]? = some sv
  | [], _, _, _, _, h, _ => by cases h
  | _ :: _, [], _, _, _, _, h => by cases h
  | c :: cl, s :: svs, 0, q, sv, h, h2 => by
    obtain rfl := Option.some.inj h
    obtain rfl := Option.some.inj h2
    exact ⟨rfl, rfl⟩
  | c :: cl, s :: svs, j + 1, q, sv, h, h2 => by
    have ih := rowC_get (cl := cl) (svs := svs) (j := j) h h2
    rw [rowC, show (j + 1) * 2 = j * 2 + 1 + 1 by omega]
    exact ih
/-- the slices that calls hold -/
theorem CLst.slices {w : World} {v : Value} {cl : List (Int × List Int)} (h : CLst w v cl) : ∃ (svs : List Value) (a : Option Addr) (b off cap : Nat), v = .slice a cl.length cap ∧ svs.length = cl.length ∧ (0 < cl.length → b < w.heap.size ∧ a = some ⟨b, off, none⟩) ∧
    ∀ (i : Nat) (q : Int × List Int), cl[i]? = some q → ∃ sv, svs[i]? = some sv ∧ w.cell? ⟨b, off + i * 2, none⟩ = some (.int .i64 q.1) ∧ w.cell? ⟨b, off + i * 2 + 1, none⟩ = some sv ∧ ILst w sv q.2 := by
  obtain ⟨a, b, off, cap, rfl, hA, hC⟩ := h
  refine ⟨(List.range cl.length).map fun i => (w.cell? ⟨b, off + i * 2 + 1, none⟩).getD (.bool false), a, b, off, cap, rfl, by simp, hA, fun i q hq => ?_⟩
  obtain ⟨h1, sv, h2, h3⟩ := hC i q hq
  refine ⟨sv, ?_, h1, h2, h3⟩
  have hi : i < cl.length := (List.getElem?_eq_some_iff.1 hq).1
  rw [List.getElem?_map, List.getElem?_range hi, Option.map_some, h2]; rfl
theorem CLst.of_owns {w : World} {base : Nat} {v : Value} {cl : List (Int × List Int)} {svs : List Value} (h : w.ownsRow base 35 2 v cl.length (rowC cl svs)) (hs : ∀ (i : Nat) (q : Int × List Int), cl[i]? = some q → ∃ sv, svs[i]? = some sv ∧ ILst w sv q.2) : CLst w v cl := by
  rcases h.2 with ⟨hv, h0⟩ | ⟨g, cap, cur, hv, hb, hg, hn, hm, hc, ht⟩
  · obtain rfl := List.eq_nil_of_length_eq_zero h0
    subst hv
    exact ⟨none, 0, 0, 0, rfl, fun h => absurd h (Nat.lt_irrefl 0), fun i q hq => by cases hq⟩
  · subst hv
    refine ⟨_, g, 0, cap, rfl, fun _ => ⟨(Array.getElem?_eq_some_iff.1 hg).1, rfl⟩, fun i q hq => ?_⟩
    have hi : i < cl.length := (List.getElem?_eq_some_iff.1 hq).1
    obtain ⟨sv, h1, h2⟩ := hs i q hq
    obtain ⟨g1, g2⟩ := rowC_get hq h1
    rw [Nat.zero_add]
    exact ⟨(h.cellAt (i * 2) (by omega)).trans g1, sv, (h.cellAt (i * 2 + 1) (by omega)).trans g2, h2⟩
end Go.Proofs.YthifgfhgkdjkfaaDoor
