/- The document's cells. | The contracts of the document's Word, keywords and Name. | The contracts of the document's keywords and Name. -/
import Derived.Test.YtmbgcpmapaedcaaGreatDoorMg36
import Derived.Test.YtmbgcpmapaedcaaGreatDoorMg24
import Derived.Test.YtmbgcpmapaedcaaGreatDoorMg2
namespace Go.Proofs.YtmbgcpmapaedcaaGreatDoor
open Go.RowKit
theorem drw_add (w : World) (a b : Nat) : (w.drewN a).drewN b = w.drewN (a + b) := by simp only [World.drewN, Nat.add_assoc]
theorem wp_app {P : Program} {o : Oper} {a : Act} {w : World} {K : Act → World → Prop} {Q : Exit → Act → World → Prop} (s x : Operand) (t : TypeId) (ho : o.op = .call { callee := .builtin .append, args := #[s, x], argTypes := #[t, t] }) (v u v' : Value) (w' : World) (hs : a.eval s = v) (hx : a.eval x = u)
    (hr : (Builtin.append_ #[t, t] o.type #[v, u]).run P w = .ok v' w') (h : K (a.put o.dst v') w') : o.wp P a w K Q := by
  unfold Oper.wp execOp
  simp only [ho, resolve, invoke, builtin, Sem.run_bind, Sem.run_pure, Result.andThen_ok, List.map_toArray, List.map_cons, List.map_nil, hs, hx, hr]
  exact h
set_option maxRecDepth 100000 in
set_option maxHeartbeats 3200000 in
theorem cells13_any (nm tv fv iv ov cv : Value) (ty ins outs : List Int) (w : World) (hT : ILst w tv ty) (hn : ty.length ≤ 1024) (hIn : ILst w iv ins) (hOut : ILst w ov outs) (hlen : ins.length + outs.length ≤ 20000000000000) : Calls Tryz.prog 19 #[.agg #[nm, tv, fv, iv, ov, cv]] w fun e w' => e = .returned (.bool (lineB ty.length [] (ins ++ outs))) ∧ Below w.heap.size w w' := by
  obtain ⟨w0, hw0⟩ : ∃ w0, w0 = (w.alloc (.cells #[nm, tv, fv, iv, ov, cv] 26)).drew := ⟨_, rfl⟩
  have B0 : Hid (Below w.heap.size w w0) := by rw [hw0]; exact ((Below.refl _ _).alloc (Nat.le_refl _) _).drew
  have X0 : Hid (w0.heap[w.heap.size]? = some (.cells #[nm, tv, fv, iv, ov, cv] 26 (0, 0))) := by
    show _ = _
    rw [hw0]; exact heap_alloc_new w _
  have z0 : w0.heap.size = w.heap.size + 1 := by rw [hw0]; show (w.alloc _).heap.size = _; simp
  have IN := hide (hIn.on B0.out)
  have OU := hide (hOut.on B0.out)
  obtain ⟨ia, ic, rfl⟩ := hIn.shape
  obtain ⟨oa, oc, rfl⟩ := hOut.shape
  obtain ⟨ta, tc, rfl⟩ := hT.shape
  have hSS : w0.cell? ⟨w.heap.size, 3, none⟩ = some (.slice ia ins.length ic) ∧ w0.cell? ⟨w.heap.size, 4, none⟩ = some (.slice oa outs.length oc) := ⟨(Lib.cell_of_heap (j := 3) X0.out).trans rfl, (Lib.cell_of_heap (j := 4) X0.out).trans rfl⟩
  have HS : Hid (∀ W, Below w0.heap.size w0 W → W.cell? ⟨w.heap.size, 3, none⟩ = some (.slice ia ins.length ic) ∧ W.cell? ⟨w.heap.size, 4, none⟩ = some (.slice oa outs.length oc)) := fun W hb =>
    ⟨(hb.cell (p := ⟨w.heap.size, 3, none⟩) (by show w.heap.size < _; omega)).trans hSS.1, (hb.cell (p := ⟨w.heap.size, 4, none⟩) (by show w.heap.size < _; omega)).trans hSS.2⟩
  have sz1 : w.heap.size + 1 ≤ w0.heap.size := by omega
  have HW := hide hw0
  obtain ⟨n1, hn1⟩ : ∃ n, n = ins.length := ⟨_, rfl⟩
  obtain ⟨n2, hn2⟩ : ∃ n, n = outs.length := ⟨_, rfl⟩
  rw [← hn1, ← hn2] at hSS HS hlen HW
  rw [← hn1] at IN ⊢
  rw [← hn2] at OU ⊢
  have HN1 := hide hn1
  have HN2 := hide hn2
  clear hw0 hT hIn hOut hn1 hn2 z0
  go_enter Tryz.func19, Tryz.ntmps19
  go_wp2_with fail
  refine region_L (S := fun W => W.cell? ⟨w.heap.size, 3, none⟩ = some (.slice ia n1 ic) ∧ W.cell? ⟨w.heap.size, 4, none⟩ = some (.slice oa n2 oc)) (L := 7) (by kernel_rfl) ?_
  rw [← HW.out]
  refine tkL 1 (.pointer (some ⟨w.heap.size, 3, none⟩)) hSS ?_
  refine tkL 2 (.slice ia n1 ic) hSS ?_
  refine tkL 4 (.pointer (some ⟨w.heap.size, 4, none⟩)) hSS ?_
  refine tkL 5 (.slice oa n2 oc) hSS ?_
  try simp only [Act.put, List.setIfInBounds_toArray, List.set_cons_zero, List.set_cons_succ]
  refine rdL 0 (fun K hK => ?_)
  go_simp
  have b1 : Below w0.heap.size w0 (w0.alloc (.cells #[] 3)) := (Below.refl _ _).alloc (Nat.le_refl _) _
  refine hK.out _ _ (fun _ => HS.out _ b1) ?_
  clear hK K
  have own0 : (w0.alloc (.cells #[] 3)).ownsRow w0.heap.size 3 1 (.slice (some ⟨w0.heap.size, 0, none⟩) 0 0) 0 [] := World.ownsRow_lit (e := 3) (size := 1) w0 #[] 0 (Nat.le_refl _) (by decide) rfl
  obtain ⟨v1, w1, hr1, ho1, hg1⟩ := run_append_ints (w0.alloc (.cells #[] 3)) w0.heap.size 22 0 _ [] own0 (.slice ia n1 ic) ins (IN.out.on b1) (by rw [← HN1.out]; omega) (by simp)
  have b2 : Below w0.heap.size w0 w1 := b1.grown hg1 (by simp) (fun k hk => (own0.lt k hk).1)
  try simp only [Act.put, List.setIfInBounds_toArray, List.set_cons_zero, List.set_cons_succ]
  refine rdL 3 (fun K hK => ?_)
  refine wp_app _ _ 22 rfl _ _ v1 w1 (by rfl) (by rfl) hr1 ?_
  refine hK.out _ _ (fun _ => HS.out _ b2) ?_
  clear hK K
  rw [Nat.zero_add] at ho1
  obtain ⟨v2, w2, hr2, ho2, hg2⟩ := run_append_ints w1 w0.heap.size 22 _ _ _ ho1 (.slice oa n2 oc) outs (OU.out.on b2) (by rw [← HN1.out, ← HN2.out]; omega) b2.size
  have b3 : Below w0.heap.size w0 w2 := b2.grown hg2 b2.size (fun k hk => (ho1.lt k hk).1)
  try simp only [Act.put, List.setIfInBounds_toArray, List.set_cons_zero, List.set_cons_succ]
  refine rdL 6 (fun K hK => ?_)
  refine wp_app _ _ 22 rfl _ _ v2 w2 (by rfl) (by rfl) hr2 ?_
  refine hK.out _ _ (fun _ => HS.out _ b3) ?_
  clear hK K
  try simp only [Act.put, List.setIfInBounds_toArray, List.set_cons_zero, List.set_cons_succ]
  refine rdL 7 (fun K hK => ?_)
  go_simp
  refine hK.out _ _ (fun h => absurd rfl h) ?_
  clear hK K
  try simp only [Act.put, List.setIfInBounds_toArray, List.set_cons_zero, List.set_cons_succ]
  refine doneL ?_
  have hL2 : ILst w2 v2 (ins ++ outs) := ILst.of_owns (base := w0.heap.size) (by
    rw [List.length_append, intC_append]; exact ho2)
  have hm : (ins ++ outs).length = n1 + n2 := by rw [List.length_append, ← HN1.out, ← HN2.out]
  obtain ⟨M, hM⟩ : ∃ M, M = (ins ++ outs).length := ⟨_, rfl⟩
  have hM9 : M ≤ 20000000000000 := by omega
  obtain ⟨l, hl⟩ : ∃ l, l = ins ++ outs := ⟨_, rfl⟩
  have HR : Hid (∀ b, lineB ty.length [] l = b → lineB ty.length [] (ins ++ outs) = b) := fun b h => by rw [← hl]; exact h
  rw [← hl] at hL2 hM
  obtain ⟨va, vb, voff, vc, rfl, hvA, hvI⟩ := hL2
  rw [← hM]
  have c1 : w2.cell? ⟨w.heap.size, 1, none⟩ = some (.slice ta ty.length tc) := (b3.cell (p := ⟨w.heap.size, 1, none⟩) (by show w.heap.size < _; omega)).trans ((Lib.cell_of_heap (j := 1) X0.out).trans rfl)
  have BW : Hid (∀ d, Below w.heap.size w (w2.drewN d)) := fun d => below_drewN (B0.out.trans (b3.mono (by omega))) d
  obtain ⟨N, hN⟩ : ∃ N, N = ty.length := ⟨_, rfl⟩
  have HNN := hide hN
  rw [← hN] at c1 hn HR ⊢
  have HV := hide hvI
  have HM := hide hM
  clear hvI hl hm ho1 ho2 hg1 hg2 hr1 hr2 own0 b1 b2 b3 hSS HS IN OU X0 hM hN
  have N1 : (N : Int) ≤ 1024 := by omega
  by_cases hbig : N < M
  · have HE : Hid (lineB N [] l = false) := by
      show _ = _
      cases hb : lineB N [] l with
      | false => rfl
      | true => have := line_len hb; rw [← HM.out] at this; omega
    have j1 : (N : Int) < (M : Int) := by omega
    go_wp2
    go_ret
    exact ⟨ret_b (by rw [← HNN.out]; exact (HR.out _ HE.out).symm), BW.out 0⟩
  · have j1 : ¬ (N : Int) < (M : Int) := by omega
    have hM3 : M ≤ 1024 := by omega
    have M0 : (0 : Int) ≤ (M : Int) := by omega
    have HVA : Hid (0 < M → va = some ⟨vb, voff, none⟩) := fun h => (hvA (by rw [← HM.out]; exact h)).2
    obtain ⟨va', hva'⟩ : ∃ va' : Option Addr, va' = (if 0 < M then some ⟨vb, voff, none⟩ else va) := ⟨_, rfl⟩
    have hveq : va = va' := by
      rw [hva']; split
      · rename_i h; exact HVA.out h
      · rfl
    rw [hveq]
    have HVB : Hid (0 < M → va' = some ⟨vb, voff, none⟩) := fun h => by rw [← hveq]; exact HVA.out h
    clear hva' hveq HVA hvA
    by_cases hM0 : M = 0
    · have HE : Hid (lineB N [] l = true) := by
        show _ = _
        rw [show l = [] from List.eq_nil_of_length_eq_zero (by rw [← HM.out]; exact hM0)]; rfl
      subst hM0
      go_wp2_with fail
      go_loopw [4, 5] (fun i _ wr => i = .int .i64 0 ∧ Hid (wr = w2)) (fun _ _ _ => 0)
      case atStart => exact ⟨rfl, rfl⟩
      case round =>
        obtain ⟨rfl, hh⟩ := hrel
        obtain rfl := hh.out
        go_wp2
        go_ret
        exact ⟨ret_b (by rw [← HNN.out]; exact (HR.out _ HE.out).symm), BW.out 0⟩
    · obtain rfl := HVB.out (by omega)
      clear HVB
      go_wp2_with fail
      go_loopw [4, 5] (fun i _ wr => ∃ k : Nat, k ≤ M ∧ i = .int .i64 (k : Int) ∧ Hid (lnP N l k ∧ ∃ d, wr = w2.drewN d)) (fun i _ _ => M - (intOf i).toNat)
      case atStart => exact ⟨0, by omega, rfl, fun i hi => absurd hi (Nat.not_lt_zero _), 0, rfl⟩
      case round =>
        obtain ⟨k, hk, rfl, hh⟩ := hrel
        obtain ⟨ha, d, rfl⟩ := hh.out
        have HA := hide ha
        clear hh ha
        have k0 : (0 : Int) ≤ (k : Int) := by omega
        by_cases hlt : k < M
        · have j2 : (k : Int) < (M : Int) := by omega
          obtain ⟨x, hx⟩ : ∃ x, l[k]? = some x := ⟨_, List.getElem?_eq_getElem (by rw [← HM.out]; exact hlt)⟩
          have cx := HV.out k x hx
          have HX := hide hx
          have bad : Hid (¬ (0 ≤ x ∧ x < (N : Int)) → lineB N [] l = false) := fun h => line_false fun hl => by
            obtain ⟨y, hy, g0, g1, -⟩ := hl k (by rw [← HM.out]; exact hlt)
            rw [hx] at hy
            obtain rfl := Option.some.inj hy
            exact h ⟨g0, g1⟩
          clear hx
          by_cases x0 : x < 0
          · have HE := hide (bad.out (by omega))
            have e1 : decide (x < 0) = true := decide_eq_true x0
            go_wp2_with fail
            go_quiet (fail)
            go_wp2
            go_ret
            exact ⟨ret_b (by rw [← HNN.out]; exact (HR.out _ HE.out).symm), below_drewN (BW.out _) _⟩
          · have e1 : decide (x < 0) = false := decide_eq_false x0
            by_cases x1 : (N : Int) ≤ x
            · have HE := hide (bad.out (by omega))
              have e2 : decide ((N : Int) ≤ x) = true := decide_eq_true x1
              go_wp2_with fail
              go_quiet (fail)
              go_wp2
              go_ret
              exact ⟨ret_b (by rw [← HNN.out]; exact (HR.out _ HE.out).symm), below_drewN (BW.out _) _⟩
            · have e2 : decide ((N : Int) ≤ x) = false := decide_eq_false x1
              go_wp2_with fail
              go_quiet (fail)
              go_wp2_with fail
              go_loopw [5] (fun j wr => ∃ q : Nat, q ≤ k ∧ j = .int .i64 (q : Int) ∧ Hid ((∀ j', j' < q → l[j']? ≠ some x) ∧ ∃ d, wr = w2.drewN d)) (fun j _ => k - (intOf j).toNat)
              case atStart => exact ⟨0, by omega, rfl, fun j hj => absurd hj (Nat.not_lt_zero _), _, drw_add _ _ _⟩
              case round =>
                obtain ⟨q, hq, rfl, hh⟩ := hrel
                obtain ⟨hb, d, rfl⟩ := hh.out
                have HBB := hide hb
                clear hh hb
                have q0 : (0 : Int) ≤ (q : Int) := by omega
                by_cases hql : q < k
                · have j3 : (q : Int) < (k : Int) := by omega
                  have j4 : (q : Int) < (M : Int) := by omega
                  obtain ⟨y, hy⟩ : ∃ y, l[q]? = some y := ⟨_, List.getElem?_eq_getElem (by rw [← HM.out]; omega)⟩
                  have cy := HV.out q y hy
                  have HY := hide hy
                  clear hy
                  by_cases hyx : y = x
                  · have HE : Hid (lineB N [] l = false) := line_false fun hl => by
                      obtain ⟨z, hz, -, -, g⟩ := hl k (by rw [← HM.out]; exact hlt)
                      rw [HX.out] at hz
                      obtain rfl := Option.some.inj hz
                      exact g q hql (by rw [HY.out, hyx])
                    have eb : (y == x) = true := by simpa using hyx
                    subst hyx
                    go_wp2_with fail
                    go_quiet (fail)
                    go_wp2
                    go_ret
                    exact ⟨ret_b (by rw [← HNN.out]; exact (HR.out _ HE.out).symm), below_drewN (BW.out _) _⟩
                  · have eb : (y == x) = false := by simpa using hyx
                    have HNX : Hid (∀ j', j' < q + 1 → l[j']? ≠ some x) := fun j' hj' => by
                      by_cases e : j' = q
                      · subst e; rw [HY.out]; intro h; exact hyx (Option.some.inj h)
                      · exact HBB.out j' (by omega)
                    go_wp2_with fail
                    go_quiet (fail)
                    go_wp2
                    go_roundw
                    case rel => exact ⟨q + 1, by omega, by go_num, HNX.out, _, rfl⟩
                    case measure => simp [intOf]; omega
                · obtain rfl : q = k := by omega
                  have HL := hide (lnP_next HA.out HX.out (by omega) (by omega) HBB.out)
                  go_wp2
                  go_roundw
                  case rel => exact ⟨q + 1, by omega, by go_num, HL.out, _, rfl⟩
                  case measure => simp [intOf]; omega
        · obtain rfl : k = M := by omega
          have HE : Hid (lineB N [] l = true) := (line_lnP N l).2 (by rw [← HM.out]; exact HA.out)
          go_wp2
          go_ret
          exact ⟨ret_b (by rw [← HNN.out]; exact (HR.out _ HE.out).symm), BW.out _⟩
end Go.Proofs.YtmbgcpmapaedcaaGreatDoor
namespace Go.Proofs.YtmbgcpmapaedcaaGreatDoor.Ex
open Go.RowKit
set_option maxRecDepth 100000 in
set_option maxHeartbeats 1600000 in
theorem qWord_any (s : Bs) (w : World) : Calls Tryz.prog 42 #[.string ⟨s.toArray⟩] w fun e w' => e = .returned (.bool (wordB s)) ∧ w' = w := by
  match s with
  | [] =>
    go_enter Tryz.func42, Tryz.ntmps42
    go_wp2
    go_ret
    exact ⟨rfl, rfl⟩
  | c :: r =>
    have e2 : (⟨(c :: r).toArray⟩ : ByteArray).toList.isEmpty = false := by rw [nil_text]; rfl
    have hsz := list_size (c :: r)
    have HW : Hid (wordB (c :: r) = (decide (r.length + 1 ≤ 24) && (!isDig c && (c :: r).all capC))) := rfl
    have HX : Hid (∀ (i : Nat) (h : i < (c :: r).length), ∀ W : World, (Instr.index 9 (.string ⟨(c :: r).toArray⟩) (.int .i64 (i : Int))).run Tryz.prog W = .ok (.int .u8 ((c :: r)[i].toNat : Int)) W) := fun i h W => run_idx ⟨(c :: r).toArray⟩ i (c :: r)[i] (List.getElem?_eq_getElem h) W
    have x0 := HX.out 0 (by simp)
    simp only [List.getElem_cons_zero] at x0
    have x0' : ∀ W : World, (Instr.index 9 (.string ⟨(c :: r).toArray⟩) (.int .i64 0)).run Tryz.prog W = .ok (.int .u8 (c.toNat : Int)) W := x0
    have HD := hide (dig_int c)
    clear x0
    by_cases hl : 24 < (c :: r).length
    · have i1 : (24 : Int) < ((⟨(c :: r).toArray⟩ : ByteArray).size : Int) := by omega
      have HE : Hid (wordB (c :: r) = false) := by
        show _ = _
        rw [HW.out, decide_eq_false (by simp at hl; omega)]; rfl
      generalize (⟨(c :: r).toArray⟩ : ByteArray) = S at *
      clear hsz HX x0' hl
      go_enter Tryz.func42, Tryz.ntmps42
      go_wp2
      go_ret
      exact ⟨ret_bool HE.out.symm, rfl⟩
    · have i1 : ¬ (24 : Int) < ((⟨(c :: r).toArray⟩ : ByteArray).size : Int) := by omega
      have HT : Hid (decide (r.length + 1 ≤ 24) = true) := decide_eq_true (by simp at hl; omega)
      obtain ⟨N, hN⟩ : ∃ N, N = (c :: r).length := ⟨_, rfl⟩
      have HN := hide hN
      rw [← hN] at hsz hl
      have n1 : (N : Int) ≤ 24 := by omega
      generalize (⟨(c :: r).toArray⟩ : ByteArray) = S at *
      have HSZ := hide hsz
      obtain ⟨y, hy⟩ : ∃ y : Int, y = (c.toNat : Int) := ⟨_, rfl⟩
      rw [← hy] at x0' HD
      clear hy
      have KL : Hid (isDig c = false → ∀ (w1 : World), w1 = w → True) := fun _ _ _ => trivial
      cases hd : isDig c with
      | true =>
        have hh : (48 ≤ y) ∧ (y ≤ 57) := by
          have h := HD.out; rw [hd] at h; have h2 := h.symm; simpa using h2
        obtain ⟨ya, yb⟩ := hh
        have HE : Hid (wordB (c :: r) = false) := by
          show _ = _
          rw [HW.out, hd]; simp
        clear hsz HX hl hN HD
        go_enter Tryz.func42, Tryz.ntmps42
        go_wp2
        go_ret
        exact ⟨ret_bool HE.out.symm, rfl⟩
      | false =>
        have hh : ¬ ((48 ≤ y) ∧ (y ≤ 57)) := by
          have h := HD.out; rw [hd] at h; have h2 := h.symm; simpa using h2
        have HE : Hid (wordB (c :: r) = (c :: r).all capC) := by
          show _ = _
          rw [HW.out, HT.out, hd]; simp
        have hsz2 : (S.size : Int) = (N : Int) := by omega
        clear hl hN hsz HW HT HD KL
        have BODY : ∀ (v4 : Value), True := fun _ => trivial
        clear BODY
        by_cases ya : 48 ≤ y
        all_goals
          try have yb : ¬ y ≤ 57 := fun h => hh ⟨ya, h⟩
          clear hh
          go_enter Tryz.func42, Tryz.ntmps42
          go_wp2_with fail
          clear x0'
          go_loopw [3, 4] (fun i _ wr => ∃ k : Nat, k ≤ N ∧ i = .int .i64 (k : Int) ∧ Hid (((c :: r).take k).all capC = true ∧ wr = w)) (fun i _ _ => N - (intOf i).toNat)
          case atStart => exact ⟨0, by omega, rfl, rfl, rfl⟩
          case round =>
            obtain ⟨k, hk, rfl, hh⟩ := hrel
            obtain ⟨ha, hw⟩ := hh.out
            subst hw
            have HA := hide ha
            by_cases hlt : k < N
            · have j1 : (k : Int) < (N : Int) := by omega
              have hki : k < (c :: r).length := by rw [← HN.out]; exact hlt
              have xi := HX.out k hki
              obtain ⟨b, hb⟩ : ∃ b, b = (c :: r)[k] := ⟨_, rfl⟩
              rw [← hb] at xi
              have HS : Hid (capC b = true → ((c :: r).take (k + 1)).all capC = true) := fun h => by
                rw [List.take_add_one, List.all_append, HA.out, List.getElem?_eq_getElem hki, ← hb]
                simp [h]
              have HF : Hid (capC b = false → (c :: r).all capC = false) := fun h => by
                rw [List.all_eq_false]
                exact ⟨b, by rw [hb]; exact List.getElem_mem hki, by rw [h]; decide⟩
              have HC : Hid (capC b = ((((decide ((65 : Int) ≤ (b.toNat : Int)) && decide ((b.toNat : Int) ≤ 90)) || decide ((b.toNat : Int) = 95))) || (decide ((48 : Int) ≤ (b.toNat : Int)) && decide ((b.toNat : Int) ≤ 57)))) := by
                show _ = _
                rw [capC_eq, cap_int, dig_int]
              obtain ⟨z, hz⟩ : ∃ z : Int, z = (b.toNat : Int) := ⟨_, rfl⟩
              rw [← hz] at xi HC
              clear hb hki ha hh hz
              by_cases z1 : 65 ≤ z
              · by_cases z2 : z ≤ 90
                · have HR := hide (HS.out (by rw [HC.out]; simp [z1, z2]))
                  clear HS HF HC
                  go_wp2
                  go_roundw
                  case rel => exact ⟨k + 1, by omega, by go_num, HR.out, by trivial⟩
                  case measure => simp [intOf]; omega
                · have z3 : 48 ≤ z := by omega
                  have z4 : ¬ z ≤ 57 := by omega
                  by_cases z5 : z = 95
                  · have HR := hide (HS.out (by rw [HC.out]; simp [z5]))
                    subst z5
                    clear HS HF HC
                    go_wp2
                    go_roundw
                    case rel => exact ⟨k + 1, by omega, by go_num, HR.out, by trivial⟩
                    case measure => simp [intOf]; omega
                  · have z6 : (z == 95) = false := by rw [beq_eq_false_iff_ne]; exact z5
                    have HR := hide (HF.out (by rw [HC.out]; simp [z2, z4, z5]))
                    clear HS HF HC
                    go_wp2
                    go_ret
                    exact ⟨ret_bool (by rw [HE.out, HR.out]), rfl⟩
              · have z6 : (z == 95) = false := by rw [beq_eq_false_iff_ne]; omega
                have z7 : ¬ z = 95 := by omega
                by_cases z3 : 48 ≤ z
                · by_cases z4 : z ≤ 57
                  · have HR := hide (HS.out (by rw [HC.out]; simp [z3, z4]))
                    clear HS HF HC
                    go_wp2
                    go_roundw
                    case rel => exact ⟨k + 1, by omega, by go_num, HR.out, by trivial⟩
                    case measure => simp [intOf]; omega
                  · have HR := hide (HF.out (by rw [HC.out]; simp [z1, z4, z7]))
                    clear HS HF HC
                    go_wp2
                    go_ret
                    exact ⟨ret_bool (by rw [HE.out, HR.out]), rfl⟩
                · have HR := hide (HF.out (by rw [HC.out]; simp [z1, z3, z7]))
                  clear HS HF HC
                  go_wp2
                  go_ret
                  exact ⟨ret_bool (by rw [HE.out, HR.out]), rfl⟩
            · obtain rfl : k = N := by omega
              have HT2 : Hid ((c :: r).all capC = true) := by
                have h := HA.out
                rw [List.take_of_length_le (by rw [← HN.out]; exact Nat.le_refl _)] at h
                exact h
              clear hh ha HA
              go_wp2
              go_ret
              exact ⟨ret_bool (by rw [HE.out, HT2.out]), rfl⟩
end Go.Proofs.YtmbgcpmapaedcaaGreatDoor.Ex
namespace Go.Proofs.YtmbgcpmapaedcaaGreatDoor.Ex
open Go.RowKit
def kwObj : Obj := .cells kwTab.toArray 9
set_option maxRecDepth 100000 in
theorem qkeys_any (w : World) : Calls Tryz.prog 41 #[] w fun e w' => e = .returned (.slice (some ⟨w.heap.size, 0, none⟩) 51 51) ∧ w' = w.alloc kwObj := by
  go_enter Tryz.func41, Tryz.ntmps41
  go_wp2
  go_ret
  exact ⟨rfl, rfl⟩
theorem kw_cell (w : World) (i : Nat) (hi : i < 51) : (w.alloc kwObj).cell? ⟨w.heap.size, i, none⟩ = some (.string ⟨(kwB[i]'hi).toArray⟩) := by
  have e : kwTab.toArray[i]? = some (.string ⟨(kwB[i]'hi).toArray⟩) := by
    rw [List.getElem?_toArray, kwTab, List.getElem?_map, List.getElem?_eq_getElem (show i < kwB.length from hi)]; rfl
  simp [kwObj]
  rw [← List.getElem?_toArray]; exact e
set_option maxRecDepth 100000 in
set_option maxHeartbeats 1600000 in
theorem qName_any (s : Bs) (w : World) : Calls Tryz.prog 18 #[.string ⟨s.toArray⟩] w fun e w' => e = .returned (.bool (nameB s)) ∧ Below w.heap.size w w' := by
  have HN : Hid (nameB s = (!(kwB.contains s) && wordB s)) := rfl
  have c0 := qkeys_any w
  have c1 := fun W => qWord_any s W
  obtain ⟨S, hS⟩ : ∃ S : ByteArray, S = ⟨s.toArray⟩ := ⟨_, rfl⟩
  rw [← hS] at c1 ⊢
  have HS := hide hS
  clear hS
  go_enter Tryz.func18, Tryz.ntmps18
  go_wp2_with fail
  refine c0.mono ?_
  rintro e w1 ⟨rfl, hw1⟩
  have HB : Hid (Below w.heap.size w w1) := by show Below _ _ _; rw [hw1]; exact (Below.refl _ _).alloc (Nat.le_refl _) _
  have ix : Hid (∀ (k : Nat) (h : k < 51), w1.cell? ⟨w.heap.size, k, none⟩ = some (.string ⟨(kwB[k]'h).toArray⟩)) := by
    intro k h; rw [hw1]; exact kw_cell w k h
  clear hw1 c0
  generalize w.heap.size = B at ix ⊢
  go_wp2_with fail
  go_loop [4] (fun i => ∃ k : Nat, k ≤ 51 ∧ i = .int .i64 (k : Int) ∧ Hid ((kwB.take k).contains s = false)) (fun i => 51 - (intOf i).toNat)
  case atStart => exact ⟨0, by omega, rfl, rfl⟩
  case round =>
    obtain ⟨k, hk, rfl, hf⟩ := hrel
    by_cases hlt : k < 51
    · have x0 := ix.out k hlt
      have i1 : (k : Int) < 51 := by omega
      obtain ⟨g, hgk⟩ : ∃ g, g = kwB[k]'hlt := ⟨_, rfl⟩
      rw [← hgk] at x0
      have bt := beq_text ⟨g.toArray⟩ S
      have HM : Hid (g ∈ kwB) := by rw [hgk]; exact List.getElem_mem _
      have HTK : Hid (kwB.take (k + 1) = kwB.take k ++ [g]) := by
        show _ = _
        rw [List.take_add_one, List.getElem?_eq_getElem (show k < kwB.length from hlt), hgk]; rfl
      obtain ⟨u, HU⟩ : ∃ u : ByteArray, Hid ((⟨g.toArray⟩ : ByteArray) = u) := ⟨_, rfl⟩
      rw [HU.out] at x0 bt
      clear hgk ix
      by_cases he : u = S
      · have hb : (u.toList == S.toList) = true := by rw [bt]; exact decide_eq_true he
        have HE : Hid (nameB s = false) := by
          show _ = _
          have hgs : g = s := by
            have e : (⟨g.toArray⟩ : ByteArray) = ⟨s.toArray⟩ := by rw [HU.out, ← HS.out]; exact he
            simpa using congrArg (fun x : ByteArray => x.data.toList) e
          rw [HN.out, show kwB.contains s = true from by rw [List.contains_iff_mem, ← hgs]; exact HM.out]; rfl
        clear bt he c1 hf
        go_wp2
        go_ret
        exact ⟨ret_bool HE.out.symm, HB.out⟩
      · have hb : (u.toList == S.toList) = false := by rw [bt]; exact decide_eq_false he
        have HR : Hid ((kwB.take (k + 1)).contains s = false) := by
          show _ = _
          rw [HTK.out]
          have h1 := hf.out
          rw [Bool.eq_false_iff, Ne, List.contains_iff_mem] at h1 ⊢
          intro h
          rcases List.mem_append.1 h with h | h
          · exact h1 h
          · exact he (by rw [← HU.out, HS.out, List.mem_singleton.1 h])
        clear bt he c1 hf
        go_wp2
        go_round
        case rel => exact ⟨k + 1, by omega, by go_num, HR.out⟩
        case measure => simp [intOf]; omega
    · obtain rfl : k = 51 := by omega
      have HE : Hid (nameB s = wordB s) := by
        show _ = _
        have h := hf.out
        rw [List.take_of_length_le (show kwB.length ≤ 51 from Nat.le_refl _)] at h
        rw [HN.out, h]; rfl
      clear hf ix
      go_wp2_with fail
      refine (c1 _).mono ?_
      rintro e w2 ⟨rfl, hw2⟩
      subst hw2
      go_wp2
      go_ret
      exact ⟨ret_bool HE.out.symm, HB.out⟩
end Go.Proofs.YtmbgcpmapaedcaaGreatDoor.Ex
