/- The document's cells. | A drawn region by what its operations keep, whatever came up; a copy onto an empty slice of one's own. | VerifyChecks: the document's look in memory; where an instruction goes on, in a block of its own. -/
import Derived.Test.YtlckedionmgjjaaDoorMg21
import Derived.Test.YtlckedionmgjjaaDoorMg15
import Derived.Test.YtlckedionmgjjaaDoorMg1
namespace Go.Proofs.YtlckedionmgjjaaDoor
open Go.RowKit
theorem drw_add (w : World) (a b : Nat) : (w.drewN a).drewN b = w.drewN (a + b) := by simp only [World.drewN, Nat.add_assoc]
theorem wp_app {P : Program} {o : Oper} {a : Act} {w : World} {K : Act → World → Prop} {Q : Exit → Act → World → Prop} (s x : Operand) (t : TypeId) (ho : o.op = .call { callee := .builtin .append, args := #[s, x], argTypes := #[t, t] }) (v u v' : Value) (w' : World) (hs : a.eval s = v) (hx : a.eval x = u)
    (hr : (Builtin.append_ #[t, t] o.type #[v, u]).run P w = .ok v' w') (h : K (a.put o.dst v') w') : o.wp P a w K Q := by
  unfold Oper.wp execOp
  simp only [ho, resolve, invoke, builtin, Sem.run_bind, Sem.run_pure, Result.andThen_ok, List.map_toArray, List.map_cons, List.map_nil, hs, hx, hr]
  exact h
set_option maxRecDepth 100000 in
set_option maxHeartbeats 3200000 in
theorem cells13_any (nm tv fv iv ov cv : Value) (ty ins outs : List Int) (w : World) (hT : ILst w tv ty) (hn : ty.length ≤ 1024) (hIn : ILst w iv ins) (hOut : ILst w ov outs) (hlen : ins.length + outs.length ≤ 20000000000000) : Calls Tryd.prog 37 #[.agg #[nm, tv, fv, iv, ov, cv]] w fun e w' => e = .returned (.bool (lineB ty.length [] (ins ++ outs))) ∧ Below w.heap.size w w' := by
  obtain ⟨w0, hw0⟩ : ∃ w0, w0 = (w.alloc (.cells #[nm, tv, fv, iv, ov, cv] 26)).drew := ⟨_, rfl⟩
  have B0 : Hid (Below w.heap.size w w0) := by rw [hw0]; exact ((Below.refl _ _).alloc (Nat.le_refl _) _).drew
  have X0 : Hid (w0.heap[w.heap.size]? = some (.cells #[nm, tv, fv, iv, ov, cv] 26 (0, 0))) := by
    show _ = _
    rw [hw0]; exact heap_alloc_new w _
  have z0 : w0.heap.size = w.heap.size + 1 := by rw [hw0]; show (w.alloc _).heap.size = _; simp
  have IN := hide (hIn.on B0.out)
  have OU := hide (hOut.on B0.out)
  obtain ⟨ia, ic, rfl⟩ := hIn.shape
  obtain ⟨oa, oc, rfl⟩ := hOut.shape
  obtain ⟨ta, tc, rfl⟩ := hT.shape
  have hSS : w0.cell? ⟨w.heap.size, 3, none⟩ = some (.slice ia ins.length ic) ∧ w0.cell? ⟨w.heap.size, 4, none⟩ = some (.slice oa outs.length oc) := ⟨(Lib.cell_of_heap (j := 3) X0.out).trans rfl, (Lib.cell_of_heap (j := 4) X0.out).trans rfl⟩
  have HS : Hid (∀ W, Below w0.heap.size w0 W → W.cell? ⟨w.heap.size, 3, none⟩ = some (.slice ia ins.length ic) ∧ W.cell? ⟨w.heap.size, 4, none⟩ = some (.slice oa outs.length oc)) := fun W hb =>
    ⟨(hb.cell (p := ⟨w.heap.size, 3, none⟩) (by show w.heap.size < _; omega)).trans hSS.1, (hb.cell (p := ⟨w.heap.size, 4, none⟩) (by show w.heap.size < _; omega)).trans hSS.2⟩
  have sz1 : w.heap.size + 1 ≤ w0.heap.size := by omega
  have HW := hide hw0
  obtain ⟨n1, hn1⟩ : ∃ n, n = ins.length := ⟨_, rfl⟩
  obtain ⟨n2, hn2⟩ : ∃ n, n = outs.length := ⟨_, rfl⟩
  rw [← hn1, ← hn2] at hSS HS hlen HW
  rw [← hn1] at IN ⊢
  rw [← hn2] at OU ⊢
  have HN1 := hide hn1
  have HN2 := hide hn2
  clear hw0 hT hIn hOut hn1 hn2 z0
  go_enter Tryd.func37, Tryd.ntmps37
  go_wp2_with fail
  refine region_L (S := fun W => W.cell? ⟨w.heap.size, 3, none⟩ = some (.slice ia n1 ic) ∧ W.cell? ⟨w.heap.size, 4, none⟩ = some (.slice oa n2 oc)) (L := 7) (by kernel_rfl) ?_
  rw [← HW.out]
  refine tkL 1 (.pointer (some ⟨w.heap.size, 3, none⟩)) hSS ?_
  refine tkL 2 (.slice ia n1 ic) hSS ?_
  refine tkL 4 (.pointer (some ⟨w.heap.size, 4, none⟩)) hSS ?_
  refine tkL 5 (.slice oa n2 oc) hSS ?_
  try simp only [Act.put, List.setIfInBounds_toArray, List.set_cons_zero, List.set_cons_succ]
  refine rdL 0 (fun K hK => ?_)
  go_simp
  have b1 : Below w0.heap.size w0 (w0.alloc (.cells #[] 3)) := (Below.refl _ _).alloc (Nat.le_refl _) _
  refine hK.out _ _ (fun _ => HS.out _ b1) ?_
  clear hK K
  have own0 : (w0.alloc (.cells #[] 3)).ownsRow w0.heap.size 3 1 (.slice (some ⟨w0.heap.size, 0, none⟩) 0 0) 0 [] := World.ownsRow_lit (e := 3) (size := 1) w0 #[] 0 (Nat.le_refl _) (by decide) rfl
  obtain ⟨v1, w1, hr1, ho1, hg1⟩ := run_append_ints (w0.alloc (.cells #[] 3)) w0.heap.size 22 0 _ [] own0 (.slice ia n1 ic) ins (IN.out.on b1) (by rw [← HN1.out]; omega) (by simp)
  have b2 : Below w0.heap.size w0 w1 := b1.grown hg1 (by simp) (fun k hk => (own0.lt k hk).1)
  try simp only [Act.put, List.setIfInBounds_toArray, List.set_cons_zero, List.set_cons_succ]
  refine rdL 3 (fun K hK => ?_)
  refine wp_app _ _ 22 rfl _ _ v1 w1 (by rfl) (by rfl) hr1 ?_
  refine hK.out _ _ (fun _ => HS.out _ b2) ?_
  clear hK K
  rw [Nat.zero_add] at ho1
  obtain ⟨v2, w2, hr2, ho2, hg2⟩ := run_append_ints w1 w0.heap.size 22 _ _ _ ho1 (.slice oa n2 oc) outs (OU.out.on b2) (by rw [← HN1.out, ← HN2.out]; omega) b2.size
  have b3 : Below w0.heap.size w0 w2 := b2.grown hg2 b2.size (fun k hk => (ho1.lt k hk).1)
  try simp only [Act.put, List.setIfInBounds_toArray, List.set_cons_zero, List.set_cons_succ]
  refine rdL 6 (fun K hK => ?_)
  refine wp_app _ _ 22 rfl _ _ v2 w2 (by rfl) (by rfl) hr2 ?_
  refine hK.out _ _ (fun _ => HS.out _ b3) ?_
  clear hK K
  try simp only [Act.put, List.setIfInBounds_toArray, List.set_cons_zero, List.set_cons_succ]
  refine rdL 7 (fun K hK => ?_)
  go_simp
  refine hK.out _ _ (fun h => absurd rfl h) ?_
  clear hK K
  try simp only [Act.put, List.setIfInBounds_toArray, List.set_cons_zero, List.set_cons_succ]
  refine doneL ?_
  have hL2 : ILst w2 v2 (ins ++ outs) := ILst.of_owns (base := w0.heap.size) (by
    rw [List.length_append, intC_append]; exact ho2)
  have hm : (ins ++ outs).length = n1 + n2 := by rw [List.length_append, ← HN1.out, ← HN2.out]
  obtain ⟨M, hM⟩ : ∃ M, M = (ins ++ outs).length := ⟨_, rfl⟩
  have hM9 : M ≤ 20000000000000 := by omega
  obtain ⟨l, hl⟩ : ∃ l, l = ins ++ outs := ⟨_, rfl⟩
  have HR : Hid (∀ b, lineB ty.length [] l = b → lineB ty.length [] (ins ++ outs) = b) := fun b h => by rw [← hl]; exact h
  rw [← hl] at hL2 hM
  obtain ⟨va, vb, voff, vc, rfl, hvA, hvI⟩ := hL2
  rw [← hM]
  have c1 : w2.cell? ⟨w.heap.size, 1, none⟩ = some (.slice ta ty.length tc) := (b3.cell (p := ⟨w.heap.size, 1, none⟩) (by show w.heap.size < _; omega)).trans ((Lib.cell_of_heap (j := 1) X0.out).trans rfl)
  have BW : Hid (∀ d, Below w.heap.size w (w2.drewN d)) := fun d => below_drewN (B0.out.trans (b3.mono (by omega))) d
  obtain ⟨N, hN⟩ : ∃ N, N = ty.length := ⟨_, rfl⟩
  have HNN := hide hN
  rw [← hN] at c1 hn HR ⊢
  have HV := hide hvI
  have HM := hide hM
  clear hvI hl hm ho1 ho2 hg1 hg2 hr1 hr2 own0 b1 b2 b3 hSS HS IN OU X0 hM hN
  have N1 : (N : Int) ≤ 1024 := by omega
  by_cases hbig : N < M
  · have HE : Hid (lineB N [] l = false) := by
      show _ = _
      cases hb : lineB N [] l with
      | false => rfl
      | true => have := line_len hb; rw [← HM.out] at this; omega
    have j1 : (N : Int) < (M : Int) := by omega
    go_wp2
    go_ret
    exact ⟨ret_b (by rw [← HNN.out]; exact (HR.out _ HE.out).symm), BW.out 0⟩
  · have j1 : ¬ (N : Int) < (M : Int) := by omega
    have hM3 : M ≤ 1024 := by omega
    have M0 : (0 : Int) ≤ (M : Int) := by omega
    have HVA : Hid (0 < M → va = some ⟨vb, voff, none⟩) := fun h => (hvA (by rw [← HM.out]; exact h)).2
    obtain ⟨va', hva'⟩ : ∃ va' : Option Addr, va' = (if 0 < M then some ⟨vb, voff, none⟩ else va) := ⟨_, rfl⟩
    have hveq : va = va' := by
      rw [hva']; split
      · rename_i h; exact HVA.out h
      · rfl
    rw [hveq]
    have HVB : Hid (0 < M → va' = some ⟨vb, voff, none⟩) := fun h => by rw [← hveq]; exact HVA.out h
    clear hva' hveq HVA hvA
    by_cases hM0 : M = 0
    · have HE : Hid (lineB N [] l = true) := by
        show _ = _
        rw [show l = [] from List.eq_nil_of_length_eq_zero (by rw [← HM.out]; exact hM0)]; rfl
      subst hM0
      go_wp2_with fail
      go_loopw [4, 5] (fun i _ wr => i = .int .i64 0 ∧ Hid (wr = w2)) (fun _ _ _ => 0)
      case atStart => exact ⟨rfl, rfl⟩
      case round =>
        obtain ⟨rfl, hh⟩ := hrel
        obtain rfl := hh.out
        go_wp2
        go_ret
        exact ⟨ret_b (by rw [← HNN.out]; exact (HR.out _ HE.out).symm), BW.out 0⟩
    · obtain rfl := HVB.out (by omega)
      clear HVB
      go_wp2_with fail
      go_loopw [4, 5] (fun i _ wr => ∃ k : Nat, k ≤ M ∧ i = .int .i64 (k : Int) ∧ Hid (lnP N l k ∧ ∃ d, wr = w2.drewN d)) (fun i _ _ => M - (intOf i).toNat)
      case atStart => exact ⟨0, by omega, rfl, fun i hi => absurd hi (Nat.not_lt_zero _), 0, rfl⟩
      case round =>
        obtain ⟨k, hk, rfl, hh⟩ := hrel
        obtain ⟨ha, d, rfl⟩ := hh.out
        have HA := hide ha
        clear hh ha
        have k0 : (0 : Int) ≤ (k : Int) := by omega
        by_cases hlt : k < M
        · have j2 : (k : Int) < (M : Int) := by omega
          obtain ⟨x, hx⟩ : ∃ x, l[k]? = some x := ⟨_, List.getElem?_eq_getElem (by rw [← HM.out]; exact hlt)⟩
          have cx := HV.out k x hx
          have HX := hide hx
          have bad : Hid (¬ (0 ≤ x ∧ x < (N : Int)) → lineB N [] l = false) := fun h => line_false fun hl => by
            obtain ⟨y, hy, g0, g1, -⟩ := hl k (by rw [← HM.out]; exact hlt)
            rw [hx] at hy
            obtain rfl := Option.some.inj hy
            exact h ⟨g0, g1⟩
          clear hx
          by_cases x0 : x < 0
          · have HE := hide (bad.out (by omega))
            have e1 : decide (x < 0) = true := decide_eq_true x0
            go_wp2_with fail
            go_quiet (fail)
            go_wp2
            go_ret
            exact ⟨ret_b (by rw [← HNN.out]; exact (HR.out _ HE.out).symm), below_drewN (BW.out _) _⟩
          · have e1 : decide (x < 0) = false := decide_eq_false x0
            by_cases x1 : (N : Int) ≤ x
            · have HE := hide (bad.out (by omega))
              have e2 : decide ((N : Int) ≤ x) = true := decide_eq_true x1
              go_wp2_with fail
              go_quiet (fail)
              go_wp2
              go_ret
              exact ⟨ret_b (by rw [← HNN.out]; exact (HR.out _ HE.out).symm), below_drewN (BW.out _) _⟩
            · have e2 : decide ((N : Int) ≤ x) = false := decide_eq_false x1
              go_wp2_with fail
              go_quiet (fail)
              go_wp2_with fail
              go_loopw [5] (fun j wr => ∃ q : Nat, q ≤ k ∧ j = .int .i64 (q : Int) ∧ Hid ((∀ j', j' < q → l[j']? ≠ some x) ∧ ∃ d, wr = w2.drewN d)) (fun j _ => k - (intOf j).toNat)
              case atStart => exact ⟨0, by omega, rfl, fun j hj => absurd hj (Nat.not_lt_zero _), _, drw_add _ _ _⟩
              case round =>
                obtain ⟨q, hq, rfl, hh⟩ := hrel
                obtain ⟨hb, d, rfl⟩ := hh.out
                have HBB := hide hb
                clear hh hb
                have q0 : (0 : Int) ≤ (q : Int) := by omega
                by_cases hql : q < k
                · have j3 : (q : Int) < (k : Int) := by omega
                  have j4 : (q : Int) < (M : Int) := by omega
                  obtain ⟨y, hy⟩ : ∃ y, l[q]? = some y := ⟨_, List.getElem?_eq_getElem (by rw [← HM.out]; omega)⟩
                  have cy := HV.out q y hy
                  have HY := hide hy
                  clear hy
                  by_cases hyx : y = x
                  · have HE : Hid (lineB N [] l = false) := line_false fun hl => by
                      obtain ⟨z, hz, -, -, g⟩ := hl k (by rw [← HM.out]; exact hlt)
                      rw [HX.out] at hz
                      obtain rfl := Option.some.inj hz
                      exact g q hql (by rw [HY.out, hyx])
                    have eb : (y == x) = true := by simpa using hyx
                    subst hyx
                    go_wp2_with fail
                    go_quiet (fail)
                    go_wp2
                    go_ret
                    exact ⟨ret_b (by rw [← HNN.out]; exact (HR.out _ HE.out).symm), below_drewN (BW.out _) _⟩
                  · have eb : (y == x) = false := by simpa using hyx
                    have HNX : Hid (∀ j', j' < q + 1 → l[j']? ≠ some x) := fun j' hj' => by
                      by_cases e : j' = q
                      · subst e; rw [HY.out]; intro h; exact hyx (Option.some.inj h)
                      · exact HBB.out j' (by omega)
                    go_wp2_with fail
                    go_quiet (fail)
                    go_wp2
                    go_roundw
                    case rel => exact ⟨q + 1, by omega, by go_num, HNX.out, _, rfl⟩
                    case measure => simp [intOf]; omega
                · obtain rfl : q = k := by omega
                  have HL := hide (lnP_next HA.out HX.out (by omega) (by omega) HBB.out)
                  go_wp2
                  go_roundw
                  case rel => exact ⟨q + 1, by omega, by go_num, HL.out, _, rfl⟩
                  case measure => simp [intOf]; omega
        · obtain rfl : k = M := by omega
          have HE : Hid (lineB N [] l = true) := (line_lnP N l).2 (by rw [← HM.out]; exact HA.out)
          go_wp2
          go_ret
          exact ⟨ret_b (by rw [← HNN.out]; exact (HR.out _ HE.out).symm), BW.out _⟩
end Go.Proofs.YtlckedionmgjjaaDoor
namespace Go.Proofs.YtlckedionmgjjaaDoor
open Go.RowKit
section
variable {P : Program} {ops : Array Oper} {Q : Exit → Act → World → Prop} {md : Region.Mode} {S : World → Prop} {L : Nat}
/-- how many operations have not come up -/
def cntU (n : Nat) (listed : Array Bool) : Nat := (List.range n).countP fun j => !listed.getD j true
theorem count_lt (p q : Nat → Bool) : ∀ l : List Nat, (∀ j, q j = true → p j = true) → (∃ i ∈ l, p i = true ∧ q i = false) → l.countP q < l.countP p
  | [], _, h => by obtain ⟨i, hi, _⟩ := h; cases hi
  | x :: l, hle, h => by
    have hmono : l.countP q ≤ l.countP p := List.countP_mono_left fun j _ => hle j
    rw [List.countP_cons, List.countP_cons]
    obtain ⟨i, hi, h1, h2⟩ := h
    rcases List.mem_cons.1 hi with rfl | hi
    · rw [h1, h2]; simp; omega
    · have := count_lt p q l hle ⟨i, hi, h1, h2⟩
      have hx := hle x
      cases hq : q x
      · simp; omega
      · rw [hx hq]; simp; omega
theorem set_getD {listed : Array Bool} {i j : Nat} : (listed.setIfInBounds i true).getD j true = (if j = i then true else listed.getD j true) := by
  by_cases h : j = i
  · subst h
    rw [if_pos rfl]
    rcases Nat.lt_or_ge j listed.size with h' | h'
    · simp [h']
    · simp [h']
  · rw [if_neg h, getD_set_ne true (Ne.symm h)]
theorem wpL_inv (I : Array Bool → Act → World → Prop)
    (step : ∀ listed a w i, I listed a w → i ∈ Region.ready md ops listed → wpOp P ops Q i (fun a' w' => (i ≠ L → S w') ∧ I (listed.setIfInBounds i true) a' w') a w)
    (fin : ∀ listed a w, I listed a w → Region.ready md ops listed = [] → Q .normal a w) :
    ∀ (fuel : Nat) (listed : Array Bool) (a : Act) (w : World), cntU ops.size listed ≤ fuel → I listed a w → wpL P md ops Q S L fuel listed a w
  | 0, listed, a, w, hc, hI => by
    have h0 : Region.ready md ops listed = [] := by
      cases hr : Region.ready md ops listed with
      | nil => rfl
      | cons i r =>
        have hi : i ∈ Region.ready md ops listed := by rw [hr]; exact List.mem_cons_self
        obtain ⟨hu, o, ho, -⟩ := mem_ready.1 hi
        have hlt : i < ops.size := (Array.getElem?_eq_some_iff.1 ho).1
        have : 0 < cntU ops.size listed := List.countP_pos_iff.2 ⟨i, List.mem_range.2 hlt, by rw [hu]; rfl⟩
        omega
    exact ⟨h0, fin listed a w hI h0⟩
  | fuel + 1, listed, a, w, hc, hI => by
    refine ⟨fun h0 => fin listed a w hI h0, fun i hi => wpOp_mono (fun a' w' h' => ⟨h'.1, wpL_inv I step fin fuel _ a' w' ?_ h'.2⟩) (step listed a w i hI hi)⟩
    obtain ⟨hu, o, ho, -⟩ := mem_ready.1 hi
    have hlt : i < ops.size := (Array.getElem?_eq_some_iff.1 ho).1
    have : cntU ops.size (listed.setIfInBounds i true) < cntU ops.size listed := by
      refine count_lt _ _ _ (fun j hj => ?_) ⟨i, List.mem_range.2 hlt, by rw [hu]; rfl, by rw [set_getD, if_pos rfl]; rfl⟩
      rw [set_getD] at hj
      split at hj
      · cases hj
      · exact hj
    omega
end
/-- a copy onto an empty slice of one's own -/
theorem app_fresh {P : Program} (w : World) (base : Nat) (t ty e : TypeId) (i : TypeInfo) (z : Value) (size bytes : Nat) (ht : P.underlying t = some (.slice e)) (hi : P.info? e = some i) (hz : i.zero = some z)
    (hsize : i.size = size) (hby : i.bytes = bytes) (hzs : z.cells.size = size) (hsz : 0 < size) (g : Nat) (hown : w.ownsRow base e size (.slice (some ⟨g, 0, none⟩) 0 0) 0 [])
    (a : Addr) (m c : Nat) (news : List Value) (hl : news.length = m * size) (hnews : ∀ j u, news[j]? = some u → w.cell? (a.add j) = some u) (h1 : ∀ u ∈ news, u.oneCell' = true)
    (h63 : m ≤ maxLen) (hbytes : (m + m / 4 + 192) * bytes ≤ 281474976710656) (hbase : base ≤ w.heap.size) :
    ∃ v' w', (Builtin.append_ #[t, t] ty #[.slice (some ⟨g, 0, none⟩) 0 0, .slice (some a) m c]).run P w = .ok v' w' ∧ w'.ownsRow base e size v' m news ∧ Below w.heap.size w w' := by
  by_cases hm : m = 0
  · subst hm
    have hn : news = [] := List.eq_nil_of_length_eq_zero (by simpa using hl)
    subst hn
    refine ⟨_, w, ?_, hown, Below.refl _ _⟩
    simp [Builtin.append_, run_underlying ht, sizeOf, typeInfo, hi, Builtin.lenOf, Builtin.firstCells, loadCells, loadCellsFrom, storeCells]
  · obtain ⟨v', w', hr, h2, -, -⟩ := run_append_own_wide (P := P) w base t ty e i z size bytes ht hi hz hsize hby hzs hsz _ 0 [] hown a m c news hl hnews h1 (by omega) (by rw [Nat.zero_add]; exact hbytes) hbase
    have hr2 := run_append_grow (P := P) w t ty e i z ht hi hz ⟨g, 0, none⟩ 0 0 [] (by simp) (fun j v h => by cases h) a m c news (by rw [hsize]; exact hl) hnews (by omega) (by simp only [maxLen] at h63; omega) (by rw [Nat.zero_add, hby]; exact growslice_fits_wide (by omega) hbytes)
    rw [hr] at hr2
    injection hr2 with e1 e2
    refine ⟨v', w', hr, by simpa using h2, ?_⟩
    rw [e2]
    exact ((Below.refl w.heap.size w).drew).alloc (Nat.le_refl _) _
end Go.Proofs.YtlckedionmgjjaaDoor
namespace Go.Proofs.YtlckedionmgjjaaDoor
open Go.RowKit
/-- a slice that reads as a list, in a block that S names -/
def ILp (S : Nat → Prop) (w : World) (v : Value) (l : List Int) : Prop :=
  ∃ a b off cap, v = .slice a l.length cap ∧ l.length ≤ cap ∧ (0 < l.length → b < w.heap.size ∧ S b ∧ a = some ⟨b, off, none⟩) ∧ ∀ i x, l[i]? = some x → w.cell? ⟨b, off + i, none⟩ = some (.int .i64 x)
/-- none of three blocks -/
def off3 (g g1 g2 : Nat) (b : Nat) : Prop := b ≠ g ∧ b ≠ g1 ∧ b ≠ g2
theorem ILp.ilst {S : Nat → Prop} {w : World} {v : Value} {l : List Int} (h : ILp S w v l) : ILst w v l := by
  obtain ⟨a, b, off, cap, e, _, hA, hI⟩ := h
  exact ⟨a, b, off, cap, e, fun h => ⟨(hA h).1, (hA h).2.2⟩, hI⟩
theorem ILp.mono {S T : Nat → Prop} {w : World} {v : Value} {l : List Int} (h : ILp S w v l) (hS : ∀ b, S b → T b) : ILp T w v l := by
  obtain ⟨a, b, off, cap, e, hc, hA, hI⟩ := h
  exact ⟨a, b, off, cap, e, hc, fun h => ⟨(hA h).1, hS _ (hA h).2.1, (hA h).2.2⟩, hI⟩
theorem ILp.kp {g g1 g2 : Nat} {w w' : World} {v : Value} {l : List Int} (h : ILp (off3 g g1 g2) w v l) (hk : Kp g g1 g2 w w') : ILp (off3 g g1 g2) w' v l := by
  obtain ⟨a, b, off, cap, e, hc, hA, hI⟩ := h
  refine ⟨a, b, off, cap, e, hc, fun h => ⟨Nat.lt_of_lt_of_le (hA h).1 hk.size, (hA h).2⟩, fun i x hx => ?_⟩
  obtain ⟨h1, h2, _⟩ := hA (Nat.lt_of_le_of_lt (Nat.zero_le _) (List.getElem?_eq_some_iff.1 hx).1)
  exact (World.cell?_of_block (a := ⟨b, off + i, none⟩) (hk.block b h1 h2.1 h2.2.1 h2.2.2)).trans (hI i x hx)
theorem ILp.on {S : Nat → Prop} {w w' : World} {v : Value} {l : List Int} (h : ILp S w v l) (hb : Below w.heap.size w w') : ILp S w' v l := by
  obtain ⟨a, b, off, cap, e, hc, hA, hI⟩ := h
  refine ⟨a, b, off, cap, e, hc, fun h => ⟨Nat.lt_of_lt_of_le (hA h).1 hb.size, (hA h).2⟩, fun i x hx => ?_⟩
  exact (hb.cell (p := ⟨b, off + i, none⟩) (hA (Nat.lt_of_le_of_lt (Nat.zero_le _) (List.getElem?_eq_some_iff.1 hx).1)).1).trans (hI i x hx)
theorem ILp.nil (S : Nat → Prop) (w : World) : ILp S w (.slice none 0 0) [] := ⟨none, 0, 0, 0, rfl, Nat.le_refl _, fun h => absurd h (Nat.lt_irrefl 0), fun i x hx => by cases hx⟩
theorem ILp.of_owns {w : World} {base n : Nat} {v : Value} {l : List Int} (h : w.ownsRow base 3 1 v n (intC l)) (hn : n = l.length) : ILp (base ≤ ·) w v l := by
  subst hn
  rcases h.2 with ⟨hv, h0⟩ | ⟨g, cap, cur, hv, hb, hg, hn, hm, hc, ht⟩
  · obtain rfl := List.eq_nil_of_length_eq_zero h0
    subst hv
    exact ILp.nil _ w
  · subst hv
    refine ⟨_, g, 0, cap, rfl, hn, fun _ => ⟨(Array.getElem?_eq_some_iff.1 hg).1, hb, rfl⟩, fun i x hx => ?_⟩
    have hi : i < l.length := (List.getElem?_eq_some_iff.1 hx).1
    rw [Nat.zero_add, h.cellAt i (by omega), intC_get, hx]; rfl
theorem ILp.fresh {W : World} {S : Nat → Prop} (l : List Int) {g n c : Nat} {cs : Array Value} (hg : g = W.heap.size) (hn : n = l.length) (hc : n ≤ c) (hcs : cs = (intC l).toArray) (hS : S g) : ILp S (W.alloc (.cells cs 3)) (.slice (some ⟨g, 0, none⟩) n c) l := by
  subst hg hn hcs
  exact ⟨_, W.heap.size, 0, c, rfl, hc, fun _ => ⟨by simp, hS, rfl⟩, fun i x hx => (Lib.cell_of_heap (j := 0 + i) (heap_alloc_new W _)).trans (by simp [intC, hx])⟩
set_option maxHeartbeats 1600000 in
theorem goesF_any (k : Nat) (i : Ins) (w : World) (hk : k ≤ 4096) : Calls Tryd.prog 42 #[.int .i64 (k : Int), inA i] w fun e w' => ∃ v, e = .returned v ∧ ILp (w.heap.size ≤ ·) w' v (goesI k i) ∧ Below w.heap.size w w' := by
  obtain ⟨op, a, b, n⟩ := i
  have k9 : (k : Int) ≤ 4096 := by omega
  have k0 : (0 : Int) ≤ (k : Int) := by omega
  have HB1 : Hid (∀ A, Below w.heap.size w (w.alloc A)) := fun A => (Below.refl _ _).alloc (Nat.le_refl _) _
  unfold inA
  go_enter Tryd.func42, Tryd.ntmps42
  by_cases h9 : op = 9
  · subst h9
    go_wp2
    go_ret
    have E : goesI k ⟨9, a, b, n⟩ = [a] := by simp [goesI]
    rw [E]
    exact ⟨_, rfl, ILp.fresh [a] (by simp) rfl (Nat.le_refl _) rfl (by simp), (HB1.out _).alloc (by simp) _⟩
  · have b9 : (op == 9) = false := by simpa using h9
    by_cases h10 : op = 10
    · subst h10
      go_wp2
      go_ret
      have E : goesI k ⟨10, a, b, n⟩ = [(k : Int) + 1, a] := by simp [goesI]
      rw [E]
      exact ⟨_, rfl, ILp.fresh [(k : Int) + 1, a] (by simp) rfl (Nat.le_refl _) rfl (by simp), (HB1.out _).alloc (by simp) _⟩
    · have b10 : (op == 10) = false := by simpa using h10
      by_cases h12 : op = 12
      · subst h12
        go_wp2
        go_ret
        have E : goesI k ⟨12, a, b, n⟩ = [] := by simp [goesI]
        rw [E]
        exact ⟨_, rfl, ILp.nil _ _, HB1.out _⟩
      · have b12 : (op == 12) = false := by simpa using h12
        have E : goesI k ⟨op, a, b, n⟩ = [(k : Int) + 1] := by unfold goesI; rw [if_neg h9, if_neg h10, if_neg h12]
        rw [E]
        clear E
        go_wp2
        go_ret
        exact ⟨_, rfl, ILp.fresh [(k : Int) + 1] (by simp) rfl (Nat.le_refl _) rfl (by simp), (HB1.out _).alloc (by simp) _⟩
/-- the document's look in memory: its own cells; the stacks; the states -/
structure LM (n g g1 g2 : Nat) (xs : List Value) (m : Vs) (w : World) : Prop where
  ob : Ob w g 58 (xs ++ [.slice (some ⟨g1, 0, none⟩) n n, .slice (some ⟨g2, 0, none⟩) n n, .int .i64 (m.dp : Int)])
  sk : ∃ vs : List Value, vs.length = n ∧ Ob w g1 22 vs ∧ ∀ k v, vs[k]? = some v → ILp (off3 g g1 g2) w v ((m.at k).getD [])
  st : Ob w g2 3 (intC (stL n m))
  good : GoodS n m
  len : n ≤ 4096
  n0 : 0 < n
  xs : xs.length = 6
  ne : g ≠ g1 ∧ g ≠ g2 ∧ g1 ≠ g2
theorem LM.on {n g g1 g2 : Nat} {xs : List Value} {m : Vs} {w w' : World} (h : LM n g g1 g2 xs m w) (hb : Below w.heap.size w w') : LM n g g1 g2 xs m w' := by
  obtain ⟨vs, h1, h2, h3⟩ := h.sk
  exact ⟨h.ob.on hb h.ob.lt, ⟨vs, h1, h2.on hb h2.lt, fun k v hv => (h3 k v hv).on hb⟩, h.st.on hb h.st.lt, h.good, h.len, h.n0, h.xs, h.ne⟩
theorem LM.but {n g g1 g2 R : Nat} {xs : List Value} {m : Vs} {w w' : World} (h : LM n g g1 g2 xs m w) (hb : But R w w') (hR : w.heap.size ≤ R) : LM n g g1 g2 xs m w' := h.on ⟨hb.os, hb.tape, hb.output, hb.size, fun k hk => hb.block k hk (fun e => by have := Option.some.inj e; omega)⟩
theorem LM.drew {n g g1 g2 : Nat} {xs : List Value} {m : Vs} {w : World} (h : LM n g g1 g2 xs m w) : LM n g g1 g2 xs m w.drew := h.on ⟨rfl, rfl, rfl, Nat.le_refl _, fun _ _ => rfl⟩
theorem LM.deep {n g g1 g2 d : Nat} {xs : List Value} {m : Vs} {w : World} (h : LM n g g1 g2 xs m w) : LM n g g1 g2 xs ⟨m.rs, m.wt, d⟩ (w.setCell ⟨g, 8, none⟩ (.int .i64 (d : Int))) := by
  have hk : Kp g g1 g2 w (w.setCell ⟨g, 8, none⟩ (.int .i64 (d : Int))) := kp_set (Kp.refl _ _ _ _) (.inl rfl)
  have hb : But g w (w.setCell ⟨g, 8, none⟩ (.int .i64 (d : Int))) := (But.refl g w).set 8 _
  obtain ⟨vs, h1, h2, h3⟩ := h.sk
  refine ⟨?_, ⟨vs, h1, hb.ob h2 h.ne.1.symm, fun k v hv => (h3 k v hv).kp hk⟩, hb.ob h.st h.ne.2.1.symm, ⟨h.good.rs, h.good.wt, h.good.wait, h.good.ok⟩, h.len, h.n0, h.xs, h.ne⟩
  have := h.ob.set 8 (.int .i64 (d : Int))
  rw [List.set_append_right _ _ (by rw [h.xs]; omega), h.xs] at this
  exact this
/-- a place's state is set -/
theorem LM.off {n g g1 g2 j : Nat} {xs : List Value} {m : Vs} {w : World} (h : LM n g g1 g2 xs m w) (hj : m.wt[j]? = some true) : LM n g g1 g2 xs (offS m j) (w.setCell ⟨g2, j, none⟩ (.int .i64 2)) := by
  have hk : Kp g g1 g2 w (w.setCell ⟨g2, j, none⟩ (.int .i64 2)) := kp_set (Kp.refl _ _ _ _) (.inr (.inr (.inl rfl)))
  have hb : But g2 w (w.setCell ⟨g2, j, none⟩ (.int .i64 2)) := (But.refl g2 w).set j _
  obtain ⟨vs, h1, h2, h3⟩ := h.sk
  refine ⟨hb.ob h.ob h.ne.2.1, ⟨vs, h1, hb.ob h2 h.ne.2.2, fun k v hv => (h3 k v hv).kp hk⟩, ?_, (off_good h.good hj).1, h.len, h.n0, h.xs, h.ne⟩
  have := h.st.set j (.int .i64 2)
  rw [show (intC (stL n m)).set j (Value.int .i64 2) = intC ((stL n m).set j 2) by unfold intC; rw [List.map_set], st_off h.good hj] at this
  exact this
/-- a place is reached -/
theorem LM.put {n g g1 g2 j : Nat} {xs : List Value} {m m' : Vs} {w : World} {v : Value} {s : Stk} (h : LM n g g1 g2 xs m w) (hj : j < n) (hs : OkS s) (hm : reachS m j s = some m') (ha : m.at j = none) (hv : ILp (off3 g g1 g2) w v s) :
    LM n g g1 g2 xs m' ((w.setCell ⟨g2, j, none⟩ (.int .i64 1)).drew.setCell ⟨g1, j, none⟩ v) := by
  have hg := (reach_good h.good ⟨hs.len, hs.ty⟩ hj hm).1
  have hm' : m' = ⟨m.rs.set j (some s), m.wt.set j true, m.dp⟩ := by
    unfold reachS at hm
    rw [ha] at hm
    exact (Option.some.inj hm).symm
  subst hm'
  have hk0 : Kp g g1 g2 w (w.setCell ⟨g2, j, none⟩ (.int .i64 1)).drew := (kp_set (Kp.refl _ _ _ _) (.inr (.inr (.inl rfl)))).drewN 1
  have hk : Kp g g1 g2 w ((w.setCell ⟨g2, j, none⟩ (.int .i64 1)).drew.setCell ⟨g1, j, none⟩ v) := kp_set hk0 (.inr (.inl rfl))
  have hb0 : But g2 w (w.setCell ⟨g2, j, none⟩ (.int .i64 1)).drew := ((But.refl g2 w).set j _).drew
  have hb1 : But g1 (w.setCell ⟨g2, j, none⟩ (.int .i64 1)).drew ((w.setCell ⟨g2, j, none⟩ (.int .i64 1)).drew.setCell ⟨g1, j, none⟩ v) := (But.refl g1 _).set j _
  obtain ⟨vs, h1, h2, h3⟩ := h.sk
  refine ⟨hb1.ob (hb0.ob h.ob h.ne.2.1) h.ne.1, ⟨vs.set j v, by simp [h1], (hb0.ob h2 h.ne.2.2).set j v, fun k u hu => ?_⟩, ?_, hg, h.len, h.n0, h.xs, h.ne⟩
  · show ILp _ _ u (((m.rs.set j (some s)).getD k none).getD [])
    rw [List.getElem?_set] at hu
    rw [getD_set]
    by_cases e : j = k
    · subst e
      rw [if_pos rfl, if_pos (by rw [h1]; exact hj)] at hu
      rw [if_pos ⟨rfl, by rw [h.good.rs]; exact hj⟩, ← Option.some.inj hu]
      exact hv.kp hk
    · rw [if_neg e] at hu
      rw [if_neg (fun h => e h.1)]
      exact (h3 k u hu).kp hk
  · have h4 : Ob (w.setCell ⟨g2, j, none⟩ (.int .i64 1)).drew g2 3 ((intC (stL n m)).set j (.int .i64 1)) := h.st.set j (.int .i64 1)
    rw [show (intC (stL n m)).set j (Value.int .i64 1) = intC ((stL n m).set j 1) by unfold intC; rw [List.map_set], st_on (s := s) h.good hj] at h4
    exact hb1.ob h4 h.ne.2.2.symm
end Go.Proofs.YtlckedionmgjjaaDoor
