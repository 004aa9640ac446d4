/- The document's cells. | A drawn region by what its operations keep, whatever came up; a copy onto an empty slice of one's own. | The book's CopyImage. -/
import Derived.Test.YtlckedionmgjjaaDoorMg20
import Derived.Test.YtlckedionmgjjaaDoorMg15
import Derived.Test.YtlckedionmgjjaaDoorMg1
import Derived.Test.YtlckedionmgjjaaDoorMg18
namespace Go.Proofs.YtlckedionmgjjaaDoor
open Go.RowKit
theorem drw_add (w : World) (a b : Nat) : (w.drewN a).drewN b = w.drewN (a + b) := by simp only [World.drewN, Nat.add_assoc]
theorem wp_app {P : Program} {o : Oper} {a : Act} {w : World} {K : Act → World → Prop} {Q : Exit → Act → World → Prop} (s x : Operand) (t : TypeId) (ho : o.op = .call { callee := .builtin .append, args := #[s, x], argTypes := #[t, t] }) (v u v' : Value) (w' : World) (hs : a.eval s = v) (hx : a.eval x = u)
    (hr : (Builtin.append_ #[t, t] o.type #[v, u]).run P w = .ok v' w') (h : K (a.put o.dst v') w') : o.wp P a w K Q := by
  unfold Oper.wp execOp
  simp only [ho, resolve, invoke, builtin, Sem.run_bind, Sem.run_pure, Result.andThen_ok, List.map_toArray, List.map_cons, List.map_nil, hs, hx, hr]
  exact h
set_option maxRecDepth 100000 in
set_option maxHeartbeats 3200000 in
theorem cells13_any (nm tv fv iv ov cv : Value) (ty ins outs : List Int) (w : World) (hT : ILst w tv ty) (hn : ty.length ≤ 1024) (hIn : ILst w iv ins) (hOut : ILst w ov outs) (hlen : ins.length + outs.length ≤ 20000000000000) : Calls Tryd.prog 37 #[.agg #[nm, tv, fv, iv, ov, cv]] w fun e w' => e = .returned (.bool (lineB ty.length [] (ins ++ outs))) ∧ Below w.heap.size w w' := by
  obtain ⟨w0, hw0⟩ : ∃ w0, w0 = (w.alloc (.cells #[nm, tv, fv, iv, ov, cv] 26)).drew := ⟨_, rfl⟩
  have B0 : Hid (Below w.heap.size w w0) := by rw [hw0]; exact ((Below.refl _ _).alloc (Nat.le_refl _) _).drew
  have X0 : Hid (w0.heap[w.heap.size]? = some (.cells #[nm, tv, fv, iv, ov, cv] 26 (0, 0))) := by
    show _ = _
    rw [hw0]; exact heap_alloc_new w _
  have z0 : w0.heap.size = w.heap.size + 1 := by rw [hw0]; show (w.alloc _).heap.size = _; simp
  have IN := hide (hIn.on B0.out)
  have OU := hide (hOut.on B0.out)
  obtain ⟨ia, ic, rfl⟩ := hIn.shape
  obtain ⟨oa, oc, rfl⟩ := hOut.shape
  obtain ⟨ta, tc, rfl⟩ := hT.shape
  have hSS : w0.cell? ⟨w.heap.size, 3, none⟩ = some (.slice ia ins.length ic) ∧ w0.cell? ⟨w.heap.size, 4, none⟩ = some (.slice oa outs.length oc) := ⟨(Lib.cell_of_heap (j := 3) X0.out).trans rfl, (Lib.cell_of_heap (j := 4) X0.out).trans rfl⟩
  have HS : Hid (∀ W, Below w0.heap.size w0 W → W.cell? ⟨w.heap.size, 3, none⟩ = some (.slice ia ins.length ic) ∧ W.cell? ⟨w.heap.size, 4, none⟩ = some (.slice oa outs.length oc)) := fun W hb =>
    ⟨(hb.cell (p := ⟨w.heap.size, 3, none⟩) (by show w.heap.size < _; omega)).trans hSS.1, (hb.cell (p := ⟨w.heap.size, 4, none⟩) (by show w.heap.size < _; omega)).trans hSS.2⟩
  have sz1 : w.heap.size + 1 ≤ w0.heap.size := by omega
  have HW := hide hw0
  obtain ⟨n1, hn1⟩ : ∃ n, n = ins.length := ⟨_, rfl⟩
  obtain ⟨n2, hn2⟩ : ∃ n, n = outs.length := ⟨_, rfl⟩
  rw [← hn1, ← hn2] at hSS HS hlen HW
  rw [← hn1] at IN ⊢
  rw [← hn2] at OU ⊢
  have HN1 := hide hn1
  have HN2 := hide hn2
  clear hw0 hT hIn hOut hn1 hn2 z0
  go_enter Tryd.func37, Tryd.ntmps37
  go_wp2_with fail
  refine region_L (S := fun W => W.cell? ⟨w.heap.size, 3, none⟩ = some (.slice ia n1 ic) ∧ W.cell? ⟨w.heap.size, 4, none⟩ = some (.slice oa n2 oc)) (L := 7) (by kernel_rfl) ?_
  rw [← HW.out]
  refine tkL 1 (.pointer (some ⟨w.heap.size, 3, none⟩)) hSS ?_
  refine tkL 2 (.slice ia n1 ic) hSS ?_
  refine tkL 4 (.pointer (some ⟨w.heap.size, 4, none⟩)) hSS ?_
  refine tkL 5 (.slice oa n2 oc) hSS ?_
  try simp only [Act.put, List.setIfInBounds_toArray, List.set_cons_zero, List.set_cons_succ]
  refine rdL 0 (fun K hK => ?_)
  go_simp
  have b1 : Below w0.heap.size w0 (w0.alloc (.cells #[] 3)) := (Below.refl _ _).alloc (Nat.le_refl _) _
  refine hK.out _ _ (fun _ => HS.out _ b1) ?_
  clear hK K
  have own0 : (w0.alloc (.cells #[] 3)).ownsRow w0.heap.size 3 1 (.slice (some ⟨w0.heap.size, 0, none⟩) 0 0) 0 [] := World.ownsRow_lit (e := 3) (size := 1) w0 #[] 0 (Nat.le_refl _) (by decide) rfl
  obtain ⟨v1, w1, hr1, ho1, hg1⟩ := run_append_ints (w0.alloc (.cells #[] 3)) w0.heap.size 22 0 _ [] own0 (.slice ia n1 ic) ins (IN.out.on b1) (by rw [← HN1.out]; omega) (by simp)
  have b2 : Below w0.heap.size w0 w1 := b1.grown hg1 (by simp) (fun k hk => (own0.lt k hk).1)
  try simp only [Act.put, List.setIfInBounds_toArray, List.set_cons_zero, List.set_cons_succ]
  refine rdL 3 (fun K hK => ?_)
  refine wp_app _ _ 22 rfl _ _ v1 w1 (by rfl) (by rfl) hr1 ?_
  refine hK.out _ _ (fun _ => HS.out _ b2) ?_
  clear hK K
  rw [Nat.zero_add] at ho1
  obtain ⟨v2, w2, hr2, ho2, hg2⟩ := run_append_ints w1 w0.heap.size 22 _ _ _ ho1 (.slice oa n2 oc) outs (OU.out.on b2) (by rw [← HN1.out, ← HN2.out]; omega) b2.size
  have b3 : Below w0.heap.size w0 w2 := b2.grown hg2 b2.size (fun k hk => (ho1.lt k hk).1)
  try simp only [Act.put, List.setIfInBounds_toArray, List.set_cons_zero, List.set_cons_succ]
  refine rdL 6 (fun K hK => ?_)
  refine wp_app _ _ 22 rfl _ _ v2 w2 (by rfl) (by rfl) hr2 ?_
  refine hK.out _ _ (fun _ => HS.out _ b3) ?_
  clear hK K
  try simp only [Act.put, List.setIfInBounds_toArray, List.set_cons_zero, List.set_cons_succ]
  refine rdL 7 (fun K hK => ?_)
  go_simp
  refine hK.out _ _ (fun h => absurd rfl h) ?_
  clear hK K
  try simp only [Act.put, List.setIfInBounds_toArray, List.set_cons_zero, List.set_cons_succ]
  refine doneL ?_
  have hL2 : ILst w2 v2 (ins ++ outs) := ILst.of_owns (base := w0.heap.size) (by
    rw [List.length_append, intC_append]; exact ho2)
  have hm : (ins ++ outs).length = n1 + n2 := by rw [List.length_append, ← HN1.out, ← HN2.out]
  obtain ⟨M, hM⟩ : ∃ M, M = (ins ++ outs).length := ⟨_, rfl⟩
  have hM9 : M ≤ 20000000000000 := by omega
  obtain ⟨l, hl⟩ : ∃ l, l = ins ++ outs := ⟨_, rfl⟩
  have HR : Hid (∀ b, lineB ty.length [] l = b → lineB ty.length [] (ins ++ outs) = b) := fun b h => by rw [← hl]; exact h
  rw [← hl] at hL2 hM
  obtain ⟨va, vb, voff, vc, rfl, hvA, hvI⟩ := hL2
  rw [← hM]
  have c1 : w2.cell? ⟨w.heap.size, 1, none⟩ = some (.slice ta ty.length tc) := (b3.cell (p := ⟨w.heap.size, 1, none⟩) (by show w.heap.size < _; omega)).trans ((Lib.cell_of_heap (j := 1) X0.out).trans rfl)
  have BW : Hid (∀ d, Below w.heap.size w (w2.drewN d)) := fun d => below_drewN (B0.out.trans (b3.mono (by omega))) d
  obtain ⟨N, hN⟩ : ∃ N, N = ty.length := ⟨_, rfl⟩
  have HNN := hide hN
  rw [← hN] at c1 hn HR ⊢
  have HV := hide hvI
  have HM := hide hM
  clear hvI hl hm ho1 ho2 hg1 hg2 hr1 hr2 own0 b1 b2 b3 hSS HS IN OU X0 hM hN
  have N1 : (N : Int) ≤ 1024 := by omega
  by_cases hbig : N < M
  · have HE : Hid (lineB N [] l = false) := by
      show _ = _
      cases hb : lineB N [] l with
      | false => rfl
      | true => have := line_len hb; rw [← HM.out] at this; omega
    have j1 : (N : Int) < (M : Int) := by omega
    go_wp2
    go_ret
    exact ⟨ret_b (by rw [← HNN.out]; exact (HR.out _ HE.out).symm), BW.out 0⟩
  · have j1 : ¬ (N : Int) < (M : Int) := by omega
    have hM3 : M ≤ 1024 := by omega
    have M0 : (0 : Int) ≤ (M : Int) := by omega
    have HVA : Hid (0 < M → va = some ⟨vb, voff, none⟩) := fun h => (hvA (by rw [← HM.out]; exact h)).2
    obtain ⟨va', hva'⟩ : ∃ va' : Option Addr, va' = (if 0 < M then some ⟨vb, voff, none⟩ else va) := ⟨_, rfl⟩
    have hveq : va = va' := by
      rw [hva']; split
      · rename_i h; exact HVA.out h
      · rfl
    rw [hveq]
    have HVB : Hid (0 < M → va' = some ⟨vb, voff, none⟩) := fun h => by rw [← hveq]; exact HVA.out h
    clear hva' hveq HVA hvA
    by_cases hM0 : M = 0
    · have HE : Hid (lineB N [] l = true) := by
        show _ = _
        rw [show l = [] from List.eq_nil_of_length_eq_zero (by rw [← HM.out]; exact hM0)]; rfl
      subst hM0
      go_wp2_with fail
      go_loopw [4, 5] (fun i _ wr => i = .int .i64 0 ∧ Hid (wr = w2)) (fun _ _ _ => 0)
      case atStart => exact ⟨rfl, rfl⟩
      case round =>
        obtain ⟨rfl, hh⟩ := hrel
        obtain rfl := hh.out
        go_wp2
        go_ret
        exact ⟨ret_b (by rw [← HNN.out]; exact (HR.out _ HE.out).symm), BW.out 0⟩
    · obtain rfl := HVB.out (by omega)
      clear HVB
      go_wp2_with fail
      go_loopw [4, 5] (fun i _ wr => ∃ k : Nat, k ≤ M ∧ i = .int .i64 (k : Int) ∧ Hid (lnP N l k ∧ ∃ d, wr = w2.drewN d)) (fun i _ _ => M - (intOf i).toNat)
      case atStart => exact ⟨0, by omega, rfl, fun i hi => absurd hi (Nat.not_lt_zero _), 0, rfl⟩
      case round =>
        obtain ⟨k, hk, rfl, hh⟩ := hrel
        obtain ⟨ha, d, rfl⟩ := hh.out
        have HA := hide ha
        clear hh ha
        have k0 : (0 : Int) ≤ (k : Int) := by omega
        by_cases hlt : k < M
        · have j2 : (k : Int) < (M : Int) := by omega
          obtain ⟨x, hx⟩ : ∃ x, l[k]? = some x := ⟨_, List.getElem?_eq_getElem (by rw [← HM.out]; exact hlt)⟩
          have cx := HV.out k x hx
          have HX := hide hx
          have bad : Hid (¬ (0 ≤ x ∧ x < (N : Int)) → lineB N [] l = false) := fun h => line_false fun hl => by
            obtain ⟨y, hy, g0, g1, -⟩ := hl k (by rw [← HM.out]; exact hlt)
            rw [hx] at hy
            obtain rfl := Option.some.inj hy
            exact h ⟨g0, g1⟩
          clear hx
          by_cases x0 : x < 0
          · have HE := hide (bad.out (by omega))
            have e1 : decide (x < 0) = true := decide_eq_true x0
            go_wp2_with fail
            go_quiet (fail)
            go_wp2
            go_ret
            exact ⟨ret_b (by rw [← HNN.out]; exact (HR.out _ HE.out).symm), below_drewN (BW.out _) _⟩
          · have e1 : decide (x < 0) = false := decide_eq_false x0
            by_cases x1 : (N : Int) ≤ x
            · have HE := hide (bad.out (by omega))
              have e2 : decide ((N : Int) ≤ x) = true := decide_eq_true x1
              go_wp2_with fail
              go_quiet (fail)
              go_wp2
              go_ret
              exact ⟨ret_b (by rw [← HNN.out]; exact (HR.out _ HE.out).symm), below_drewN (BW.out _) _⟩
            · have e2 : decide ((N : Int) ≤ x) = false := decide_eq_false x1
              go_wp2_with fail
              go_quiet (fail)
              go_wp2_with fail
              go_loopw [5] (fun j wr => ∃ q : Nat, q ≤ k ∧ j = .int .i64 (q : Int) ∧ Hid ((∀ j', j' < q → l[j']? ≠ some x) ∧ ∃ d, wr = w2.drewN d)) (fun j _ => k - (intOf j).toNat)
              case atStart => exact ⟨0, by omega, rfl, fun j hj => absurd hj (Nat.not_lt_zero _), _, drw_add _ _ _⟩
              case round =>
                obtain ⟨q, hq, rfl, hh⟩ := hrel
                obtain ⟨hb, d, rfl⟩ := hh.out
                have HBB := hide hb
                clear hh hb
                have q0 : (0 : Int) ≤ (q : Int) := by omega
                by_cases hql : q < k
                · have j3 : (q : Int) < (k : Int) := by omega
                  have j4 : (q : Int) < (M : Int) := by omega
                  obtain ⟨y, hy⟩ : ∃ y, l[q]? = some y := ⟨_, List.getElem?_eq_getElem (by rw [← HM.out]; omega)⟩
                  have cy := HV.out q y hy
                  have HY := hide hy
                  clear hy
                  by_cases hyx : y = x
                  · have HE : Hid (lineB N [] l = false) := line_false fun hl => by
                      obtain ⟨z, hz, -, -, g⟩ := hl k (by rw [← HM.out]; exact hlt)
                      rw [HX.out] at hz
                      obtain rfl := Option.some.inj hz
                      exact g q hql (by rw [HY.out, hyx])
                    have eb : (y == x) = true := by simpa using hyx
                    subst hyx
                    go_wp2_with fail
                    go_quiet (fail)
                    go_wp2
                    go_ret
                    exact ⟨ret_b (by rw [← HNN.out]; exact (HR.out _ HE.out).symm), below_drewN (BW.out _) _⟩
                  · have eb : (y == x) = false := by simpa using hyx
                    have HNX : Hid (∀ j', j' < q + 1 → l[j']? ≠ some x) := fun j' hj' => by
                      by_cases e : j' = q
                      · subst e; rw [HY.out]; intro h; exact hyx (Option.some.inj h)
                      · exact HBB.out j' (by omega)
                    go_wp2_with fail
                    go_quiet (fail)
                    go_wp2
                    go_roundw
                    case rel => exact ⟨q + 1, by omega, by go_num, HNX.out, _, rfl⟩
                    case measure => simp [intOf]; omega
                · obtain rfl : q = k := by omega
                  have HL := hide (lnP_next HA.out HX.out (by omega) (by omega) HBB.out)
                  go_wp2
                  go_roundw
                  case rel => exact ⟨q + 1, by omega, by go_num, HL.out, _, rfl⟩
                  case measure => simp [intOf]; omega
        · obtain rfl : k = M := by omega
          have HE : Hid (lineB N [] l = true) := (line_lnP N l).2 (by rw [← HM.out]; exact HA.out)
          go_wp2
          go_ret
          exact ⟨ret_b (by rw [← HNN.out]; exact (HR.out _ HE.out).symm), BW.out _⟩
end Go.Proofs.YtlckedionmgjjaaDoor
namespace Go.Proofs.YtlckedionmgjjaaDoor
open Go.RowKit
section
variable {P : Program} {ops : Array Oper} {Q : Exit → Act → World → Prop} {md : Region.Mode} {S : World → Prop} {L : Nat}
/-- how many operations have not come up -/
def cntU (n : Nat) (listed : Array Bool) : Nat := (List.range n).countP fun j => !listed.getD j true
theorem count_lt (p q : Nat → Bool) : ∀ l : List Nat, (∀ j, q j = true → p j = true) → (∃ i ∈ l, p i = true ∧ q i = false) → l.countP q < l.countP p
  | [], _, h => by obtain ⟨i, hi, _⟩ := h; cases hi
  | x :: l, hle, h => by
    have hmono : l.countP q ≤ l.countP p := List.countP_mono_left fun j _ => hle j
    rw [List.countP_cons, List.countP_cons]
    obtain ⟨i, hi, h1, h2⟩ := h
    rcases List.mem_cons.1 hi with rfl | hi
    · rw [h1, h2]; simp; omega
    · have := count_lt p q l hle ⟨i, hi, h1, h2⟩
      have hx := hle x
      cases hq : q x
      · simp; omega
      · rw [hx hq]; simp; omega
theorem set_getD {listed : Array Bool} {i j : Nat} : (listed.setIfInBounds i true).getD j true = (if j = i then true else listed.getD j true) := by
  by_cases h : j = i
  · subst h
    rw [if_pos rfl]
    rcases Nat.lt_or_ge j listed.size with h' | h'
    · simp [h']
    · simp [h']
  · rw [if_neg h, getD_set_ne true (Ne.symm h)]
theorem wpL_inv (I : Array Bool → Act → World → Prop)
    (step : ∀ listed a w i, I listed a w → i ∈ Region.ready md ops listed → wpOp P ops Q i (fun a' w' => (i ≠ L → S w') ∧ I (listed.setIfInBounds i true) a' w') a w)
    (fin : ∀ listed a w, I listed a w → Region.ready md ops listed = [] → Q .normal a w) :
    ∀ (fuel : Nat) (listed : Array Bool) (a : Act) (w : World), cntU ops.size listed ≤ fuel → I listed a w → wpL P md ops Q S L fuel listed a w
  | 0, listed, a, w, hc, hI => by
    have h0 : Region.ready md ops listed = [] := by
      cases hr : Region.ready md ops listed with
      | nil => rfl
      | cons i r =>
        have hi : i ∈ Region.ready md ops listed := by rw [hr]; exact List.mem_cons_self
        obtain ⟨hu, o, ho, -⟩ := mem_ready.1 hi
        have hlt : i < ops.size := (Array.getElem?_eq_some_iff.1 ho).1
        have : 0 < cntU ops.size listed := List.countP_pos_iff.2 ⟨i, List.mem_range.2 hlt, by rw [hu]; rfl⟩
        omega
    exact ⟨h0, fin listed a w hI h0⟩
  | fuel + 1, listed, a, w, hc, hI => by
    refine ⟨fun h0 => fin listed a w hI h0, fun i hi => wpOp_mono (fun a' w' h' => ⟨h'.1, wpL_inv I step fin fuel _ a' w' ?_ h'.2⟩) (step listed a w i hI hi)⟩
    obtain ⟨hu, o, ho, -⟩ := mem_ready.1 hi
    have hlt : i < ops.size := (Array.getElem?_eq_some_iff.1 ho).1
    have : cntU ops.size (listed.setIfInBounds i true) < cntU ops.size listed := by
      refine count_lt _ _ _ (fun j hj => ?_) ⟨i, List.mem_range.2 hlt, by rw [hu]; rfl, by rw [set_getD, if_pos rfl]; rfl⟩
      rw [set_getD] at hj
      split at hj
      · cases hj
      · exact hj
    omega
end
/-- a copy onto an empty slice of one's own -/
theorem app_fresh {P : Program} (w : World) (base : Nat) (t ty e : TypeId) (i : TypeInfo) (z : Value) (size bytes : Nat) (ht : P.underlying t = some (.slice e)) (hi : P.info? e = some i) (hz : i.zero = some z)
    (hsize : i.size = size) (hby : i.bytes = bytes) (hzs : z.cells.size = size) (hsz : 0 < size) (g : Nat) (hown : w.ownsRow base e size (.slice (some ⟨g, 0, none⟩) 0 0) 0 [])
    (a : Addr) (m c : Nat) (news : List Value) (hl : news.length = m * size) (hnews : ∀ j u, news[j]? = some u → w.cell? (a.add j) = some u) (h1 : ∀ u ∈ news, u.oneCell' = true)
    (h63 : m ≤ maxLen) (hbytes : (m + m / 4 + 192) * bytes ≤ 281474976710656) (hbase : base ≤ w.heap.size) :
    ∃ v' w', (Builtin.append_ #[t, t] ty #[.slice (some ⟨g, 0, none⟩) 0 0, .slice (some a) m c]).run P w = .ok v' w' ∧ w'.ownsRow base e size v' m news ∧ Below w.heap.size w w' := by
  by_cases hm : m = 0
  · subst hm
    have hn : news = [] := List.eq_nil_of_length_eq_zero (by simpa using hl)
    subst hn
    refine ⟨_, w, ?_, hown, Below.refl _ _⟩
    simp [Builtin.append_, run_underlying ht, sizeOf, typeInfo, hi, Builtin.lenOf, Builtin.firstCells, loadCells, loadCellsFrom, storeCells]
  · obtain ⟨v', w', hr, h2, -, -⟩ := run_append_own_wide (P := P) w base t ty e i z size bytes ht hi hz hsize hby hzs hsz _ 0 [] hown a m c news hl hnews h1 (by omega) (by rw [Nat.zero_add]; exact hbytes) hbase
    have hr2 := run_append_grow (P := P) w t ty e i z ht hi hz ⟨g, 0, none⟩ 0 0 [] (by simp) (fun j v h => by cases h) a m c news (by rw [hsize]; exact hl) hnews (by omega) (by simp only [maxLen] at h63; omega) (by rw [Nat.zero_add, hby]; exact growslice_fits_wide (by omega) hbytes)
    rw [hr] at hr2
    injection hr2 with e1 e2
    refine ⟨v', w', hr, by simpa using h2, ?_⟩
    rw [e2]
    exact ((Below.refl w.heap.size w).drew).alloc (Nat.le_refl _) _
end Go.Proofs.YtlckedionmgjjaaDoor
namespace Go.Proofs.YtlckedionmgjjaaDoor
open Go.RowKit
theorem inC_split : ∀ (l : List Ins) (j : Nat) (u : Value), (inC l)[j]? = some u → ∃ k i r, l[k]? = some i ∧ j = k * 4 + r ∧ r < 4 ∧ u = (#[Value.int .i64 i.op, .int .i64 i.a, .int .i64 i.b, .int .i64 i.n] : Array Value).getD r undef
  | [], j, u, h => by cases h
  | i :: l, 0, u, h => by obtain rfl := Option.some.inj h; exact ⟨0, i, 0, rfl, rfl, by omega, rfl⟩
  | i :: l, 1, u, h => by obtain rfl := Option.some.inj h; exact ⟨0, i, 1, rfl, rfl, by omega, rfl⟩
  | i :: l, 2, u, h => by obtain rfl := Option.some.inj h; exact ⟨0, i, 2, rfl, rfl, by omega, rfl⟩
  | i :: l, 3, u, h => by obtain rfl := Option.some.inj h; exact ⟨0, i, 3, rfl, rfl, by omega, rfl⟩
  | i :: l, j + 4, u, h => by
    have e : (inC (i :: l))[j + 4]? = (inC l)[j]? := rfl
    rw [e] at h
    obtain ⟨k, x, r, h1, h2, h3, h4⟩ := inC_split l j u h
    exact ⟨k + 1, x, r, h1, by omega, h3, h4⟩
theorem inC_all (l : List Ins) : ∀ u ∈ inC l, u.oneCell' = true := fun u hu => by
  unfold inC at hu
  rw [List.mem_flatMap] at hu
  obtain ⟨i, -, h⟩ := hu
  simp only [List.mem_cons, List.not_mem_nil, or_false] at h
  rcases h with rfl | rfl | rfl | rfl <;> rfl
/-- a slice's copy onto an empty slice of one's own: ints, instructions -/
theorem copy_ints (w : World) (base ty : Nat) (t e : TypeId) (ht : Tryd.prog.underlying t = some (.slice e)) (hin : (Tryd.prog.info? e).map (fun i => (i.zero, i.size, i.bytes)) = some (some (.int .i64 0), 1, 8)) (g : Nat) (hown : w.ownsRow base e 1 (.slice (some ⟨g, 0, none⟩) 0 0) 0 []) (u : Value) (l : List Int) (hL : ILst w u l) (hb : l.length ≤ 17592186044416) (hbase : base ≤ w.heap.size) :
    ∃ v' w', (Builtin.append_ #[t, t] ty #[.slice (some ⟨g, 0, none⟩) 0 0, u]).run Tryd.prog w = .ok v' w' ∧ w'.ownsRow base e 1 v' l.length (intC l) ∧ Below w.heap.size w w' := by
  obtain ⟨i0, hi, hz0, hz1, hz2⟩ := info_parts hin
  obtain ⟨a, b, off, c, rfl, hA, hI⟩ := hL
  by_cases hn : 0 < l.length
  · obtain ⟨_, rfl⟩ := hA hn
    refine app_fresh w base t ty e i0 _ 1 8 ht hi hz0 hz1 hz2 rfl (by omega) g hown _ l.length c (intC l) (by rw [intC_length]; omega) (fun j x hx => ?_) (intC_one l) (by unfold maxLen; omega) (by omega) hbase
    rw [intC_get] at hx
    cases hy : l[j]? with
    | none => rw [hy] at hx; cases hx
    | some y =>
      rw [hy] at hx
      have hx : Value.int .i64 y = x := by simpa using hx
      subst hx
      rw [addr_at]
      exact hI j y hy
  · have hl : l = [] := List.eq_nil_of_length_eq_zero (by omega)
    subst hl
    cases a with
    | some ad => exact app_fresh w base t ty e i0 _ 1 8 ht hi hz0 hz1 hz2 rfl (by omega) g hown ad 0 c [] rfl (fun j x hx => by cases hx) (fun x hx => by cases hx) (by unfold maxLen; omega) (by omega) hbase
    | none =>
      refine ⟨_, w, ?_, hown, Below.refl _ _⟩
      simp [Builtin.append_, run_underlying ht, go_sem, sizeOf, typeInfo, hi]
theorem copy_ins (w : World) (base ty : Nat) (g : Nat) (hown : w.ownsRow base 38 4 (.slice (some ⟨g, 0, none⟩) 0 0) 0 []) (u : Value) (l : List Ins) (hL : ISt w u l) (hb : l.length ≤ 4398046511104) (hbase : base ≤ w.heap.size) :
    ∃ v' w', (Builtin.append_ #[24, 24] ty #[.slice (some ⟨g, 0, none⟩) 0 0, u]).run Tryd.prog w = .ok v' w' ∧ w'.ownsRow base 38 4 v' l.length (inC l) ∧ Below w.heap.size w w' := by
  obtain ⟨i0, hi, hz0, hz1, hz2⟩ := info_parts inX
  obtain ⟨a, b, off, c, rfl, hA, hI⟩ := hL
  by_cases hn : 0 < l.length
  · obtain ⟨_, rfl⟩ := hA hn
    refine app_fresh w base 24 ty 38 i0 _ 4 32 Tryd.underlying24 hi hz0 hz1 hz2 rfl (by omega) g hown _ l.length c (inC l) (by rw [inC_length]; omega) (fun j x hx => ?_) (inC_all l) (by unfold maxLen; omega) (by omega) hbase
    obtain ⟨k, i, r, h1, rfl, h3, rfl⟩ := inC_split l j x hx
    obtain ⟨e0, e1, e2, e3⟩ := hI k i h1
    rw [addr_at]
    have : r = 0 ∨ r = 1 ∨ r = 2 ∨ r = 3 := by omega
    rcases this with rfl | rfl | rfl | rfl
    · exact e0
    · exact e1
    · exact e2
    · exact e3
  · have hl : l = [] := List.eq_nil_of_length_eq_zero (by omega)
    subst hl
    cases a with
    | some ad => exact app_fresh w base 24 ty 38 i0 _ 4 32 Tryd.underlying24 hi hz0 hz1 hz2 rfl (by omega) g hown ad 0 c [] rfl (fun j x hx => by cases hx) (fun x hx => by cases hx) (by unfold maxLen; omega) (by omega) hbase
    | none =>
      refine ⟨_, w, ?_, hown, Below.refl _ _⟩
      simp [Builtin.append_, run_underlying Tryd.underlying24, go_sem, sizeOf, typeInfo, hi]
end Go.Proofs.YtlckedionmgjjaaDoor
