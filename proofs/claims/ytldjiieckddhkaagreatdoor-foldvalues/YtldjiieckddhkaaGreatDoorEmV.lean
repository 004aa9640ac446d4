import Derived.Test.YtldjiieckddhkaaGreatDoorElV
namespace Go.Proofs.YtldjiieckddhkaaGreatDoor
open Go.RowKit Go.Sort
set_option maxRecDepth 100000 in
set_option maxHeartbeats 12800000 in
theorem fold_two2 (z : Pv) (xa xb : List Pv) (v : Value) (w : World) (la lb : List Pt) (hX : PLst w v (xa ++ (xb ++ [z]))) (hcp : CapOk v) (hlen : (xa ++ (xb ++ [z])).length ≤ 500) (hb1 : 0 < xb.length) (hk : z.k = 5) (ho : takes (ptV z) = 2) (hla : la.length ≤ 500) (hlb : lb.length ≤ 500)
    (hfr : back (((xa ++ (xb ++ [z])).map ptV).take (xa.length + xb.length)).reverse 1 = some xa.length)
    (hra : ∀ u W, Below w.heap.size w W → PLst W u xa → CapOk u → Calls Tryz.prog 28 #[u] W (AskOut W la))
    (hrb : ∀ u W, Below w.heap.size w W → PLst W u xb → CapOk u → Calls Tryz.prog 28 #[u] W (AskOut W lb)) : Calls Tryz.prog 28 #[v] w (AskOut w (segF (ptV z) [la, lb])) := by
  obtain ⟨n1, hn1⟩ : ∃ n, n = xa.length := ⟨_, rfl⟩
  obtain ⟨n2, hn2⟩ : ∃ n, n = n1 + xb.length := ⟨_, rfl⟩
  have hNl : (xa ++ (xb ++ [z])).length = n2 + 1 := by simp only [List.length_append, List.length_cons, List.length_nil]; omega
  have h12 : n1 < n2 := by omega
  obtain ⟨ia, ic, hsa, hIa, hia⟩ := pl_take hX n1 (by rw [hNl]; omega) hcp
  rw [List.take_left' hn1.symm] at hIa
  obtain ⟨ja, jc, hsb, hIb, hjb⟩ := pl_mid hX n1 n2 h12 (by rw [hNl]; omega) hcp
  have hcut : ((xa ++ (xb ++ [z])).take n2).drop n1 = xb := by
    rw [← List.append_assoc, List.take_left' (by rw [List.length_append]; omega), List.drop_left' hn1.symm]
  rw [hcut] at hIb
  have mF := fun W (hb : Below w.heap.size w W) => from10_any v (xa ++ (xb ++ [z])) W (hX.below hb (Nat.le_refl _)) hlen (n2 - 1) n1 (by rw [hNl]; omega) (by rw [hn1, show n2 - 1 + 1 = xa.length + xb.length by omega]; exact hfr)
  obtain ⟨a, b, off, cap, rfl, hA, hI⟩ := hX
  rw [hNl] at hsa hsb hcp hA mF hlen ⊢
  obtain ⟨hbw, rfl⟩ := hA (by omega)
  have hz : (xa ++ (xb ++ [z]))[n2]? = some z := by
    rw [← List.append_assoc, List.getElem?_append_right (by rw [List.length_append]; omega), show n2 - (xa ++ xb).length = 0 by rw [List.length_append]; omega]; rfl
  obtain ⟨c0, c1, c2, c3, c4⟩ := hI n2 z hz
  have k1 : ((n2 + 1 : Nat) : Int) - 1 = (n2 : Int) := by omega
  have k5 : (n2 : Int) - 1 = ((n2 - 1 : Nat) : Int) := by omega
  have k2 : (0 : Int) ≤ (n2 : Int) := by omega
  have k3 : (n2 : Int) < ((n2 + 1 : Nat) : Int) := by omega
  have k4 : (n2 : Int) ≤ 500 := by omega
  have k6 : (0 : Int) ≤ (n1 : Int) := by omega
  have k7 : (n1 : Int) ≤ 500 := by omega
  have HIa := hide hIa
  have HIb := hide hIb
  have HCA : Hid (CapOk (.slice ia n1 ic)) := fun a n c h => by injection h with h1 h2 h3; omega
  have HCB : Hid (CapOk (.slice ja (n2 - n1) jc)) := fun a n c h => by injection h with h1 h2 h3; omega
  have HLB := hide (And.intro hla hlb)
  have HRA := hide hra
  have HRB := hide hrb
  have HMF := hide mF
  clear hlen hn1 hn2 hNl hz hcut hI hA hcp hIa hIb hia hjb hla hlb hfr hra hrb mF hb1 h12
  generalize hNN : ((n2 + 1 : Nat) : Int) = NN at *
  generalize n2 + 1 = N1 at *
  generalize hMM : ((n2 - 1 : Nat) : Int) = MM at *
  generalize n2 - n1 = nb at *
  have B1 : Hid (Below w.heap.size w (w.alloc (.cells #[.int .i64 z.k, .int .i64 z.n, .int .i64 z.t, .string z.s, .string z.f] 38))) := (Below.refl _ _).alloc (Nat.le_refl _) _
  have X1 : Hid ((w.alloc (.cells #[.int .i64 z.k, .int .i64 z.n, .int .i64 z.t, .string z.s, .string z.f] 38)).heap[w.heap.size]? = some (.cells #[.int .i64 z.k, .int .i64 z.n, .int .i64 z.t, .string z.s, .string z.f] 38)) := heap_alloc_new w _
  have m50 := fun W => qTakes_v z W
  have hk3 : (z.k == 3) = false := by rw [hk]; rfl
  rw [ho] at m50
  have HKD := hide hk
  clear hk ho
  go_enter Tryz.func28, Tryz.ntmps28
  go_wp2_with fail
  refine (m50 _).mono ?_
  rintro e wd ⟨rfl, hbd⟩
  have BD := hide (B1.out.trans (hbd.mono B1.out.size))
  have XD : Hid (wd.heap[w.heap.size]? = some (.cells #[.int .i64 z.k, .int .i64 z.n, .int .i64 z.t, .string z.s, .string z.f] 38)) := (hbd.block _ (Array.getElem?_eq_some_iff.1 X1.out).1).trans X1.out
  clear hbd m50 B1 X1 c0 c1 c2 c3 c4
  go_wp2_with fail
  refine (HMF.out _ BD.out).mono ?_
  rintro e wf ⟨rfl, hbf⟩
  have BF := hide (BD.out.trans (hbf.mono BD.out.size))
  have XF : Hid (wf.heap[w.heap.size]? = some (.cells #[.int .i64 z.k, .int .i64 z.n, .int .i64 z.t, .string z.s, .string z.f] 38)) := (hbf.block _ (Array.getElem?_eq_some_iff.1 XD.out).1).trans XD.out
  clear hbf BD XD HMF
  go_wp2_with fail
  refine (HRA.out _ _ BF.out (HIa.out.below BF.out (Nat.le_refl _)) HCA.out).mono ?_
  rintro e wg ⟨⟨u1, ya, rfl, hP, hPc, hPy⟩, hbg⟩
  obtain ⟨aa, ac, rfl⟩ := hP.shapeV
  have BG := hide (BF.out.trans (hbg.mono BF.out.size))
  have XG : Hid (wg.heap[w.heap.size]? = some (.cells #[.int .i64 z.k, .int .i64 z.n, .int .i64 z.t, .string z.s, .string z.f] 38)) := (hbg.block _ (Array.getElem?_eq_some_iff.1 XF.out).1).trans XF.out
  have HPG := hide hP
  have HPY := hide hPy
  clear hbg BF XF hP hPc hPy
  go_wp2_with fail
  refine (HRB.out _ _ BG.out (HIb.out.below BG.out (Nat.le_refl _)) HCB.out).mono ?_
  rintro e wA ⟨⟨u2, yb, rfl, hP, hPc, hPy⟩, hbA⟩
  obtain ⟨ba, bc, rfl⟩ := hP.shapeV
  have BA := hide (BG.out.trans (hbA.mono BG.out.size))
  have HBX : Hid (wA.heap[w.heap.size]? = some (.cells #[.int .i64 z.k, .int .i64 z.n, .int .i64 z.t, .string z.s, .string z.f] 38)) := (hbA.block _ (Array.getElem?_eq_some_iff.1 XG.out).1).trans XG.out
  have HP : Hid (PLst wA (.slice aa ya.length ac) ya) := HPG.out.below hbA (Nat.le_refl _)
  have HP2 := hide hP
  have HPY2 := hide hPy
  have HLN : Hid (ya.length ≤ 500 ∧ yb.length ≤ 500) := by
    have h1 := congrArg List.length HPY.out
    have h2 := congrArg List.length hPy
    rw [List.length_map] at h1 h2
    have := HLB.out
    exact ⟨by omega, by omega⟩
  clear hbA BG XG hP hPc hPy HPG
  go_wp2_with fail
  have HT : Hid (∀ W, Below wA.heap.size wA W → W.cell? ⟨w.heap.size, 0, none⟩ = some (.int .i64 z.k) ∧ W.cell? ⟨w.heap.size, 1, none⟩ = some (.int .i64 z.n) ∧ W.cell? ⟨w.heap.size, 2, none⟩ = some (.int .i64 z.t) ∧ W.cell? ⟨w.heap.size, 3, none⟩ = some (.string z.s) ∧ W.cell? ⟨w.heap.size, 4, none⟩ = some (.string z.f)) := fun W hb => by
    have q := (hb.block _ (Array.getElem?_eq_some_iff.1 HBX.out).1).trans HBX.out
    exact ⟨by rw [Lib.cell_of_heap q]; rfl, by rw [Lib.cell_of_heap q]; rfl, by rw [Lib.cell_of_heap q]; rfl, by rw [Lib.cell_of_heap q]; rfl, by rw [Lib.cell_of_heap q]; rfl⟩
  have HPA : Hid (∀ W, Below wA.heap.size wA W → PLst W (.slice aa ya.length ac) ya) := fun W hb => HP.out.below hb (Nat.le_refl _)
  have HPB : Hid (∀ W, Below wA.heap.size wA W → PLst W (.slice ba yb.length bc) yb) := fun W hb => HP2.out.below hb (Nat.le_refl _)
  go_cut [9] from 43 to 50 (fun sv wx => ∃ v' : Value, v' = sv ∧ Hid (PLst wx v' (ya ++ (yb ++ [z])) ∧ CapOk v' ∧ Below wA.heap.size wA wx))
  case first =>
    refine wp_region_held (S := fun W => W.cell? ⟨w.heap.size, 0, none⟩ = some (.int .i64 z.k) ∧ W.cell? ⟨w.heap.size, 1, none⟩ = some (.int .i64 z.n) ∧ W.cell? ⟨w.heap.size, 2, none⟩ = some (.int .i64 z.t) ∧ W.cell? ⟨w.heap.size, 3, none⟩ = some (.string z.s) ∧ W.cell? ⟨w.heap.size, 4, none⟩ = some (.string z.f)) (by kernel_rfl) ?_
    show wpAnyH _ _ _ _ _ _ _ _ wA.drew
    obtain ⟨W0, hW0⟩ : ∃ W0, W0 = wA.drew := ⟨_, rfl⟩
    have bA : Below wA.heap.size wA W0 := by rw [hW0]; exact (Below.refl _ _).drew
    rw [← hW0]
    clear hW0
    refine tkH 1 (.slice aa ya.length ac) (HT.out _ bA) ?_
    refine tkH 3 (.slice ba yb.length bc) (HT.out _ bA) ?_
    refine tkH 5 (.agg #[.int .i64 z.k, .int .i64 z.n, .int .i64 z.t, .string z.s, .string z.f]) (HT.out _ bA) ?_
    try simp only [Act.put, List.setIfInBounds_toArray, List.set_cons_zero, List.set_cons_succ]
    refine rd2 0 6 (fun K hK => ?_) (fun K hK => ?_)
    · go_simp
      obtain ⟨W1, hW⟩ : ∃ Wn, Wn = W0.alloc (.cells #[] 38) := ⟨_, rfl⟩
      rw [← hW]
      have bW : Below W0.heap.size W0 W1 := by rw [hW]; exact (Below.refl _ _).alloc (Nat.le_refl _) _
      have own0 : W1.ownsRow wA.heap.size 38 5 (.slice (some ⟨W0.heap.size, 0, none⟩) 0 0) 0 [] := by rw [hW]; exact World.ownsRow_lit (e := 38) (size := 5) W0 #[] 0 bA.size (by decide) rfl
      have hlt0 : W0.heap.size < W1.heap.size := by rw [hW]; simp
      obtain ⟨BB, hBB⟩ : ∃ BB, BB = W0.heap.size := ⟨_, rfl⟩
      rw [← hBB] at own0 ⊢ hlt0
      have bA := bA.trans (bW.mono bA.size)
      refine hK.out _ _ (HT.out _ bA) (fun _ => ?_)
      clear hK K hW bW hBB
      have hrow : ∃ g, (Value.slice (some ⟨BB, 0, none⟩) 0 0).ownBlock = some g := ⟨_, rfl⟩
      clear hrow
      try simp only [Act.put, List.setIfInBounds_toArray, List.set_cons_zero, List.set_cons_succ]
      refine rd2 2 6 (fun K hK => ?_) (fun K hK => ?_)
      · obtain ⟨v1, W2, hr1, own1, hg1, hblk⟩ := run_append_pvB W1 wA.heap.size 23 0 (.slice (some ⟨BB, 0, none⟩) 0 0) [] own0 (.slice aa ya.length ac) ya (HPA.out _ bA) (by have := HLN.out; omega) bA.size
        have bB : Below wA.heap.size wA W2 := bA.grown hg1 bA.size (fun k hk => (own0.lt k hk).1)
        refine wp_app _ _ 23 rfl _ _ v1 _ (by rfl) (by rfl) hr1 ?_
        have bA := bB
        refine hK.out _ _ (HT.out _ bA) (fun _ => ?_)
        clear hK K hr1 hg1 own0 bB hblk
        try simp only [Act.put, List.setIfInBounds_toArray, List.set_cons_zero, List.set_cons_succ]
        refine rd2 4 6 (fun K hK => ?_) (fun K hK => ?_)
        · obtain ⟨v2, W3, hr1, own2, hg1⟩ := run_append_pvs W2 wA.heap.size 23 (0 + ya.length) v1 ([] ++ pvsC ya) own1 (.slice ba yb.length bc) yb (HPB.out _ bA) (by have := HLN.out; omega) bA.size
          have bB : Below wA.heap.size wA W3 := bA.grown hg1 bA.size (fun k hk => (own1.lt k hk).1)
          refine wp_app _ _ 23 rfl _ _ v2 _ (by rfl) (by rfl) hr1 ?_
          have bA := bB
          refine hK.out _ _ (HT.out _ bA) (fun _ => ?_)
          clear hK K hr1 hg1 own1 bB
          try simp only [Act.put, List.setIfInBounds_toArray, List.set_cons_zero, List.set_cons_succ]
          refine rdH 6 (fun K hK => ?_)
          go_simp
          obtain ⟨W4, hW⟩ : ∃ Wn, Wn = W3.alloc (.cells #[.int .i64 z.k, .int .i64 z.n, .int .i64 z.t, .string z.s, .string z.f] 38) := ⟨_, rfl⟩
          rw [← hW]
          have bW : Below W3.heap.size W3 W4 := by rw [hW]; exact (Below.refl _ _).alloc (Nat.le_refl _) _
          have own2 := own_on own2 bW
          have hE : W4.heap[W3.heap.size]? = some (.cells #[.int .i64 z.k, .int .i64 z.n, .int .i64 z.t, .string z.s, .string z.f] 38) := by rw [hW]; exact heap_alloc_new _ _
          obtain ⟨EE, hEE⟩ : ∃ EE, EE = W3.heap.size := ⟨_, rfl⟩
          rw [← hEE] at hE ⊢
          have hEl : EE < W4.heap.size := (Array.getElem?_eq_some_iff.1 hE).1
          have bA := bA.trans (bW.mono bA.size)
          refine hK.out _ _ (HT.out _ bA) (fun _ => ?_)
          clear hK K hW bW hEE
          obtain ⟨v9, w8, hr2, own9, hg2⟩ := run_append_pvs W4 wA.heap.size 23 (0 + ya.length + yb.length) v2 ([] ++ pvsC ya ++ pvsC yb) own2 (.slice (some ⟨EE, 0, none⟩) 1 1) [z] (own_one_pv hE) (by have := HLN.out; show 0 + ya.length + yb.length + 1 ≤ _; omega) bA.size
          have b8 : Below wA.heap.size wA w8 := bA.grown hg2 bA.size (fun k hk => (own2.lt k hk).1)
          try simp only [Act.put, List.setIfInBounds_toArray, List.set_cons_zero, List.set_cons_succ]
          refine rdH 7 (fun K hK => ?_)
          refine wp_app _ _ 23 rfl _ _ v9 w8 (by rfl) (by rfl) hr2 ?_
          refine hK.out _ _ (HT.out _ b8) (fun _ => ?_)
          clear hK K
          try simp only [Act.put, List.setIfInBounds_toArray, List.set_cons_zero, List.set_cons_succ]
          refine rdH 8 (fun K hK => ?_)
          go_simp
          refine hK.out _ _ (HT.out _ b8) (fun _ => ?_)
          clear hK K
          try simp only [Act.put, List.setIfInBounds_toArray, List.set_cons_zero, List.set_cons_succ]
          refine wpAnyH_done (by kernel_rfl) ?_ _
          have HREL : Hid (PLst w8 v9 (ya ++ (yb ++ [z])) ∧ CapOk v9 ∧ Below wA.heap.size wA w8) := by
            have hl : (ya ++ (yb ++ [z])).length = 0 + ya.length + yb.length + 1 := by simp only [List.length_append, List.length_cons, List.length_nil]; omega
            refine ⟨PLst.of_owns (base := wA.heap.size) ?_, ?_, b8⟩
            · rw [hl, pvsC_append, pvsC_append, ← List.append_assoc]; exact own9
            · obtain ⟨a, c, e, hc⟩ := own_formD own9; rw [e]; exact fun a n c h => by injection h with h1 h2 h3; omega
          clear own9 hg2 hr2 own2 b8 bA HT
          go_wp2_with fail
          go_meet
          case rel => exact ⟨v9, rfl, HREL.out⟩
        · go_simp
          obtain ⟨W3, hW⟩ : ∃ Wn, Wn = W2.alloc (.cells #[.int .i64 z.k, .int .i64 z.n, .int .i64 z.t, .string z.s, .string z.f] 38) := ⟨_, rfl⟩
          rw [← hW]
          have bW : Below W2.heap.size W2 W3 := by rw [hW]; exact (Below.refl _ _).alloc (Nat.le_refl _) _
          have hne : ∀ r, v1.ownBlock = some r → r ≠ W2.heap.size := fun r hr h => by have := (own1.lt r hr).2; omega
          have own1 := own_on own1 bW
          have hE : W3.heap[W2.heap.size]? = some (.cells #[.int .i64 z.k, .int .i64 z.n, .int .i64 z.t, .string z.s, .string z.f] 38) := by rw [hW]; exact heap_alloc_new _ _
          obtain ⟨EE, hEE⟩ : ∃ EE, EE = W2.heap.size := ⟨_, rfl⟩
          rw [← hEE] at hE ⊢ hne
          have hEl : EE < W3.heap.size := (Array.getElem?_eq_some_iff.1 hE).1
          have bA := bA.trans (bW.mono bA.size)
          refine hK.out _ _ (HT.out _ bA) (fun _ => ?_)
          clear hK K hW bW hEE
          try simp only [Act.put, List.setIfInBounds_toArray, List.set_cons_zero, List.set_cons_succ]
          refine rdH 4 (fun K hK => ?_)
          obtain ⟨v2, W4, hr1, own2, hg1⟩ := run_append_pvs W3 wA.heap.size 23 (0 + ya.length) v1 ([] ++ pvsC ya) own1 (.slice ba yb.length bc) yb (HPB.out _ bA) (by have := HLN.out; omega) bA.size
          have bB : Below wA.heap.size wA W4 := bA.grown hg1 bA.size (fun k hk => (own1.lt k hk).1)
          have hEn := (hg1.block EE (Array.getElem?_eq_some_iff.1 hE).1 (by intro h; exact hne EE h.symm rfl)).trans hE
          have hE := hEn
          clear hEn
          have hEl : EE < W4.heap.size := (Array.getElem?_eq_some_iff.1 hE).1
          refine wp_app _ _ 23 rfl _ _ v2 _ (by rfl) (by rfl) hr1 ?_
          have bA := bB
          refine hK.out _ _ (HT.out _ bA) (fun _ => ?_)
          clear hK K hr1 hg1 own1 bB
          obtain ⟨v9, w8, hr2, own9, hg2⟩ := run_append_pvs W4 wA.heap.size 23 (0 + ya.length + yb.length) v2 ([] ++ pvsC ya ++ pvsC yb) own2 (.slice (some ⟨EE, 0, none⟩) 1 1) [z] (own_one_pv hE) (by have := HLN.out; show 0 + ya.length + yb.length + 1 ≤ _; omega) bA.size
          have b8 : Below wA.heap.size wA w8 := bA.grown hg2 bA.size (fun k hk => (own2.lt k hk).1)
          try simp only [Act.put, List.setIfInBounds_toArray, List.set_cons_zero, List.set_cons_succ]
          refine rdH 7 (fun K hK => ?_)
          refine wp_app _ _ 23 rfl _ _ v9 w8 (by rfl) (by rfl) hr2 ?_
          refine hK.out _ _ (HT.out _ b8) (fun _ => ?_)
          clear hK K
          try simp only [Act.put, List.setIfInBounds_toArray, List.set_cons_zero, List.set_cons_succ]
          refine rdH 8 (fun K hK => ?_)
          go_simp
          refine hK.out _ _ (HT.out _ b8) (fun _ => ?_)
          clear hK K
          try simp only [Act.put, List.setIfInBounds_toArray, List.set_cons_zero, List.set_cons_succ]
          refine wpAnyH_done (by kernel_rfl) ?_ _
          have HREL : Hid (PLst w8 v9 (ya ++ (yb ++ [z])) ∧ CapOk v9 ∧ Below wA.heap.size wA w8) := by
            have hl : (ya ++ (yb ++ [z])).length = 0 + ya.length + yb.length + 1 := by simp only [List.length_append, List.length_cons, List.length_nil]; omega
            refine ⟨PLst.of_owns (base := wA.heap.size) ?_, ?_, b8⟩
            · rw [hl, pvsC_append, pvsC_append, ← List.append_assoc]; exact own9
            · obtain ⟨a, c, e, hc⟩ := own_formD own9; rw [e]; exact fun a n c h => by injection h with h1 h2 h3; omega
          clear own9 hg2 hr2 own2 b8 bA HT
          go_wp2_with fail
          go_meet
          case rel => exact ⟨v9, rfl, HREL.out⟩
      · go_simp
        obtain ⟨W2, hW⟩ : ∃ Wn, Wn = W1.alloc (.cells #[.int .i64 z.k, .int .i64 z.n, .int .i64 z.t, .string z.s, .string z.f] 38) := ⟨_, rfl⟩
        rw [← hW]
        have bW : Below W1.heap.size W1 W2 := by rw [hW]; exact (Below.refl _ _).alloc (Nat.le_refl _) _
        have hne : W1.heap.size ≠ BB := by omega
        have own0 := own_on own0 bW
        have hE : W2.heap[W1.heap.size]? = some (.cells #[.int .i64 z.k, .int .i64 z.n, .int .i64 z.t, .string z.s, .string z.f] 38) := by rw [hW]; exact heap_alloc_new _ _
        obtain ⟨EE, hEE⟩ : ∃ EE, EE = W1.heap.size := ⟨_, rfl⟩
        rw [← hEE] at hE ⊢ hne
        have hEl : EE < W2.heap.size := (Array.getElem?_eq_some_iff.1 hE).1
        have bA := bA.trans (bW.mono bA.size)
        refine hK.out _ _ (HT.out _ bA) (fun _ => ?_)
        clear hK K hW bW hEE
        try simp only [Act.put, List.setIfInBounds_toArray, List.set_cons_zero, List.set_cons_succ]
        refine rdH 2 (fun K hK => ?_)
        have hEl0 : EE < W2.heap.size := hEl
        obtain ⟨v1, W3, hr1, own1, hg1, hblk⟩ := run_append_pvB W2 wA.heap.size 23 0 (.slice (some ⟨BB, 0, none⟩) 0 0) [] own0 (.slice aa ya.length ac) ya (HPA.out _ bA) (by have := HLN.out; omega) bA.size
        have bB : Below wA.heap.size wA W3 := bA.grown hg1 bA.size (fun k hk => (own0.lt k hk).1)
        have hEn := (hg1.block EE (Array.getElem?_eq_some_iff.1 hE).1 (by intro h; exact hne (Option.some.inj h))).trans hE
        have hne : ∀ r, v1.ownBlock = some r → r ≠ EE := own_apart hblk hne hEl0
        have hE := hEn
        clear hEn
        have hEl : EE < W3.heap.size := (Array.getElem?_eq_some_iff.1 hE).1
        refine wp_app _ _ 23 rfl _ _ v1 _ (by rfl) (by rfl) hr1 ?_
        have bA := bB
        refine hK.out _ _ (HT.out _ bA) (fun _ => ?_)
        clear hK K hr1 hg1 own0 bB hblk
        try simp only [Act.put, List.setIfInBounds_toArray, List.set_cons_zero, List.set_cons_succ]
        refine rdH 4 (fun K hK => ?_)
        obtain ⟨v2, W4, hr1, own2, hg1⟩ := run_append_pvs W3 wA.heap.size 23 (0 + ya.length) v1 ([] ++ pvsC ya) own1 (.slice ba yb.length bc) yb (HPB.out _ bA) (by have := HLN.out; omega) bA.size
        have bB : Below wA.heap.size wA W4 := bA.grown hg1 bA.size (fun k hk => (own1.lt k hk).1)
        have hEn := (hg1.block EE (Array.getElem?_eq_some_iff.1 hE).1 (by intro h; exact hne EE h.symm rfl)).trans hE
        have hE := hEn
        clear hEn
        have hEl : EE < W4.heap.size := (Array.getElem?_eq_some_iff.1 hE).1
        refine wp_app _ _ 23 rfl _ _ v2 _ (by rfl) (by rfl) hr1 ?_
        have bA := bB
        refine hK.out _ _ (HT.out _ bA) (fun _ => ?_)
        clear hK K hr1 hg1 own1 bB
        obtain ⟨v9, w8, hr2, own9, hg2⟩ := run_append_pvs W4 wA.heap.size 23 (0 + ya.length + yb.length) v2 ([] ++ pvsC ya ++ pvsC yb) own2 (.slice (some ⟨EE, 0, none⟩) 1 1) [z] (own_one_pv hE) (by have := HLN.out; show 0 + ya.length + yb.length + 1 ≤ _; omega) bA.size
        have b8 : Below wA.heap.size wA w8 := bA.grown hg2 bA.size (fun k hk => (own2.lt k hk).1)
        try simp only [Act.put, List.setIfInBounds_toArray, List.set_cons_zero, List.set_cons_succ]
        refine rdH 7 (fun K hK => ?_)
        refine wp_app _ _ 23 rfl _ _ v9 w8 (by rfl) (by rfl) hr2 ?_
        refine hK.out _ _ (HT.out _ b8) (fun _ => ?_)
        clear hK K
        try simp only [Act.put, List.setIfInBounds_toArray, List.set_cons_zero, List.set_cons_succ]
        refine rdH 8 (fun K hK => ?_)
        go_simp
        refine hK.out _ _ (HT.out _ b8) (fun _ => ?_)
        clear hK K
        try simp only [Act.put, List.setIfInBounds_toArray, List.set_cons_zero, List.set_cons_succ]
        refine wpAnyH_done (by kernel_rfl) ?_ _
        have HREL : Hid (PLst w8 v9 (ya ++ (yb ++ [z])) ∧ CapOk v9 ∧ Below wA.heap.size wA w8) := by
          have hl : (ya ++ (yb ++ [z])).length = 0 + ya.length + yb.length + 1 := by simp only [List.length_append, List.length_cons, List.length_nil]; omega
          refine ⟨PLst.of_owns (base := wA.heap.size) ?_, ?_, b8⟩
          · rw [hl, pvsC_append, pvsC_append, ← List.append_assoc]; exact own9
          · obtain ⟨a, c, e, hc⟩ := own_formD own9; rw [e]; exact fun a n c h => by injection h with h1 h2 h3; omega
        clear own9 hg2 hr2 own2 b8 bA HT
        go_wp2_with fail
        go_meet
        case rel => exact ⟨v9, rfl, HREL.out⟩
    · go_simp
      obtain ⟨W1, hW⟩ : ∃ Wn, Wn = W0.alloc (.cells #[.int .i64 z.k, .int .i64 z.n, .int .i64 z.t, .string z.s, .string z.f] 38) := ⟨_, rfl⟩
      rw [← hW]
      have bW : Below W0.heap.size W0 W1 := by rw [hW]; exact (Below.refl _ _).alloc (Nat.le_refl _) _
      have hE : W1.heap[W0.heap.size]? = some (.cells #[.int .i64 z.k, .int .i64 z.n, .int .i64 z.t, .string z.s, .string z.f] 38) := by rw [hW]; exact heap_alloc_new _ _
      obtain ⟨EE, hEE⟩ : ∃ EE, EE = W0.heap.size := ⟨_, rfl⟩
      rw [← hEE] at hE ⊢
      have hEl : EE < W1.heap.size := (Array.getElem?_eq_some_iff.1 hE).1
      have bA := bA.trans (bW.mono bA.size)
      refine hK.out _ _ (HT.out _ bA) (fun _ => ?_)
      clear hK K hW bW hEE
      try simp only [Act.put, List.setIfInBounds_toArray, List.set_cons_zero, List.set_cons_succ]
      refine rdH 0 (fun K hK => ?_)
      go_simp
      obtain ⟨W2, hW⟩ : ∃ Wn, Wn = W1.alloc (.cells #[] 38) := ⟨_, rfl⟩
      rw [← hW]
      have bW : Below W1.heap.size W1 W2 := by rw [hW]; exact (Below.refl _ _).alloc (Nat.le_refl _) _
      have hne : EE ≠ W1.heap.size := by omega
      have hE := (bW.block _ (Array.getElem?_eq_some_iff.1 hE).1).trans hE
      have hEl : EE < W2.heap.size := (Array.getElem?_eq_some_iff.1 hE).1
      have own0 : W2.ownsRow wA.heap.size 38 5 (.slice (some ⟨W1.heap.size, 0, none⟩) 0 0) 0 [] := by rw [hW]; exact World.ownsRow_lit (e := 38) (size := 5) W1 #[] 0 bA.size (by decide) rfl
      obtain ⟨BB, hBB⟩ : ∃ BB, BB = W1.heap.size := ⟨_, rfl⟩
      rw [← hBB] at own0 ⊢ hne
      have bA := bA.trans (bW.mono bA.size)
      refine hK.out _ _ (HT.out _ bA) (fun _ => ?_)
      clear hK K hW bW hBB
      have hrow : ∃ g, (Value.slice (some ⟨BB, 0, none⟩) 0 0).ownBlock = some g := ⟨_, rfl⟩
      clear hrow
      try simp only [Act.put, List.setIfInBounds_toArray, List.set_cons_zero, List.set_cons_succ]
      refine rdH 2 (fun K hK => ?_)
      have hEl0 : EE < W2.heap.size := hEl
      obtain ⟨v1, W3, hr1, own1, hg1, hblk⟩ := run_append_pvB W2 wA.heap.size 23 0 (.slice (some ⟨BB, 0, none⟩) 0 0) [] own0 (.slice aa ya.length ac) ya (HPA.out _ bA) (by have := HLN.out; omega) bA.size
      have bB : Below wA.heap.size wA W3 := bA.grown hg1 bA.size (fun k hk => (own0.lt k hk).1)
      have hEn := (hg1.block EE (Array.getElem?_eq_some_iff.1 hE).1 (by intro h; exact hne (Option.some.inj h))).trans hE
      have hne : ∀ r, v1.ownBlock = some r → r ≠ EE := own_apart hblk hne hEl0
      have hE := hEn
      clear hEn
      have hEl : EE < W3.heap.size := (Array.getElem?_eq_some_iff.1 hE).1
      refine wp_app _ _ 23 rfl _ _ v1 _ (by rfl) (by rfl) hr1 ?_
      have bA := bB
      refine hK.out _ _ (HT.out _ bA) (fun _ => ?_)
      clear hK K hr1 hg1 own0 bB hblk
      try simp only [Act.put, List.setIfInBounds_toArray, List.set_cons_zero, List.set_cons_succ]
      refine rdH 4 (fun K hK => ?_)
      obtain ⟨v2, W4, hr1, own2, hg1⟩ := run_append_pvs W3 wA.heap.size 23 (0 + ya.length) v1 ([] ++ pvsC ya) own1 (.slice ba yb.length bc) yb (HPB.out _ bA) (by have := HLN.out; omega) bA.size
      have bB : Below wA.heap.size wA W4 := bA.grown hg1 bA.size (fun k hk => (own1.lt k hk).1)
      have hEn := (hg1.block EE (Array.getElem?_eq_some_iff.1 hE).1 (by intro h; exact hne EE h.symm rfl)).trans hE
      have hE := hEn
      clear hEn
      have hEl : EE < W4.heap.size := (Array.getElem?_eq_some_iff.1 hE).1
      refine wp_app _ _ 23 rfl _ _ v2 _ (by rfl) (by rfl) hr1 ?_
      have bA := bB
      refine hK.out _ _ (HT.out _ bA) (fun _ => ?_)
      clear hK K hr1 hg1 own1 bB
      obtain ⟨v9, w8, hr2, own9, hg2⟩ := run_append_pvs W4 wA.heap.size 23 (0 + ya.length + yb.length) v2 ([] ++ pvsC ya ++ pvsC yb) own2 (.slice (some ⟨EE, 0, none⟩) 1 1) [z] (own_one_pv hE) (by have := HLN.out; show 0 + ya.length + yb.length + 1 ≤ _; omega) bA.size
      have b8 : Below wA.heap.size wA w8 := bA.grown hg2 bA.size (fun k hk => (own2.lt k hk).1)
      try simp only [Act.put, List.setIfInBounds_toArray, List.set_cons_zero, List.set_cons_succ]
      refine rdH 7 (fun K hK => ?_)
      refine wp_app _ _ 23 rfl _ _ v9 w8 (by rfl) (by rfl) hr2 ?_
      refine hK.out _ _ (HT.out _ b8) (fun _ => ?_)
      clear hK K
      try simp only [Act.put, List.setIfInBounds_toArray, List.set_cons_zero, List.set_cons_succ]
      refine rdH 8 (fun K hK => ?_)
      go_simp
      refine hK.out _ _ (HT.out _ b8) (fun _ => ?_)
      clear hK K
      try simp only [Act.put, List.setIfInBounds_toArray, List.set_cons_zero, List.set_cons_succ]
      refine wpAnyH_done (by kernel_rfl) ?_ _
      have HREL : Hid (PLst w8 v9 (ya ++ (yb ++ [z])) ∧ CapOk v9 ∧ Below wA.heap.size wA w8) := by
        have hl : (ya ++ (yb ++ [z])).length = 0 + ya.length + yb.length + 1 := by simp only [List.length_append, List.length_cons, List.length_nil]; omega
        refine ⟨PLst.of_owns (base := wA.heap.size) ?_, ?_, b8⟩
        · rw [hl, pvsC_append, pvsC_append, ← List.append_assoc]; exact own9
        · obtain ⟨a, c, e, hc⟩ := own_formD own9; rw [e]; exact fun a n c h => by injection h with h1 h2 h3; omega
      clear own9 hg2 hr2 own2 b8 bA HT
      go_wp2_with fail
      go_meet
      case rel => exact ⟨v9, rfl, HREL.out⟩
  case rest =>
    obtain ⟨v9, rfl, hcu⟩ := hcut
    obtain ⟨hPo, hPoc, hbo⟩ := hcu.out
    have BC := hide (BA.out.trans (hbo.mono BA.out.size))
    have XC : Hid (wc.heap[w.heap.size]? = some (.cells #[.int .i64 z.k, .int .i64 z.n, .int .i64 z.t, .string z.s, .string z.f] 38)) := (hbo.block _ (Array.getElem?_eq_some_iff.1 HBX.out).1).trans HBX.out
    have PA := hide (HPA.out _ hbo)
    have PB := hide (HPB.out _ hbo)
    have HOUT : Hid (segF (ptV z) [la, lb] = [la, lb].flatten ++ [ptV z] → ∀ W, Below wc.heap.size wc W → AskOut w (segF (ptV z) [la, lb]) (.returned v9) W) := fun h W hb => by
      refine ⟨⟨v9, _, rfl, hPo.below hb (Nat.le_refl _), hPoc, ?_⟩, BC.out.trans (hb.mono BC.out.size)⟩
      rw [h]
      simp only [List.map_append, HPY.out, HPY2.out]
      simp
    obtain ⟨b0, b1, b2, b3, b4⟩ : wc.cell? ⟨w.heap.size, 0, none⟩ = some (.int .i64 z.k) ∧ wc.cell? ⟨w.heap.size, 1, none⟩ = some (.int .i64 z.n) ∧ wc.cell? ⟨w.heap.size, 2, none⟩ = some (.int .i64 z.t) ∧ wc.cell? ⟨w.heap.size, 3, none⟩ = some (.string z.s) ∧ wc.cell? ⟨w.heap.size, 4, none⟩ = some (.string z.f) :=
      ⟨by rw [Lib.cell_of_heap XC.out]; rfl, by rw [Lib.cell_of_heap XC.out]; rfl, by rw [Lib.cell_of_heap XC.out]; rfl, by rw [Lib.cell_of_heap XC.out]; rfl, by rw [Lib.cell_of_heap XC.out]; rfl⟩
    have hyal : ya.length = la.length := by have := congrArg List.length HPY.out; rwa [List.length_map] at this
    have hybl : yb.length = lb.length := by have := congrArg List.length HPY2.out; rwa [List.length_map] at this
    obtain ⟨vo, vn, vc, rfl⟩ : ∃ a n c, v9 = .slice a n c := by obtain ⟨a, c, h⟩ := hPo.shapeV; exact ⟨_, _, _, h⟩
    have HYA := hide hyal
    have HYBL := hide hybl
    have LB5 : ((yb.length : Nat) : Int) ≤ 500 := by have := HLN.out; omega
    have LA5 : ((ya.length : Nat) : Int) ≤ 500 := by have := HLN.out; omega
    clear hcu hPo hPoc hbo hyal hybl HPA HPB HT HP HP2
    by_cases hA1 : ya.length = 1
    · obtain ⟨q, rfl⟩ : ∃ q, ya = [q] := by
        match ya, hA1 with
        | [q], _ => exact ⟨q, rfl⟩
      obtain rfl : la = [ptV q] := HPY.out.symm
      obtain ⟨qa, qb, qo, qc, he, hqA, hqI⟩ := PA.out
      injection he with e1 e2 e3
      obtain ⟨hqb, hqe⟩ := hqA (by simp)
      rw [hqe] at e1
      subst e1 e3
      obtain ⟨d0, d1, d2, d3, d4⟩ := hqI 0 q rfl
      simp only [Nat.zero_mul, Nat.add_zero] at d0 d1 d2 d3 d4
      clear hqA hqI hqe hqb hA1 LA5 e2
      simp only [List.length_cons, List.length_nil, Nat.zero_add] at *
      by_cases hq : q.k = 1
      · have hq1 : (q.k != 1) = false := by rw [hq]; rfl
        have hqk : (ptV q).kind = 1 := hq
        by_cases hB1 : yb.length = 1
        · obtain ⟨r, rfl⟩ : ∃ r, yb = [r] := by
            match yb, hB1 with
            | [r], _ => exact ⟨r, rfl⟩
          obtain rfl : lb = [ptV r] := HPY2.out.symm
          obtain ⟨ra, rb, ro, rc, he, hrA, hrI⟩ := PB.out
          injection he with e1 e2 e3
          obtain ⟨hrb, hre⟩ := hrA (by simp)
          rw [hre] at e1
          subst e1 e3
          obtain ⟨f0, f1, f2, f3, f4⟩ := hrI 0 r rfl
          simp only [Nat.zero_mul, Nat.add_zero] at f0 f1 f2 f3 f4
          clear hrA hrI hre hrb hB1 LB5 e2
          simp only [List.length_cons, List.length_nil, Nat.zero_add] at *
          by_cases hr : r.k = 1
          · have hr1 : (r.k != 1) = false := by rw [hr]; rfl
            have hrk' : (ptV r).kind = 1 := hr
            have hcl := rec10_two z q r _ _ wc PA.out PB.out HKD.out
            have hrk : reckP (ptV z) [ptV q, ptV r] = if (Four.twoN z.n q.t q.n r.n).2 = 0 then some (numP (Four.twoN z.n q.t q.n r.n).1 (Four.resN z.n q.t).1) else none := by
              unfold reckP
              rw [if_neg (by simp [hqk, hrk']), if_neg (show ¬ (ptV z).kind = 6 by rw [show (ptV z).kind = 5 from HKD.out]; decide), if_pos (show (ptV z).kind = 5 from HKD.out)]; rfl
            have HRK := hide hrk
            clear hrk hq hqk hr hrk'
            generalize (Four.twoN z.n q.t q.n r.n).1 = R1 at *
            generalize (Four.twoN z.n q.t q.n r.n).2 = R2 at *
            generalize (Four.resN z.n q.t).1 = R3 at *
            go_wp2_with fail
            refine hcl.mono ?_
            rintro e wz ⟨rfl, hbz⟩
            have BZ := hide hbz
            clear hcl hbz
            by_cases hR : R2 = 0
            · have HSQ : Hid (segF (ptV z) [[ptV q], [ptV r]] = [numP R1 R3]) := seg_in (by simp) (by show reckP (ptV z) [ptV q, ptV r] = _; rw [HRK.out, if_pos hR])
              subst hR
              have HF : Hid (AskOut w (segF (ptV z) [[ptV q], [ptV r]]) (.returned (.slice (some ⟨wz.heap.size, 0, none⟩) 1 1)) (wz.alloc (.cells #[.int .i64 1, .int .i64 R1, .int .i64 R3, .string ⟨#[]⟩, .string ⟨#[]⟩] 38))) := by
                rw [HSQ.out]
                exact ⟨⟨_, [⟨1, R1, R3, ⟨#[]⟩, ⟨#[]⟩⟩], rfl, own_one_pv (x := ⟨1, R1, R3, ⟨#[]⟩, ⟨#[]⟩⟩) (heap_alloc_new wz _), fun a n c h => by injection h with h1 h2 h3; omega, rfl⟩, (BC.out.trans (BZ.out.mono BC.out.size)).alloc (Nat.le_trans BC.out.size BZ.out.size) _⟩
              clear HOUT
              go_wp2
              go_ret
              exact HF.out
            · have HS := hide (HOUT.out (seg_out (.inr (by show reckP (ptV z) [ptV q, ptV r] = _; rw [HRK.out, if_neg hR]))))
              have hR' : (R2 != 0) = true := by rw [bne_iff_ne]; exact hR
              clear HOUT hR
              go_wp2
              go_ret
              exact HS.out _ BZ.out
          · have hr1 : (r.k != 1) = true := by rw [bne_iff_ne]; exact hr
            have HS := hide (HOUT.out (seg_out (.inr (by
              show reckP (ptV z) [ptV q, ptV r] = none
              unfold reckP
              rw [if_pos (by simp [show (ptV r).kind = r.k from rfl, hr])]))))
            clear HOUT hr
            go_wp2
            go_ret
            exact HS.out _ (Below.refl _ _)
        · have HS := hide (HOUT.out (seg_out (.inl (by rw [List.all_eq_true]; exact fun h => hB1 (by have := of_decide_eq_true (h lb (by simp)); rw [HYBL.out]; exact this)))))
          have hB2 : (((yb.length : Nat) : Int) != 1) = true := by rw [bne_iff_ne]; omega
          clear HOUT hB1
          go_wp2
          go_ret
          exact HS.out _ (Below.refl _ _)
      · have hq1 : (q.k != 1) = true := by rw [bne_iff_ne]; exact hq
        have HS := hide (HOUT.out (seg_out (.inr (by
          show reckP (ptV z) ([ptV q] ++ (lb ++ [])) = none
          unfold reckP
          rw [if_pos (by simp [show (ptV q).kind = q.k from rfl, hq])]))))
        clear HOUT hq
        go_wp2
        go_ret
        exact HS.out _ (Below.refl _ _)
    · have HS := hide (HOUT.out (seg_out (.inl (by rw [List.all_eq_true]; exact fun h => hA1 (by have := of_decide_eq_true (h la (by simp)); rw [HYA.out]; exact this)))))
      have hA2 : (((ya.length : Nat) : Int) != 1) = true := by rw [bne_iff_ne]; omega
      clear HOUT hA1
      go_wp2
      go_ret
      exact HS.out _ (Below.refl _ _)
end Go.Proofs.YtldjiieckddhkaaGreatDoor
