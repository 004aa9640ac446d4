import Derived.Test.YtldjiieckddhkaaGreatDoorEgV
namespace Go.Proofs.YtldjiieckddhkaaGreatDoor
open Go.RowKit Go.Sort
set_option maxRecDepth 100000 in
set_option maxHeartbeats 6400000 in
theorem ask_op1 (z : Pv) (xi : List Pv) (v : Value) (t : Int) (w : World) (la : List Pt) (hX : PLst w v (xi ++ [z])) (hcp : CapOk v) (hk : z.k = 5) (ho : takes (ptV z) = 1) (hlen : xi.length ≤ 500) (hla : la.length ≤ 500)
    (hr : ∀ u W, Below w.heap.size w W → PLst W u xi → CapOk u → Calls Tryz.prog 26 #[.slice none 0 0, u, .int .i64 t] W (AskOut W la)) : Calls Tryz.prog 26 #[.slice none 0 0, v, .int .i64 t] w (AskOut w (la ++ [ptV z])) := by
  obtain ⟨n1, hn1⟩ : ∃ n, n = xi.length := ⟨_, rfl⟩
  have hNl : (xi ++ [z]).length = n1 + 1 := by rw [List.length_append, hn1]; rfl
  obtain ⟨ia, ic, hsl, hIn, hic⟩ := pl_take hX n1 (by rw [hNl]; omega) hcp
  rw [List.take_left' hn1.symm] at hIn
  obtain ⟨a, b, off, cap, rfl, hA, hI⟩ := hX
  rw [hNl] at hsl hcp hA ⊢
  obtain ⟨hbw, rfl⟩ := hA (by omega)
  have hz : (xi ++ [z])[n1]? = some z := by rw [List.getElem?_append_right (by omega), hn1, Nat.sub_self]; rfl
  obtain ⟨c0, c1, c2, c3, c4⟩ := hI n1 z hz
  have k1 : ((n1 + 1 : Nat) : Int) - 1 = (n1 : Int) := by omega
  have k2 : (0 : Int) ≤ (n1 : Int) := by omega
  have k3 : (n1 : Int) < ((n1 + 1 : Nat) : Int) := by omega
  have k4 : (n1 : Int) ≤ 500 := by omega
  clear hlen hz hn1 hNl
  generalize hNN : ((n1 + 1 : Nat) : Int) = NN at *
  generalize n1 + 1 = N1 at *
  obtain ⟨wc, hwc⟩ : ∃ wc, wc = w.alloc (.cells #[.int .i64 z.k, .int .i64 z.n, .int .i64 z.t, .string z.s, .string z.f] 38) := ⟨_, rfl⟩
  have BW : Hid (Below w.heap.size w wc) := by rw [hwc]; exact (Below.refl _ _).alloc (Nat.le_refl _) _
  have hbox : wc.heap[w.heap.size]? = some (.cells #[.int .i64 z.k, .int .i64 z.n, .int .i64 z.t, .string z.s, .string z.f] 38) := by rw [hwc]; exact heap_alloc_new w _
  have hk1 : (z.k == 1) = false := by rw [hk]; rfl
  have hk3 : (z.k == 3) = false := by rw [hk]; rfl
  have hk6 : (z.k == 6) = false := by rw [hk]; rfl
  have hk5 : (z.k == 5) = true := by rw [hk]; rfl
  clear hk
  have m50 := fun W => qTakes_v z W
  rw [ho] at m50
  go_enter Tryz.func26, Tryz.ntmps26
  go_wp2_with fail
  rw [← hwc]
  refine (m50 _).mono ?_
  rintro e wd ⟨rfl, hbd⟩
  have hbox := (hbd.block _ (Array.getElem?_eq_some_iff.1 hbox).1).trans hbox
  have BW : Hid (Below w.heap.size w wd) := BW.out.trans (hbd.mono BW.out.size)
  clear hwc c0 c1 c2 c3 c4 m50 hbd
  go_wp2_with fail
  have HT : Hid (∀ W, Below wd.heap.size wd W → W.cell? ⟨w.heap.size, 0, none⟩ = some (.int .i64 z.k) ∧ W.cell? ⟨w.heap.size, 1, none⟩ = some (.int .i64 z.n) ∧ W.cell? ⟨w.heap.size, 2, none⟩ = some (.int .i64 z.t) ∧ W.cell? ⟨w.heap.size, 3, none⟩ = some (.string z.s) ∧ W.cell? ⟨w.heap.size, 4, none⟩ = some (.string z.f)) := fun W hb => by
    have q := (hb.block _ (Array.getElem?_eq_some_iff.1 hbox).1).trans hbox
    exact ⟨by rw [Lib.cell_of_heap q]; rfl, by rw [Lib.cell_of_heap q]; rfl, by rw [Lib.cell_of_heap q]; rfl, by rw [Lib.cell_of_heap q]; rfl, by rw [Lib.cell_of_heap q]; rfl⟩
  have HC : Hid (∀ W, Below wd.heap.size wd W → Calls Tryz.prog 26 #[.slice none 0 0, .slice ia n1 ic, .int .i64 t] W (AskOut W la)) := fun W hb =>
    hr (.slice ia n1 ic) W (BW.out.trans (hb.mono BW.out.size)) (hIn.below (BW.out.trans (hb.mono BW.out.size)) (Nat.le_refl _)) (fun a n c h => by injection h with h1 h2 h3; omega)
  clear hr hIn hbox hI hA hcp
  refine wp_region_held (S := fun W => W.cell? ⟨w.heap.size, 0, none⟩ = some (.int .i64 z.k) ∧ W.cell? ⟨w.heap.size, 1, none⟩ = some (.int .i64 z.n) ∧ W.cell? ⟨w.heap.size, 2, none⟩ = some (.int .i64 z.t) ∧ W.cell? ⟨w.heap.size, 3, none⟩ = some (.string z.s) ∧ W.cell? ⟨w.heap.size, 4, none⟩ = some (.string z.f)) (by kernel_rfl) ?_
  show wpAnyH _ _ _ _ _ _ _ _ wd.drew
  obtain ⟨W0, hW0⟩ : ∃ W0, W0 = wd.drew := ⟨_, rfl⟩
  have bA : Below wd.heap.size wd W0 := by rw [hW0]; exact (Below.refl _ _).drew
  rw [← hW0]
  clear hW0
  refine tkH 1 (.slice none 0 0) (HT.out _ bA) ?_
  refine tkH 2 (.slice ia n1 ic) (HT.out _ bA) ?_
  refine tkH 3 (.int .i64 t) (HT.out _ bA) ?_
  refine tkH 6 (.agg #[.int .i64 z.k, .int .i64 z.n, .int .i64 z.t, .string z.s, .string z.f]) (HT.out _ bA) ?_
  try simp only [Act.put, List.setIfInBounds_toArray, List.set_cons_zero, List.set_cons_succ]
  refine rd3 0 4 7 (fun K hK => ?_) (fun K hK => ?_) (fun K hK => ?_)
  · go_simp
    obtain ⟨W1, hW⟩ : ∃ Wn, Wn = W0.alloc (.cells #[] 38) := ⟨_, rfl⟩
    rw [← hW]
    have bW : Below W0.heap.size W0 W1 := by rw [hW]; exact (Below.refl _ _).alloc (Nat.le_refl _) _
    have own0 : W1.ownsRow wd.heap.size 38 5 (.slice (some ⟨W0.heap.size, 0, none⟩) 0 0) 0 [] := by rw [hW]; exact World.ownsRow_lit (e := 38) (size := 5) W0 #[] 0 bA.size (by decide) rfl
    obtain ⟨BB, hBB⟩ : ∃ BB, BB = W0.heap.size := ⟨_, rfl⟩
    rw [← hBB] at own0 ⊢
    have hlt0 : BB < W1.heap.size := by rw [hW, hBB]; simp
    have bA := bA.trans (bW.mono bA.size)
    refine hK.out _ _ (HT.out _ bA) (fun _ => ?_)
    clear hK K hW bW hBB
    try simp only [Act.put, List.setIfInBounds_toArray, List.set_cons_zero, List.set_cons_succ]
    refine rd2 4 7 (fun K hK => ?_) (fun K hK => ?_)
    · go_simp
      go_at_call 26
      refine (HC.out _ bA).mono ?_
      rintro e W2 ⟨⟨u, yy, rfl, hP, hPc, hPy⟩, bW⟩
      have hlt0 : BB < W2.heap.size := Nat.lt_of_lt_of_le hlt0 bW.size
      have own0 := own_on own0 bW
      have bA := bA.trans (bW.mono bA.size)
      refine hK.out _ _ (HT.out _ bA) (fun _ => ?_)
      clear hK K bW
      try simp only [Act.put, List.setIfInBounds_toArray, List.set_cons_zero, List.set_cons_succ]
      refine rd2 5 7 (fun K hK => ?_) (fun K hK => ?_)
      · have hyl : yy.length ≤ 500 := by have := congrArg List.length hPy; rw [List.length_map] at this; omega
        obtain ⟨v1, W3, hr1, own1, hg1⟩ := run_append_pvs W2 wd.heap.size 23 0 (.slice (some ⟨BB, 0, none⟩) 0 0) [] own0 u yy hP (by omega) bA.size
        have bB : Below wd.heap.size wd W3 := bA.grown hg1 bA.size (fun k hk => (own0.lt k hk).1)
        rw [Nat.zero_add, List.nil_append] at own1
        refine wp_app _ _ 23 rfl _ _ v1 _ (by rfl) (by rfl) hr1 ?_
        have bA := bB
        refine hK.out _ _ (HT.out _ bA) (fun _ => ?_)
        clear hK K hr1 hg1 own0 hP bB
        try simp only [Act.put, List.setIfInBounds_toArray, List.set_cons_zero, List.set_cons_succ]
        refine rdH 7 (fun K hK => ?_)
        go_simp
        obtain ⟨W4, hW⟩ : ∃ Wn, Wn = W3.alloc (.cells #[.int .i64 z.k, .int .i64 z.n, .int .i64 z.t, .string z.s, .string z.f] 38) := ⟨_, rfl⟩
        rw [← hW]
        have bW : Below W3.heap.size W3 W4 := by rw [hW]; exact (Below.refl _ _).alloc (Nat.le_refl _) _
        have own1 := own_on own1 bW
        have hE : W4.heap[W3.heap.size]? = some (.cells #[.int .i64 z.k, .int .i64 z.n, .int .i64 z.t, .string z.s, .string z.f] 38) := by rw [hW]; exact heap_alloc_new _ _
        obtain ⟨EE, hEE⟩ : ∃ EE, EE = W3.heap.size := ⟨_, rfl⟩
        rw [← hEE] at hE ⊢
        have hEl : EE < W4.heap.size := (Array.getElem?_eq_some_iff.1 hE).1
        have bA := bA.trans (bW.mono bA.size)
        refine hK.out _ _ (HT.out _ bA) (fun _ => ?_)
        clear hK K hW bW hEE
        obtain ⟨v2, w8, hr2, own2, hg2⟩ := run_append_pvs W4 wd.heap.size 23 yy.length v1 (pvsC yy) own1 (.slice (some ⟨EE, 0, none⟩) 1 1) [z] (own_one_pv hE) (by show yy.length + 1 ≤ _; omega) bA.size
        have b8 : Below wd.heap.size wd w8 := bA.grown hg2 bA.size (fun k hk => (own1.lt k hk).1)
        try simp only [Act.put, List.setIfInBounds_toArray, List.set_cons_zero, List.set_cons_succ]
        refine rdH 8 (fun K hK => ?_)
        refine wp_app _ _ 23 rfl _ _ v2 w8 (by rfl) (by rfl) hr2 ?_
        refine hK.out _ _ (HT.out _ b8) (fun _ => ?_)
        clear hK K
        try simp only [Act.put, List.setIfInBounds_toArray, List.set_cons_zero, List.set_cons_succ]
        refine rdH 9 (fun K hK => ?_)
        go_simp
        refine hK.out _ _ (HT.out _ b8) (fun _ => ?_)
        clear hK K
        try simp only [Act.put, List.setIfInBounds_toArray, List.set_cons_zero, List.set_cons_succ]
        refine wpAnyH_done (by kernel_rfl) ?_ _
        have HFIN : Hid (AskOut w (la ++ [ptV z]) (.returned v2) w8) := by
          have hl : (yy ++ [z]).length = yy.length + 1 := by simp
          refine ⟨⟨v2, yy ++ [z], rfl, PLst.of_owns (base := wd.heap.size) ?_, ?_, by rw [List.map_append, hPy]; rfl⟩, BW.out.trans (b8.mono BW.out.size)⟩
          · rw [hl, pvsC_append]; exact own2
          · obtain ⟨a, c, e, hc⟩ := own_formD own2; rw [e]; exact fun a n c h => by injection h with h1 h2 h3; omega
        clear own2 hg2 hr2 own1 b8 bA HT
        go_wp2
        go_ret
        exact HFIN.out
      · go_simp
        obtain ⟨W3, hW⟩ : ∃ Wn, Wn = W2.alloc (.cells #[.int .i64 z.k, .int .i64 z.n, .int .i64 z.t, .string z.s, .string z.f] 38) := ⟨_, rfl⟩
        rw [← hW]
        have bW : Below W2.heap.size W2 W3 := by rw [hW]; exact (Below.refl _ _).alloc (Nat.le_refl _) _
        have hne : W2.heap.size ≠ BB := by have := hlt0; omega
        have own0 := own_on own0 bW
        have hP := hP.below bW (Nat.le_refl _)
        have hE : W3.heap[W2.heap.size]? = some (.cells #[.int .i64 z.k, .int .i64 z.n, .int .i64 z.t, .string z.s, .string z.f] 38) := by rw [hW]; exact heap_alloc_new _ _
        obtain ⟨EE, hEE⟩ : ∃ EE, EE = W2.heap.size := ⟨_, rfl⟩
        rw [← hEE] at hE ⊢ hne
        have hEl : EE < W3.heap.size := (Array.getElem?_eq_some_iff.1 hE).1
        have bA := bA.trans (bW.mono bA.size)
        refine hK.out _ _ (HT.out _ bA) (fun _ => ?_)
        clear hK K hW bW hEE
        try simp only [Act.put, List.setIfInBounds_toArray, List.set_cons_zero, List.set_cons_succ]
        refine rdH 5 (fun K hK => ?_)
        have hyl : yy.length ≤ 500 := by have := congrArg List.length hPy; rw [List.length_map] at this; omega
        obtain ⟨v1, W4, hr1, own1, hg1⟩ := run_append_pvs W3 wd.heap.size 23 0 (.slice (some ⟨BB, 0, none⟩) 0 0) [] own0 u yy hP (by omega) bA.size
        have bB : Below wd.heap.size wd W4 := bA.grown hg1 bA.size (fun k hk => (own0.lt k hk).1)
        rw [Nat.zero_add, List.nil_append] at own1
        have hE := (hg1.block EE (Array.getElem?_eq_some_iff.1 hE).1 (by intro h; exact hne (Option.some.inj h))).trans hE
        refine wp_app _ _ 23 rfl _ _ v1 _ (by rfl) (by rfl) hr1 ?_
        have bA := bB
        refine hK.out _ _ (HT.out _ bA) (fun _ => ?_)
        clear hK K hr1 hg1 own0 hP bB
        obtain ⟨v2, w8, hr2, own2, hg2⟩ := run_append_pvs W4 wd.heap.size 23 yy.length v1 (pvsC yy) own1 (.slice (some ⟨EE, 0, none⟩) 1 1) [z] (own_one_pv hE) (by show yy.length + 1 ≤ _; omega) bA.size
        have b8 : Below wd.heap.size wd w8 := bA.grown hg2 bA.size (fun k hk => (own1.lt k hk).1)
        try simp only [Act.put, List.setIfInBounds_toArray, List.set_cons_zero, List.set_cons_succ]
        refine rdH 8 (fun K hK => ?_)
        refine wp_app _ _ 23 rfl _ _ v2 w8 (by rfl) (by rfl) hr2 ?_
        refine hK.out _ _ (HT.out _ b8) (fun _ => ?_)
        clear hK K
        try simp only [Act.put, List.setIfInBounds_toArray, List.set_cons_zero, List.set_cons_succ]
        refine rdH 9 (fun K hK => ?_)
        go_simp
        refine hK.out _ _ (HT.out _ b8) (fun _ => ?_)
        clear hK K
        try simp only [Act.put, List.setIfInBounds_toArray, List.set_cons_zero, List.set_cons_succ]
        refine wpAnyH_done (by kernel_rfl) ?_ _
        have HFIN : Hid (AskOut w (la ++ [ptV z]) (.returned v2) w8) := by
          have hl : (yy ++ [z]).length = yy.length + 1 := by simp
          refine ⟨⟨v2, yy ++ [z], rfl, PLst.of_owns (base := wd.heap.size) ?_, ?_, by rw [List.map_append, hPy]; rfl⟩, BW.out.trans (b8.mono BW.out.size)⟩
          · rw [hl, pvsC_append]; exact own2
          · obtain ⟨a, c, e, hc⟩ := own_formD own2; rw [e]; exact fun a n c h => by injection h with h1 h2 h3; omega
        clear own2 hg2 hr2 own1 b8 bA HT
        go_wp2
        go_ret
        exact HFIN.out
    · go_simp
      obtain ⟨W2, hW⟩ : ∃ Wn, Wn = W1.alloc (.cells #[.int .i64 z.k, .int .i64 z.n, .int .i64 z.t, .string z.s, .string z.f] 38) := ⟨_, rfl⟩
      rw [← hW]
      have bW : Below W1.heap.size W1 W2 := by rw [hW]; exact (Below.refl _ _).alloc (Nat.le_refl _) _
      have hne : W1.heap.size ≠ BB := by have := hlt0; omega
      have own0 := own_on own0 bW
      have hE : W2.heap[W1.heap.size]? = some (.cells #[.int .i64 z.k, .int .i64 z.n, .int .i64 z.t, .string z.s, .string z.f] 38) := by rw [hW]; exact heap_alloc_new _ _
      obtain ⟨EE, hEE⟩ : ∃ EE, EE = W1.heap.size := ⟨_, rfl⟩
      rw [← hEE] at hE ⊢ hne
      have hEl : EE < W2.heap.size := (Array.getElem?_eq_some_iff.1 hE).1
      have bA := bA.trans (bW.mono bA.size)
      refine hK.out _ _ (HT.out _ bA) (fun _ => ?_)
      clear hK K hW bW hEE
      try simp only [Act.put, List.setIfInBounds_toArray, List.set_cons_zero, List.set_cons_succ]
      refine rdH 4 (fun K hK => ?_)
      go_simp
      go_at_call 26
      refine (HC.out _ bA).mono ?_
      rintro e W3 ⟨⟨u, yy, rfl, hP, hPc, hPy⟩, bW⟩
      have own0 := own_on own0 bW
      have hE := (bW.block _ (Array.getElem?_eq_some_iff.1 hE).1).trans hE
      have hEl : EE < W3.heap.size := (Array.getElem?_eq_some_iff.1 hE).1
      have bA := bA.trans (bW.mono bA.size)
      refine hK.out _ _ (HT.out _ bA) (fun _ => ?_)
      clear hK K bW
      try simp only [Act.put, List.setIfInBounds_toArray, List.set_cons_zero, List.set_cons_succ]
      refine rdH 5 (fun K hK => ?_)
      have hyl : yy.length ≤ 500 := by have := congrArg List.length hPy; rw [List.length_map] at this; omega
      obtain ⟨v1, W4, hr1, own1, hg1⟩ := run_append_pvs W3 wd.heap.size 23 0 (.slice (some ⟨BB, 0, none⟩) 0 0) [] own0 u yy hP (by omega) bA.size
      have bB : Below wd.heap.size wd W4 := bA.grown hg1 bA.size (fun k hk => (own0.lt k hk).1)
      rw [Nat.zero_add, List.nil_append] at own1
      have hE := (hg1.block EE (Array.getElem?_eq_some_iff.1 hE).1 (by intro h; exact hne (Option.some.inj h))).trans hE
      refine wp_app _ _ 23 rfl _ _ v1 _ (by rfl) (by rfl) hr1 ?_
      have bA := bB
      refine hK.out _ _ (HT.out _ bA) (fun _ => ?_)
      clear hK K hr1 hg1 own0 hP bB
      obtain ⟨v2, w8, hr2, own2, hg2⟩ := run_append_pvs W4 wd.heap.size 23 yy.length v1 (pvsC yy) own1 (.slice (some ⟨EE, 0, none⟩) 1 1) [z] (own_one_pv hE) (by show yy.length + 1 ≤ _; omega) bA.size
      have b8 : Below wd.heap.size wd w8 := bA.grown hg2 bA.size (fun k hk => (own1.lt k hk).1)
      try simp only [Act.put, List.setIfInBounds_toArray, List.set_cons_zero, List.set_cons_succ]
      refine rdH 8 (fun K hK => ?_)
      refine wp_app _ _ 23 rfl _ _ v2 w8 (by rfl) (by rfl) hr2 ?_
      refine hK.out _ _ (HT.out _ b8) (fun _ => ?_)
      clear hK K
      try simp only [Act.put, List.setIfInBounds_toArray, List.set_cons_zero, List.set_cons_succ]
      refine rdH 9 (fun K hK => ?_)
      go_simp
      refine hK.out _ _ (HT.out _ b8) (fun _ => ?_)
      clear hK K
      try simp only [Act.put, List.setIfInBounds_toArray, List.set_cons_zero, List.set_cons_succ]
      refine wpAnyH_done (by kernel_rfl) ?_ _
      have HFIN : Hid (AskOut w (la ++ [ptV z]) (.returned v2) w8) := by
        have hl : (yy ++ [z]).length = yy.length + 1 := by simp
        refine ⟨⟨v2, yy ++ [z], rfl, PLst.of_owns (base := wd.heap.size) ?_, ?_, by rw [List.map_append, hPy]; rfl⟩, BW.out.trans (b8.mono BW.out.size)⟩
        · rw [hl, pvsC_append]; exact own2
        · obtain ⟨a, c, e, hc⟩ := own_formD own2; rw [e]; exact fun a n c h => by injection h with h1 h2 h3; omega
      clear own2 hg2 hr2 own1 b8 bA HT
      go_wp2
      go_ret
      exact HFIN.out
  · go_simp
    go_at_call 26
    refine (HC.out _ bA).mono ?_
    rintro e W1 ⟨⟨u, yy, rfl, hP, hPc, hPy⟩, bW⟩
    have bA := bA.trans (bW.mono bA.size)
    refine hK.out _ _ (HT.out _ bA) (fun _ => ?_)
    clear hK K bW
    try simp only [Act.put, List.setIfInBounds_toArray, List.set_cons_zero, List.set_cons_succ]
    refine rd2 0 7 (fun K hK => ?_) (fun K hK => ?_)
    · go_simp
      obtain ⟨W2, hW⟩ : ∃ Wn, Wn = W1.alloc (.cells #[] 38) := ⟨_, rfl⟩
      rw [← hW]
      have bW : Below W1.heap.size W1 W2 := by rw [hW]; exact (Below.refl _ _).alloc (Nat.le_refl _) _
      have hP := hP.below bW (Nat.le_refl _)
      have own0 : W2.ownsRow wd.heap.size 38 5 (.slice (some ⟨W1.heap.size, 0, none⟩) 0 0) 0 [] := by rw [hW]; exact World.ownsRow_lit (e := 38) (size := 5) W1 #[] 0 bA.size (by decide) rfl
      obtain ⟨BB, hBB⟩ : ∃ BB, BB = W1.heap.size := ⟨_, rfl⟩
      rw [← hBB] at own0 ⊢
      have hlt0 : BB < W2.heap.size := by rw [hW, hBB]; simp
      have bA := bA.trans (bW.mono bA.size)
      refine hK.out _ _ (HT.out _ bA) (fun _ => ?_)
      clear hK K hW bW hBB
      try simp only [Act.put, List.setIfInBounds_toArray, List.set_cons_zero, List.set_cons_succ]
      refine rd2 5 7 (fun K hK => ?_) (fun K hK => ?_)
      · have hyl : yy.length ≤ 500 := by have := congrArg List.length hPy; rw [List.length_map] at this; omega
        obtain ⟨v1, W3, hr1, own1, hg1⟩ := run_append_pvs W2 wd.heap.size 23 0 (.slice (some ⟨BB, 0, none⟩) 0 0) [] own0 u yy hP (by omega) bA.size
        have bB : Below wd.heap.size wd W3 := bA.grown hg1 bA.size (fun k hk => (own0.lt k hk).1)
        rw [Nat.zero_add, List.nil_append] at own1
        refine wp_app _ _ 23 rfl _ _ v1 _ (by rfl) (by rfl) hr1 ?_
        have bA := bB
        refine hK.out _ _ (HT.out _ bA) (fun _ => ?_)
        clear hK K hr1 hg1 own0 hP bB
        try simp only [Act.put, List.setIfInBounds_toArray, List.set_cons_zero, List.set_cons_succ]
        refine rdH 7 (fun K hK => ?_)
        go_simp
        obtain ⟨W4, hW⟩ : ∃ Wn, Wn = W3.alloc (.cells #[.int .i64 z.k, .int .i64 z.n, .int .i64 z.t, .string z.s, .string z.f] 38) := ⟨_, rfl⟩
        rw [← hW]
        have bW : Below W3.heap.size W3 W4 := by rw [hW]; exact (Below.refl _ _).alloc (Nat.le_refl _) _
        have own1 := own_on own1 bW
        have hE : W4.heap[W3.heap.size]? = some (.cells #[.int .i64 z.k, .int .i64 z.n, .int .i64 z.t, .string z.s, .string z.f] 38) := by rw [hW]; exact heap_alloc_new _ _
        obtain ⟨EE, hEE⟩ : ∃ EE, EE = W3.heap.size := ⟨_, rfl⟩
        rw [← hEE] at hE ⊢
        have hEl : EE < W4.heap.size := (Array.getElem?_eq_some_iff.1 hE).1
        have bA := bA.trans (bW.mono bA.size)
        refine hK.out _ _ (HT.out _ bA) (fun _ => ?_)
        clear hK K hW bW hEE
        obtain ⟨v2, w8, hr2, own2, hg2⟩ := run_append_pvs W4 wd.heap.size 23 yy.length v1 (pvsC yy) own1 (.slice (some ⟨EE, 0, none⟩) 1 1) [z] (own_one_pv hE) (by show yy.length + 1 ≤ _; omega) bA.size
        have b8 : Below wd.heap.size wd w8 := bA.grown hg2 bA.size (fun k hk => (own1.lt k hk).1)
        try simp only [Act.put, List.setIfInBounds_toArray, List.set_cons_zero, List.set_cons_succ]
        refine rdH 8 (fun K hK => ?_)
        refine wp_app _ _ 23 rfl _ _ v2 w8 (by rfl) (by rfl) hr2 ?_
        refine hK.out _ _ (HT.out _ b8) (fun _ => ?_)
        clear hK K
        try simp only [Act.put, List.setIfInBounds_toArray, List.set_cons_zero, List.set_cons_succ]
        refine rdH 9 (fun K hK => ?_)
        go_simp
        refine hK.out _ _ (HT.out _ b8) (fun _ => ?_)
        clear hK K
        try simp only [Act.put, List.setIfInBounds_toArray, List.set_cons_zero, List.set_cons_succ]
        refine wpAnyH_done (by kernel_rfl) ?_ _
        have HFIN : Hid (AskOut w (la ++ [ptV z]) (.returned v2) w8) := by
          have hl : (yy ++ [z]).length = yy.length + 1 := by simp
          refine ⟨⟨v2, yy ++ [z], rfl, PLst.of_owns (base := wd.heap.size) ?_, ?_, by rw [List.map_append, hPy]; rfl⟩, BW.out.trans (b8.mono BW.out.size)⟩
          · rw [hl, pvsC_append]; exact own2
          · obtain ⟨a, c, e, hc⟩ := own_formD own2; rw [e]; exact fun a n c h => by injection h with h1 h2 h3; omega
        clear own2 hg2 hr2 own1 b8 bA HT
        go_wp2
        go_ret
        exact HFIN.out
      · go_simp
        obtain ⟨W3, hW⟩ : ∃ Wn, Wn = W2.alloc (.cells #[.int .i64 z.k, .int .i64 z.n, .int .i64 z.t, .string z.s, .string z.f] 38) := ⟨_, rfl⟩
        rw [← hW]
        have bW : Below W2.heap.size W2 W3 := by rw [hW]; exact (Below.refl _ _).alloc (Nat.le_refl _) _
        have hne : W2.heap.size ≠ BB := by have := hlt0; omega
        have own0 := own_on own0 bW
        have hP := hP.below bW (Nat.le_refl _)
        have hE : W3.heap[W2.heap.size]? = some (.cells #[.int .i64 z.k, .int .i64 z.n, .int .i64 z.t, .string z.s, .string z.f] 38) := by rw [hW]; exact heap_alloc_new _ _
        obtain ⟨EE, hEE⟩ : ∃ EE, EE = W2.heap.size := ⟨_, rfl⟩
        rw [← hEE] at hE ⊢ hne
        have hEl : EE < W3.heap.size := (Array.getElem?_eq_some_iff.1 hE).1
        have bA := bA.trans (bW.mono bA.size)
        refine hK.out _ _ (HT.out _ bA) (fun _ => ?_)
        clear hK K hW bW hEE
        try simp only [Act.put, List.setIfInBounds_toArray, List.set_cons_zero, List.set_cons_succ]
        refine rdH 5 (fun K hK => ?_)
        have hyl : yy.length ≤ 500 := by have := congrArg List.length hPy; rw [List.length_map] at this; omega
        obtain ⟨v1, W4, hr1, own1, hg1⟩ := run_append_pvs W3 wd.heap.size 23 0 (.slice (some ⟨BB, 0, none⟩) 0 0) [] own0 u yy hP (by omega) bA.size
        have bB : Below wd.heap.size wd W4 := bA.grown hg1 bA.size (fun k hk => (own0.lt k hk).1)
        rw [Nat.zero_add, List.nil_append] at own1
        have hE := (hg1.block EE (Array.getElem?_eq_some_iff.1 hE).1 (by intro h; exact hne (Option.some.inj h))).trans hE
        refine wp_app _ _ 23 rfl _ _ v1 _ (by rfl) (by rfl) hr1 ?_
        have bA := bB
        refine hK.out _ _ (HT.out _ bA) (fun _ => ?_)
        clear hK K hr1 hg1 own0 hP bB
        obtain ⟨v2, w8, hr2, own2, hg2⟩ := run_append_pvs W4 wd.heap.size 23 yy.length v1 (pvsC yy) own1 (.slice (some ⟨EE, 0, none⟩) 1 1) [z] (own_one_pv hE) (by show yy.length + 1 ≤ _; omega) bA.size
        have b8 : Below wd.heap.size wd w8 := bA.grown hg2 bA.size (fun k hk => (own1.lt k hk).1)
        try simp only [Act.put, List.setIfInBounds_toArray, List.set_cons_zero, List.set_cons_succ]
        refine rdH 8 (fun K hK => ?_)
        refine wp_app _ _ 23 rfl _ _ v2 w8 (by rfl) (by rfl) hr2 ?_
        refine hK.out _ _ (HT.out _ b8) (fun _ => ?_)
        clear hK K
        try simp only [Act.put, List.setIfInBounds_toArray, List.set_cons_zero, List.set_cons_succ]
        refine rdH 9 (fun K hK => ?_)
        go_simp
        refine hK.out _ _ (HT.out _ b8) (fun _ => ?_)
        clear hK K
        try simp only [Act.put, List.setIfInBounds_toArray, List.set_cons_zero, List.set_cons_succ]
        refine wpAnyH_done (by kernel_rfl) ?_ _
        have HFIN : Hid (AskOut w (la ++ [ptV z]) (.returned v2) w8) := by
          have hl : (yy ++ [z]).length = yy.length + 1 := by simp
          refine ⟨⟨v2, yy ++ [z], rfl, PLst.of_owns (base := wd.heap.size) ?_, ?_, by rw [List.map_append, hPy]; rfl⟩, BW.out.trans (b8.mono BW.out.size)⟩
          · rw [hl, pvsC_append]; exact own2
          · obtain ⟨a, c, e, hc⟩ := own_formD own2; rw [e]; exact fun a n c h => by injection h with h1 h2 h3; omega
        clear own2 hg2 hr2 own1 b8 bA HT
        go_wp2
        go_ret
        exact HFIN.out
    · go_simp
      obtain ⟨W2, hW⟩ : ∃ Wn, Wn = W1.alloc (.cells #[.int .i64 z.k, .int .i64 z.n, .int .i64 z.t, .string z.s, .string z.f] 38) := ⟨_, rfl⟩
      rw [← hW]
      have bW : Below W1.heap.size W1 W2 := by rw [hW]; exact (Below.refl _ _).alloc (Nat.le_refl _) _
      have hP := hP.below bW (Nat.le_refl _)
      have hE : W2.heap[W1.heap.size]? = some (.cells #[.int .i64 z.k, .int .i64 z.n, .int .i64 z.t, .string z.s, .string z.f] 38) := by rw [hW]; exact heap_alloc_new _ _
      obtain ⟨EE, hEE⟩ : ∃ EE, EE = W1.heap.size := ⟨_, rfl⟩
      rw [← hEE] at hE ⊢
      have hEl : EE < W2.heap.size := (Array.getElem?_eq_some_iff.1 hE).1
      have bA := bA.trans (bW.mono bA.size)
      refine hK.out _ _ (HT.out _ bA) (fun _ => ?_)
      clear hK K hW bW hEE
      try simp only [Act.put, List.setIfInBounds_toArray, List.set_cons_zero, List.set_cons_succ]
      refine rdH 0 (fun K hK => ?_)
      go_simp
      obtain ⟨W3, hW⟩ : ∃ Wn, Wn = W2.alloc (.cells #[] 38) := ⟨_, rfl⟩
      rw [← hW]
      have bW : Below W2.heap.size W2 W3 := by rw [hW]; exact (Below.refl _ _).alloc (Nat.le_refl _) _
      have hP := hP.below bW (Nat.le_refl _)
      have hE := (bW.block _ (Array.getElem?_eq_some_iff.1 hE).1).trans hE
      have hE0 : EE < W2.heap.size := hEl
      have own0 : W3.ownsRow wd.heap.size 38 5 (.slice (some ⟨W2.heap.size, 0, none⟩) 0 0) 0 [] := by rw [hW]; exact World.ownsRow_lit (e := 38) (size := 5) W2 #[] 0 bA.size (by decide) rfl
      have hne : EE ≠ W2.heap.size := by omega
      obtain ⟨BB, hBB⟩ : ∃ BB, BB = W2.heap.size := ⟨_, rfl⟩
      rw [← hBB] at own0 ⊢ hne
      have hEl : EE < W3.heap.size := (Array.getElem?_eq_some_iff.1 hE).1
      have bA := bA.trans (bW.mono bA.size)
      refine hK.out _ _ (HT.out _ bA) (fun _ => ?_)
      clear hK K hW bW hBB
      try simp only [Act.put, List.setIfInBounds_toArray, List.set_cons_zero, List.set_cons_succ]
      refine rdH 5 (fun K hK => ?_)
      have hyl : yy.length ≤ 500 := by have := congrArg List.length hPy; rw [List.length_map] at this; omega
      obtain ⟨v1, W4, hr1, own1, hg1⟩ := run_append_pvs W3 wd.heap.size 23 0 (.slice (some ⟨BB, 0, none⟩) 0 0) [] own0 u yy hP (by omega) bA.size
      have bB : Below wd.heap.size wd W4 := bA.grown hg1 bA.size (fun k hk => (own0.lt k hk).1)
      rw [Nat.zero_add, List.nil_append] at own1
      have hE := (hg1.block EE (Array.getElem?_eq_some_iff.1 hE).1 (by intro h; exact hne (Option.some.inj h))).trans hE
      refine wp_app _ _ 23 rfl _ _ v1 _ (by rfl) (by rfl) hr1 ?_
      have bA := bB
      refine hK.out _ _ (HT.out _ bA) (fun _ => ?_)
      clear hK K hr1 hg1 own0 hP bB
      obtain ⟨v2, w8, hr2, own2, hg2⟩ := run_append_pvs W4 wd.heap.size 23 yy.length v1 (pvsC yy) own1 (.slice (some ⟨EE, 0, none⟩) 1 1) [z] (own_one_pv hE) (by show yy.length + 1 ≤ _; omega) bA.size
      have b8 : Below wd.heap.size wd w8 := bA.grown hg2 bA.size (fun k hk => (own1.lt k hk).1)
      try simp only [Act.put, List.setIfInBounds_toArray, List.set_cons_zero, List.set_cons_succ]
      refine rdH 8 (fun K hK => ?_)
      refine wp_app _ _ 23 rfl _ _ v2 w8 (by rfl) (by rfl) hr2 ?_
      refine hK.out _ _ (HT.out _ b8) (fun _ => ?_)
      clear hK K
      try simp only [Act.put, List.setIfInBounds_toArray, List.set_cons_zero, List.set_cons_succ]
      refine rdH 9 (fun K hK => ?_)
      go_simp
      refine hK.out _ _ (HT.out _ b8) (fun _ => ?_)
      clear hK K
      try simp only [Act.put, List.setIfInBounds_toArray, List.set_cons_zero, List.set_cons_succ]
      refine wpAnyH_done (by kernel_rfl) ?_ _
      have HFIN : Hid (AskOut w (la ++ [ptV z]) (.returned v2) w8) := by
        have hl : (yy ++ [z]).length = yy.length + 1 := by simp
        refine ⟨⟨v2, yy ++ [z], rfl, PLst.of_owns (base := wd.heap.size) ?_, ?_, by rw [List.map_append, hPy]; rfl⟩, BW.out.trans (b8.mono BW.out.size)⟩
        · rw [hl, pvsC_append]; exact own2
        · obtain ⟨a, c, e, hc⟩ := own_formD own2; rw [e]; exact fun a n c h => by injection h with h1 h2 h3; omega
      clear own2 hg2 hr2 own1 b8 bA HT
      go_wp2
      go_ret
      exact HFIN.out
  · go_simp
    obtain ⟨W1, hW⟩ : ∃ Wn, Wn = W0.alloc (.cells #[.int .i64 z.k, .int .i64 z.n, .int .i64 z.t, .string z.s, .string z.f] 38) := ⟨_, rfl⟩
    rw [← hW]
    have bW : Below W0.heap.size W0 W1 := by rw [hW]; exact (Below.refl _ _).alloc (Nat.le_refl _) _
    have hE : W1.heap[W0.heap.size]? = some (.cells #[.int .i64 z.k, .int .i64 z.n, .int .i64 z.t, .string z.s, .string z.f] 38) := by rw [hW]; exact heap_alloc_new _ _
    obtain ⟨EE, hEE⟩ : ∃ EE, EE = W0.heap.size := ⟨_, rfl⟩
    rw [← hEE] at hE ⊢
    have hEl : EE < W1.heap.size := (Array.getElem?_eq_some_iff.1 hE).1
    have bA := bA.trans (bW.mono bA.size)
    refine hK.out _ _ (HT.out _ bA) (fun _ => ?_)
    clear hK K hW bW hEE
    try simp only [Act.put, List.setIfInBounds_toArray, List.set_cons_zero, List.set_cons_succ]
    refine rd2 0 4 (fun K hK => ?_) (fun K hK => ?_)
    · go_simp
      obtain ⟨W2, hW⟩ : ∃ Wn, Wn = W1.alloc (.cells #[] 38) := ⟨_, rfl⟩
      rw [← hW]
      have bW : Below W1.heap.size W1 W2 := by rw [hW]; exact (Below.refl _ _).alloc (Nat.le_refl _) _
      have hE := (bW.block _ (Array.getElem?_eq_some_iff.1 hE).1).trans hE
      have hE0 : EE < W1.heap.size := hEl
      have own0 : W2.ownsRow wd.heap.size 38 5 (.slice (some ⟨W1.heap.size, 0, none⟩) 0 0) 0 [] := by rw [hW]; exact World.ownsRow_lit (e := 38) (size := 5) W1 #[] 0 bA.size (by decide) rfl
      have hne : EE ≠ W1.heap.size := by omega
      obtain ⟨BB, hBB⟩ : ∃ BB, BB = W1.heap.size := ⟨_, rfl⟩
      rw [← hBB] at own0 ⊢ hne
      have hEl : EE < W2.heap.size := (Array.getElem?_eq_some_iff.1 hE).1
      have bA := bA.trans (bW.mono bA.size)
      refine hK.out _ _ (HT.out _ bA) (fun _ => ?_)
      clear hK K hW bW hBB
      try simp only [Act.put, List.setIfInBounds_toArray, List.set_cons_zero, List.set_cons_succ]
      refine rdH 4 (fun K hK => ?_)
      go_simp
      go_at_call 26
      refine (HC.out _ bA).mono ?_
      rintro e W3 ⟨⟨u, yy, rfl, hP, hPc, hPy⟩, bW⟩
      have own0 := own_on own0 bW
      have hE := (bW.block _ (Array.getElem?_eq_some_iff.1 hE).1).trans hE
      have hEl : EE < W3.heap.size := (Array.getElem?_eq_some_iff.1 hE).1
      have bA := bA.trans (bW.mono bA.size)
      refine hK.out _ _ (HT.out _ bA) (fun _ => ?_)
      clear hK K bW
      try simp only [Act.put, List.setIfInBounds_toArray, List.set_cons_zero, List.set_cons_succ]
      refine rdH 5 (fun K hK => ?_)
      have hyl : yy.length ≤ 500 := by have := congrArg List.length hPy; rw [List.length_map] at this; omega
      obtain ⟨v1, W4, hr1, own1, hg1⟩ := run_append_pvs W3 wd.heap.size 23 0 (.slice (some ⟨BB, 0, none⟩) 0 0) [] own0 u yy hP (by omega) bA.size
      have bB : Below wd.heap.size wd W4 := bA.grown hg1 bA.size (fun k hk => (own0.lt k hk).1)
      rw [Nat.zero_add, List.nil_append] at own1
      have hE := (hg1.block EE (Array.getElem?_eq_some_iff.1 hE).1 (by intro h; exact hne (Option.some.inj h))).trans hE
      refine wp_app _ _ 23 rfl _ _ v1 _ (by rfl) (by rfl) hr1 ?_
      have bA := bB
      refine hK.out _ _ (HT.out _ bA) (fun _ => ?_)
      clear hK K hr1 hg1 own0 hP bB
      obtain ⟨v2, w8, hr2, own2, hg2⟩ := run_append_pvs W4 wd.heap.size 23 yy.length v1 (pvsC yy) own1 (.slice (some ⟨EE, 0, none⟩) 1 1) [z] (own_one_pv hE) (by show yy.length + 1 ≤ _; omega) bA.size
      have b8 : Below wd.heap.size wd w8 := bA.grown hg2 bA.size (fun k hk => (own1.lt k hk).1)
      try simp only [Act.put, List.setIfInBounds_toArray, List.set_cons_zero, List.set_cons_succ]
      refine rdH 8 (fun K hK => ?_)
      refine wp_app _ _ 23 rfl _ _ v2 w8 (by rfl) (by rfl) hr2 ?_
      refine hK.out _ _ (HT.out _ b8) (fun _ => ?_)
      clear hK K
      try simp only [Act.put, List.setIfInBounds_toArray, List.set_cons_zero, List.set_cons_succ]
      refine rdH 9 (fun K hK => ?_)
      go_simp
      refine hK.out _ _ (HT.out _ b8) (fun _ => ?_)
      clear hK K
      try simp only [Act.put, List.setIfInBounds_toArray, List.set_cons_zero, List.set_cons_succ]
      refine wpAnyH_done (by kernel_rfl) ?_ _
      have HFIN : Hid (AskOut w (la ++ [ptV z]) (.returned v2) w8) := by
        have hl : (yy ++ [z]).length = yy.length + 1 := by simp
        refine ⟨⟨v2, yy ++ [z], rfl, PLst.of_owns (base := wd.heap.size) ?_, ?_, by rw [List.map_append, hPy]; rfl⟩, BW.out.trans (b8.mono BW.out.size)⟩
        · rw [hl, pvsC_append]; exact own2
        · obtain ⟨a, c, e, hc⟩ := own_formD own2; rw [e]; exact fun a n c h => by injection h with h1 h2 h3; omega
      clear own2 hg2 hr2 own1 b8 bA HT
      go_wp2
      go_ret
      exact HFIN.out
    · go_simp
      go_at_call 26
      refine (HC.out _ bA).mono ?_
      rintro e W2 ⟨⟨u, yy, rfl, hP, hPc, hPy⟩, bW⟩
      have hE := (bW.block _ (Array.getElem?_eq_some_iff.1 hE).1).trans hE
      have hEl : EE < W2.heap.size := (Array.getElem?_eq_some_iff.1 hE).1
      have bA := bA.trans (bW.mono bA.size)
      refine hK.out _ _ (HT.out _ bA) (fun _ => ?_)
      clear hK K bW
      try simp only [Act.put, List.setIfInBounds_toArray, List.set_cons_zero, List.set_cons_succ]
      refine rdH 0 (fun K hK => ?_)
      go_simp
      obtain ⟨W3, hW⟩ : ∃ Wn, Wn = W2.alloc (.cells #[] 38) := ⟨_, rfl⟩
      rw [← hW]
      have bW : Below W2.heap.size W2 W3 := by rw [hW]; exact (Below.refl _ _).alloc (Nat.le_refl _) _
      have hP := hP.below bW (Nat.le_refl _)
      have hE := (bW.block _ (Array.getElem?_eq_some_iff.1 hE).1).trans hE
      have hE0 : EE < W2.heap.size := hEl
      have own0 : W3.ownsRow wd.heap.size 38 5 (.slice (some ⟨W2.heap.size, 0, none⟩) 0 0) 0 [] := by rw [hW]; exact World.ownsRow_lit (e := 38) (size := 5) W2 #[] 0 bA.size (by decide) rfl
      have hne : EE ≠ W2.heap.size := by omega
      obtain ⟨BB, hBB⟩ : ∃ BB, BB = W2.heap.size := ⟨_, rfl⟩
      rw [← hBB] at own0 ⊢ hne
      have hEl : EE < W3.heap.size := (Array.getElem?_eq_some_iff.1 hE).1
      have bA := bA.trans (bW.mono bA.size)
      refine hK.out _ _ (HT.out _ bA) (fun _ => ?_)
      clear hK K hW bW hBB
      try simp only [Act.put, List.setIfInBounds_toArray, List.set_cons_zero, List.set_cons_succ]
      refine rdH 5 (fun K hK => ?_)
      have hyl : yy.length ≤ 500 := by have := congrArg List.length hPy; rw [List.length_map] at this; omega
      obtain ⟨v1, W4, hr1, own1, hg1⟩ := run_append_pvs W3 wd.heap.size 23 0 (.slice (some ⟨BB, 0, none⟩) 0 0) [] own0 u yy hP (by omega) bA.size
      have bB : Below wd.heap.size wd W4 := bA.grown hg1 bA.size (fun k hk => (own0.lt k hk).1)
      rw [Nat.zero_add, List.nil_append] at own1
      have hE := (hg1.block EE (Array.getElem?_eq_some_iff.1 hE).1 (by intro h; exact hne (Option.some.inj h))).trans hE
      refine wp_app _ _ 23 rfl _ _ v1 _ (by rfl) (by rfl) hr1 ?_
      have bA := bB
      refine hK.out _ _ (HT.out _ bA) (fun _ => ?_)
      clear hK K hr1 hg1 own0 hP bB
      obtain ⟨v2, w8, hr2, own2, hg2⟩ := run_append_pvs W4 wd.heap.size 23 yy.length v1 (pvsC yy) own1 (.slice (some ⟨EE, 0, none⟩) 1 1) [z] (own_one_pv hE) (by show yy.length + 1 ≤ _; omega) bA.size
      have b8 : Below wd.heap.size wd w8 := bA.grown hg2 bA.size (fun k hk => (own1.lt k hk).1)
      try simp only [Act.put, List.setIfInBounds_toArray, List.set_cons_zero, List.set_cons_succ]
      refine rdH 8 (fun K hK => ?_)
      refine wp_app _ _ 23 rfl _ _ v2 w8 (by rfl) (by rfl) hr2 ?_
      refine hK.out _ _ (HT.out _ b8) (fun _ => ?_)
      clear hK K
      try simp only [Act.put, List.setIfInBounds_toArray, List.set_cons_zero, List.set_cons_succ]
      refine rdH 9 (fun K hK => ?_)
      go_simp
      refine hK.out _ _ (HT.out _ b8) (fun _ => ?_)
      clear hK K
      try simp only [Act.put, List.setIfInBounds_toArray, List.set_cons_zero, List.set_cons_succ]
      refine wpAnyH_done (by kernel_rfl) ?_ _
      have HFIN : Hid (AskOut w (la ++ [ptV z]) (.returned v2) w8) := by
        have hl : (yy ++ [z]).length = yy.length + 1 := by simp
        refine ⟨⟨v2, yy ++ [z], rfl, PLst.of_owns (base := wd.heap.size) ?_, ?_, by rw [List.map_append, hPy]; rfl⟩, BW.out.trans (b8.mono BW.out.size)⟩
        · rw [hl, pvsC_append]; exact own2
        · obtain ⟨a, c, e, hc⟩ := own_formD own2; rw [e]; exact fun a n c h => by injection h with h1 h2 h3; omega
      clear own2 hg2 hr2 own1 b8 bA HT
      go_wp2
      go_ret
      exact HFIN.out
end Go.Proofs.YtldjiieckddhkaaGreatDoor
