import Derived.Test.YtldjiieckddhkaaGreatDoorEkV
import Derived.Deep.Cut
import Derived.Deep.CutRange
namespace Go.Proofs.YtldjiieckddhkaaGreatDoor
open Go.RowKit Go.Sort
theorem run_append_pvB (w : World) (base ty n : Nat) (v : Value) (xs : List Value) (hown : w.ownsRow base 38 5 v n xs) (u : Value) (l : List Pv) (hL : PLst w u l) (hbytes : n + l.length ≤ 1000000) (hbase : base ≤ w.heap.size) :
    ∃ v' w', (Builtin.append_ #[23, 23] ty #[v, u]).run Tryz.prog w = .ok v' w' ∧ w'.ownsRow base 38 5 v' (n + l.length) (xs ++ pvsC l) ∧ w.grownBy w' v.ownBlock ∧ (v'.ownBlock = v.ownBlock ∨ v'.ownBlock = some w.heap.size) := by
  obtain ⟨i0, hi, hz0, hz1, hz2⟩ := info_parts in38
  obtain ⟨a, b, off, c, rfl, hA, hI⟩ := hL
  have main : ∀ ad : Addr, a = some ad → (∀ j x, (pvsC l)[j]? = some x → w.cell? (ad.add j) = some x) → ∃ v' w', (Builtin.append_ #[23, 23] ty #[v, .slice a l.length c]).run Tryz.prog w = .ok v' w' ∧ w'.ownsRow base 38 5 v' (n + l.length) (xs ++ pvsC l) ∧ w.grownBy w' v.ownBlock ∧ (v'.ownBlock = v.ownBlock ∨ v'.ownBlock = some w.heap.size) := fun ad had hc => by
    subst had
    obtain ⟨v', w', hr, h2, h3, h4, h5⟩ := run_append_own_at (P := Tryz.prog) w base 23 ty 38 i0 _ 5 56 Tryz.underlying23 hi hz0 hz1 hz2 rfl (by omega) _ n xs hown ad l.length c (pvsC l) (by rw [pvsC_length]) hc (pvsC_one l) (by unfold maxLen; omega) (by omega) hbase
    exact ⟨v', w', hr, h2, h3, h5⟩
  by_cases hn : 0 < l.length
  · obtain ⟨_, rfl⟩ := hA hn
    exact main _ rfl (pv_cells hI)
  · have hl : l = [] := List.eq_nil_of_length_eq_zero (by omega)
    subst hl
    cases a with
    | some ad => exact main ad rfl (fun j x hx => by cases hx)
    | none =>
      obtain ⟨a, cap, hv, hc⟩ := own_formD hown
      refine ⟨v, w, run_append_nilP ty v ⟨_, _, _, hv, hc⟩ c w, ?_, ⟨rfl, rfl, rfl, Nat.le_refl _, fun _ _ _ => rfl⟩, .inl rfl⟩
      show w.ownsRow base 38 5 v n (xs ++ [])
      rw [List.append_nil]; exact hown
theorem own_apart {v1 : Value} {BB EE n : Nat} (h : v1.ownBlock = (Value.slice (some ⟨BB, 0, none⟩) 0 0).ownBlock ∨ v1.ownBlock = some n) (hne : EE ≠ BB) (hl : EE < n) : ∀ r, v1.ownBlock = some r → r ≠ EE := fun r hr e => by
  rcases h with h | h
  · rw [hr] at h; exact hne (by have := Option.some.inj h; rw [← e]; exact this)
  · rw [hr] at h; have := Option.some.inj h; omega
theorem seg_out {p : Pt} {on : List (List Pt)} (h : ¬ (on.all (fun s => decide (s.length = 1)) = true) ∨ reckP p on.flatten = none) : segF p on = on.flatten ++ [p] := by
  unfold segF
  split
  · rename_i h1
    rcases h with h | h
    · exact absurd h1 h
    · rw [h]
  · rfl
theorem seg_in {p q : Pt} {on : List (List Pt)} (h : on.all (fun s => decide (s.length = 1)) = true) (h1 : reckP p on.flatten = some q) : segF p on = [q] := by
  unfold segF
  rw [if_pos h, h1]
set_option maxRecDepth 100000 in
set_option maxHeartbeats 12800000 in
theorem fold_one1 (z : Pv) (xa : List Pv) (v : Value) (w : World) (la : List Pt) (hX : PLst w v (xa ++ [z])) (hcp : CapOk v) (hlen : xa.length ≤ 500) (hk : z.k = 5 ∨ z.k = 6) (ho : takes (ptV z) = 1) (hla : la.length ≤ 500)
    (hra : ∀ u W, Below w.heap.size w W → PLst W u xa → CapOk u → Calls Tryz.prog 28 #[u] W (AskOut W la)) : Calls Tryz.prog 28 #[v] w (AskOut w (segF (ptV z) [la])) := by
  obtain ⟨n2, hn1⟩ : ∃ n, n = xa.length := ⟨_, rfl⟩
  have hNl : (xa ++ [z]).length = n2 + 1 := by rw [List.length_append, hn1]; rfl
  obtain ⟨ia, ic, hsl, hIa, hia⟩ := pl_take hX n2 (by rw [hNl]; omega) hcp
  rw [List.take_left' hn1.symm] at hIa
  obtain ⟨a, b, off, cap, rfl, hA, hI⟩ := hX
  rw [hNl] at hsl hcp hA ⊢
  obtain ⟨hbw, rfl⟩ := hA (by omega)
  have hz : (xa ++ [z])[n2]? = some z := by rw [List.getElem?_append_right (by omega), hn1, Nat.sub_self]; rfl
  obtain ⟨c0, c1, c2, c3, c4⟩ := hI n2 z hz
  have k1 : ((n2 + 1 : Nat) : Int) - 1 = (n2 : Int) := by omega
  have k2 : (0 : Int) ≤ (n2 : Int) := by omega
  have k3 : (n2 : Int) < ((n2 + 1 : Nat) : Int) := by omega
  have k4 : (n2 : Int) ≤ 500 := by omega
  have HIa := hide hIa
  have HCA : Hid (CapOk (.slice ia n2 ic)) := fun a n c h => by injection h with h1 h2 h3; omega
  have HLB := hide hla
  have HRA := hide hra
  clear hlen hz hn1 hNl hra hIa hia hI hA hcp hla
  generalize hNN : ((n2 + 1 : Nat) : Int) = NN at *
  generalize n2 + 1 = N1 at *
  have B1 : Hid (Below w.heap.size w (w.alloc (.cells #[.int .i64 z.k, .int .i64 z.n, .int .i64 z.t, .string z.s, .string z.f] 38))) := (Below.refl _ _).alloc (Nat.le_refl _) _
  have X1 : Hid ((w.alloc (.cells #[.int .i64 z.k, .int .i64 z.n, .int .i64 z.t, .string z.s, .string z.f] 38)).heap[w.heap.size]? = some (.cells #[.int .i64 z.k, .int .i64 z.n, .int .i64 z.t, .string z.s, .string z.f] 38)) := heap_alloc_new w _
  have m50 := fun W => qTakes_v z W
  have hk3 : (z.k == 3) = false := by rcases hk with hk | hk <;> (rw [hk]; rfl)
  rw [ho] at m50
  have HKD := hide hk
  clear hk ho
  go_enter Tryz.func28, Tryz.ntmps28
  go_wp2_with fail
  refine (m50 _).mono ?_
  rintro e wd ⟨rfl, hbd⟩
  have BD := hide (B1.out.trans (hbd.mono B1.out.size))
  have XD : Hid (wd.heap[w.heap.size]? = some (.cells #[.int .i64 z.k, .int .i64 z.n, .int .i64 z.t, .string z.s, .string z.f] 38)) := (hbd.block _ (Array.getElem?_eq_some_iff.1 X1.out).1).trans X1.out
  clear hbd m50 B1 X1 c0 c1 c2 c3 c4
  go_wp2_with fail
  refine (HRA.out _ _ BD.out (HIa.out.below BD.out (Nat.le_refl _)) HCA.out).mono ?_
  rintro e wA ⟨⟨u1, ya, rfl, hP, hPc, hPy⟩, hbA⟩
  obtain ⟨aa, ac, rfl⟩ := hP.shapeV
  have BA := hide (BD.out.trans (hbA.mono BD.out.size))
  have HBX : Hid (wA.heap[w.heap.size]? = some (.cells #[.int .i64 z.k, .int .i64 z.n, .int .i64 z.t, .string z.s, .string z.f] 38)) := (hbA.block _ (Array.getElem?_eq_some_iff.1 XD.out).1).trans XD.out
  have HP := hide hP
  have HPY := hide hPy
  obtain ⟨yb, hyb⟩ : ∃ yb : List Pv, yb = [] := ⟨_, rfl⟩
  have HP2 : Hid (PLst wA (.slice none 0 0) yb) := by rw [hyb]; exact ⟨none, 0, 0, 0, rfl, fun h => absurd h (Nat.lt_irrefl 0), fun i x hx => by cases hx⟩
  have HYB := hide hyb
  have HLN : Hid (ya.length ≤ 500 ∧ yb.length ≤ 500) := by
    have h1 := congrArg List.length hPy
    rw [List.length_map] at h1
    have := HLB.out
    exact ⟨by omega, by rw [hyb]; simp⟩
  clear hbA BD XD hP hPc hPy hyb
  go_wp2_with fail
  have HT : Hid (∀ W, Below wA.heap.size wA W → W.cell? ⟨w.heap.size, 0, none⟩ = some (.int .i64 z.k) ∧ W.cell? ⟨w.heap.size, 1, none⟩ = some (.int .i64 z.n) ∧ W.cell? ⟨w.heap.size, 2, none⟩ = some (.int .i64 z.t) ∧ W.cell? ⟨w.heap.size, 3, none⟩ = some (.string z.s) ∧ W.cell? ⟨w.heap.size, 4, none⟩ = some (.string z.f)) := fun W hb => by
    have q := (hb.block _ (Array.getElem?_eq_some_iff.1 HBX.out).1).trans HBX.out
    exact ⟨by rw [Lib.cell_of_heap q]; rfl, by rw [Lib.cell_of_heap q]; rfl, by rw [Lib.cell_of_heap q]; rfl, by rw [Lib.cell_of_heap q]; rfl, by rw [Lib.cell_of_heap q]; rfl⟩
  have HPA : Hid (∀ W, Below wA.heap.size wA W → PLst W (.slice aa ya.length ac) ya) := fun W hb => HP.out.below hb (Nat.le_refl _)
  have HPB : Hid (∀ W, Below wA.heap.size wA W → PLst W (.slice none 0 0) yb) := fun W hb => HP2.out.below hb (Nat.le_refl _)
  go_cut [9] from 43 to 50 (fun sv wx => ∃ v' : Value, v' = sv ∧ Hid (PLst wx v' (ya ++ (yb ++ [z])) ∧ CapOk v' ∧ Below wA.heap.size wA wx))
  case first =>
    refine wp_region_held (S := fun W => W.cell? ⟨w.heap.size, 0, none⟩ = some (.int .i64 z.k) ∧ W.cell? ⟨w.heap.size, 1, none⟩ = some (.int .i64 z.n) ∧ W.cell? ⟨w.heap.size, 2, none⟩ = some (.int .i64 z.t) ∧ W.cell? ⟨w.heap.size, 3, none⟩ = some (.string z.s) ∧ W.cell? ⟨w.heap.size, 4, none⟩ = some (.string z.f)) (by kernel_rfl) ?_
    show wpAnyH _ _ _ _ _ _ _ _ wA.drew
    obtain ⟨W0, hW0⟩ : ∃ W0, W0 = wA.drew := ⟨_, rfl⟩
    have bA : Below wA.heap.size wA W0 := by rw [hW0]; exact (Below.refl _ _).drew
    rw [← hW0]
    clear hW0
    refine tkH 1 (.slice aa ya.length ac) (HT.out _ bA) ?_
    refine tkH 3 (.slice none 0 0) (HT.out _ bA) ?_
    refine tkH 5 (.agg #[.int .i64 z.k, .int .i64 z.n, .int .i64 z.t, .string z.s, .string z.f]) (HT.out _ bA) ?_
    try simp only [Act.put, List.setIfInBounds_toArray, List.set_cons_zero, List.set_cons_succ]
    refine rd2 0 6 (fun K hK => ?_) (fun K hK => ?_)
    · go_simp
      obtain ⟨W1, hW⟩ : ∃ Wn, Wn = W0.alloc (.cells #[] 38) := ⟨_, rfl⟩
      rw [← hW]
      have bW : Below W0.heap.size W0 W1 := by rw [hW]; exact (Below.refl _ _).alloc (Nat.le_refl _) _
      have own0 : W1.ownsRow wA.heap.size 38 5 (.slice (some ⟨W0.heap.size, 0, none⟩) 0 0) 0 [] := by rw [hW]; exact World.ownsRow_lit (e := 38) (size := 5) W0 #[] 0 bA.size (by decide) rfl
      have hlt0 : W0.heap.size < W1.heap.size := by rw [hW]; simp
      obtain ⟨BB, hBB⟩ : ∃ BB, BB = W0.heap.size := ⟨_, rfl⟩
      rw [← hBB] at own0 ⊢ hlt0
      have bA := bA.trans (bW.mono bA.size)
      refine hK.out _ _ (HT.out _ bA) (fun _ => ?_)
      clear hK K hW bW hBB
      have hrow : ∃ g, (Value.slice (some ⟨BB, 0, none⟩) 0 0).ownBlock = some g := ⟨_, rfl⟩
      clear hrow
      try simp only [Act.put, List.setIfInBounds_toArray, List.set_cons_zero, List.set_cons_succ]
      refine rd2 2 6 (fun K hK => ?_) (fun K hK => ?_)
      · obtain ⟨v1, W2, hr1, own1, hg1, hblk⟩ := run_append_pvB W1 wA.heap.size 23 0 (.slice (some ⟨BB, 0, none⟩) 0 0) [] own0 (.slice aa ya.length ac) ya (HPA.out _ bA) (by have := HLN.out; omega) bA.size
        have bB : Below wA.heap.size wA W2 := bA.grown hg1 bA.size (fun k hk => (own0.lt k hk).1)
        refine wp_app _ _ 23 rfl _ _ v1 _ (by rfl) (by rfl) hr1 ?_
        have bA := bB
        refine hK.out _ _ (HT.out _ bA) (fun _ => ?_)
        clear hK K hr1 hg1 own0 bB hblk
        try simp only [Act.put, List.setIfInBounds_toArray, List.set_cons_zero, List.set_cons_succ]
        refine rd2 4 6 (fun K hK => ?_) (fun K hK => ?_)
        · obtain ⟨v2, W3, hr1, own2, hg1⟩ := run_append_pvs W2 wA.heap.size 23 (0 + ya.length) v1 ([] ++ pvsC ya) own1 (.slice none 0 0) yb (HPB.out _ bA) (by have := HLN.out; omega) bA.size
          have bB : Below wA.heap.size wA W3 := bA.grown hg1 bA.size (fun k hk => (own1.lt k hk).1)
          refine wp_app _ _ 23 rfl _ _ v2 _ (by rfl) (by rfl) hr1 ?_
          have bA := bB
          refine hK.out _ _ (HT.out _ bA) (fun _ => ?_)
          clear hK K hr1 hg1 own1 bB
          try simp only [Act.put, List.setIfInBounds_toArray, List.set_cons_zero, List.set_cons_succ]
          refine rdH 6 (fun K hK => ?_)
          go_simp
          obtain ⟨W4, hW⟩ : ∃ Wn, Wn = W3.alloc (.cells #[.int .i64 z.k, .int .i64 z.n, .int .i64 z.t, .string z.s, .string z.f] 38) := ⟨_, rfl⟩
          rw [← hW]
          have bW : Below W3.heap.size W3 W4 := by rw [hW]; exact (Below.refl _ _).alloc (Nat.le_refl _) _
          have own2 := own_on own2 bW
          have hE : W4.heap[W3.heap.size]? = some (.cells #[.int .i64 z.k, .int .i64 z.n, .int .i64 z.t, .string z.s, .string z.f] 38) := by rw [hW]; exact heap_alloc_new _ _
          obtain ⟨EE, hEE⟩ : ∃ EE, EE = W3.heap.size := ⟨_, rfl⟩
          rw [← hEE] at hE ⊢
          have hEl : EE < W4.heap.size := (Array.getElem?_eq_some_iff.1 hE).1
          have bA := bA.trans (bW.mono bA.size)
          refine hK.out _ _ (HT.out _ bA) (fun _ => ?_)
          clear hK K hW bW hEE
          obtain ⟨v9, w8, hr2, own9, hg2⟩ := run_append_pvs W4 wA.heap.size 23 (0 + ya.length + yb.length) v2 ([] ++ pvsC ya ++ pvsC yb) own2 (.slice (some ⟨EE, 0, none⟩) 1 1) [z] (own_one_pv hE) (by have := HLN.out; show 0 + ya.length + yb.length + 1 ≤ _; omega) bA.size
          have b8 : Below wA.heap.size wA w8 := bA.grown hg2 bA.size (fun k hk => (own2.lt k hk).1)
          try simp only [Act.put, List.setIfInBounds_toArray, List.set_cons_zero, List.set_cons_succ]
          refine rdH 7 (fun K hK => ?_)
          refine wp_app _ _ 23 rfl _ _ v9 w8 (by rfl) (by rfl) hr2 ?_
          refine hK.out _ _ (HT.out _ b8) (fun _ => ?_)
          clear hK K
          try simp only [Act.put, List.setIfInBounds_toArray, List.set_cons_zero, List.set_cons_succ]
          refine rdH 8 (fun K hK => ?_)
          go_simp
          refine hK.out _ _ (HT.out _ b8) (fun _ => ?_)
          clear hK K
          try simp only [Act.put, List.setIfInBounds_toArray, List.set_cons_zero, List.set_cons_succ]
          refine wpAnyH_done (by kernel_rfl) ?_ _
          have HREL : Hid (PLst w8 v9 (ya ++ (yb ++ [z])) ∧ CapOk v9 ∧ Below wA.heap.size wA w8) := by
            have hl : (ya ++ (yb ++ [z])).length = 0 + ya.length + yb.length + 1 := by simp only [List.length_append, List.length_cons, List.length_nil]; omega
            refine ⟨PLst.of_owns (base := wA.heap.size) ?_, ?_, b8⟩
            · rw [hl, pvsC_append, pvsC_append, ← List.append_assoc]; exact own9
            · obtain ⟨a, c, e, hc⟩ := own_formD own9; rw [e]; exact fun a n c h => by injection h with h1 h2 h3; omega
          clear own9 hg2 hr2 own2 b8 bA HT
          go_wp2_with fail
          go_meet
          case rel => exact ⟨v9, rfl, HREL.out⟩
        · go_simp
          obtain ⟨W3, hW⟩ : ∃ Wn, Wn = W2.alloc (.cells #[.int .i64 z.k, .int .i64 z.n, .int .i64 z.t, .string z.s, .string z.f] 38) := ⟨_, rfl⟩
          rw [← hW]
          have bW : Below W2.heap.size W2 W3 := by rw [hW]; exact (Below.refl _ _).alloc (Nat.le_refl _) _
          have hne : ∀ r, v1.ownBlock = some r → r ≠ W2.heap.size := fun r hr h => by have := (own1.lt r hr).2; omega
          have own1 := own_on own1 bW
          have hE : W3.heap[W2.heap.size]? = some (.cells #[.int .i64 z.k, .int .i64 z.n, .int .i64 z.t, .string z.s, .string z.f] 38) := by rw [hW]; exact heap_alloc_new _ _
          obtain ⟨EE, hEE⟩ : ∃ EE, EE = W2.heap.size := ⟨_, rfl⟩
          rw [← hEE] at hE ⊢ hne
          have hEl : EE < W3.heap.size := (Array.getElem?_eq_some_iff.1 hE).1
          have bA := bA.trans (bW.mono bA.size)
          refine hK.out _ _ (HT.out _ bA) (fun _ => ?_)
          clear hK K hW bW hEE
          try simp only [Act.put, List.setIfInBounds_toArray, List.set_cons_zero, List.set_cons_succ]
          refine rdH 4 (fun K hK => ?_)
          obtain ⟨v2, W4, hr1, own2, hg1⟩ := run_append_pvs W3 wA.heap.size 23 (0 + ya.length) v1 ([] ++ pvsC ya) own1 (.slice none 0 0) yb (HPB.out _ bA) (by have := HLN.out; omega) bA.size
          have bB : Below wA.heap.size wA W4 := bA.grown hg1 bA.size (fun k hk => (own1.lt k hk).1)
          have hEn := (hg1.block EE (Array.getElem?_eq_some_iff.1 hE).1 (by intro h; exact hne EE h.symm rfl)).trans hE
          have hE := hEn
          clear hEn
          have hEl : EE < W4.heap.size := (Array.getElem?_eq_some_iff.1 hE).1
          refine wp_app _ _ 23 rfl _ _ v2 _ (by rfl) (by rfl) hr1 ?_
          have bA := bB
          refine hK.out _ _ (HT.out _ bA) (fun _ => ?_)
          clear hK K hr1 hg1 own1 bB
          obtain ⟨v9, w8, hr2, own9, hg2⟩ := run_append_pvs W4 wA.heap.size 23 (0 + ya.length + yb.length) v2 ([] ++ pvsC ya ++ pvsC yb) own2 (.slice (some ⟨EE, 0, none⟩) 1 1) [z] (own_one_pv hE) (by have := HLN.out; show 0 + ya.length + yb.length + 1 ≤ _; omega) bA.size
          have b8 : Below wA.heap.size wA w8 := bA.grown hg2 bA.size (fun k hk => (own2.lt k hk).1)
          try simp only [Act.put, List.setIfInBounds_toArray, List.set_cons_zero, List.set_cons_succ]
          refine rdH 7 (fun K hK => ?_)
          refine wp_app _ _ 23 rfl _ _ v9 w8 (by rfl) (by rfl) hr2 ?_
          refine hK.out _ _ (HT.out _ b8) (fun _ => ?_)
          clear hK K
          try simp only [Act.put, List.setIfInBounds_toArray, List.set_cons_zero, List.set_cons_succ]
          refine rdH 8 (fun K hK => ?_)
          go_simp
          refine hK.out _ _ (HT.out _ b8) (fun _ => ?_)
          clear hK K
          try simp only [Act.put, List.setIfInBounds_toArray, List.set_cons_zero, List.set_cons_succ]
          refine wpAnyH_done (by kernel_rfl) ?_ _
          have HREL : Hid (PLst w8 v9 (ya ++ (yb ++ [z])) ∧ CapOk v9 ∧ Below wA.heap.size wA w8) := by
            have hl : (ya ++ (yb ++ [z])).length = 0 + ya.length + yb.length + 1 := by simp only [List.length_append, List.length_cons, List.length_nil]; omega
            refine ⟨PLst.of_owns (base := wA.heap.size) ?_, ?_, b8⟩
            · rw [hl, pvsC_append, pvsC_append, ← List.append_assoc]; exact own9
            · obtain ⟨a, c, e, hc⟩ := own_formD own9; rw [e]; exact fun a n c h => by injection h with h1 h2 h3; omega
          clear own9 hg2 hr2 own2 b8 bA HT
          go_wp2_with fail
          go_meet
          case rel => exact ⟨v9, rfl, HREL.out⟩
      · go_simp
        obtain ⟨W2, hW⟩ : ∃ Wn, Wn = W1.alloc (.cells #[.int .i64 z.k, .int .i64 z.n, .int .i64 z.t, .string z.s, .string z.f] 38) := ⟨_, rfl⟩
        rw [← hW]
        have bW : Below W1.heap.size W1 W2 := by rw [hW]; exact (Below.refl _ _).alloc (Nat.le_refl _) _
        have hne : W1.heap.size ≠ BB := by omega
        have own0 := own_on own0 bW
        have hE : W2.heap[W1.heap.size]? = some (.cells #[.int .i64 z.k, .int .i64 z.n, .int .i64 z.t, .string z.s, .string z.f] 38) := by rw [hW]; exact heap_alloc_new _ _
        obtain ⟨EE, hEE⟩ : ∃ EE, EE = W1.heap.size := ⟨_, rfl⟩
        rw [← hEE] at hE ⊢ hne
        have hEl : EE < W2.heap.size := (Array.getElem?_eq_some_iff.1 hE).1
        have bA := bA.trans (bW.mono bA.size)
        refine hK.out _ _ (HT.out _ bA) (fun _ => ?_)
        clear hK K hW bW hEE
        try simp only [Act.put, List.setIfInBounds_toArray, List.set_cons_zero, List.set_cons_succ]
        refine rdH 2 (fun K hK => ?_)
        have hEl0 : EE < W2.heap.size := hEl
        obtain ⟨v1, W3, hr1, own1, hg1, hblk⟩ := run_append_pvB W2 wA.heap.size 23 0 (.slice (some ⟨BB, 0, none⟩) 0 0) [] own0 (.slice aa ya.length ac) ya (HPA.out _ bA) (by have := HLN.out; omega) bA.size
        have bB : Below wA.heap.size wA W3 := bA.grown hg1 bA.size (fun k hk => (own0.lt k hk).1)
        have hEn := (hg1.block EE (Array.getElem?_eq_some_iff.1 hE).1 (by intro h; exact hne (Option.some.inj h))).trans hE
        have hne : ∀ r, v1.ownBlock = some r → r ≠ EE := own_apart hblk hne hEl0
        have hE := hEn
        clear hEn
        have hEl : EE < W3.heap.size := (Array.getElem?_eq_some_iff.1 hE).1
        refine wp_app _ _ 23 rfl _ _ v1 _ (by rfl) (by rfl) hr1 ?_
        have bA := bB
        refine hK.out _ _ (HT.out _ bA) (fun _ => ?_)
        clear hK K hr1 hg1 own0 bB hblk
        try simp only [Act.put, List.setIfInBounds_toArray, List.set_cons_zero, List.set_cons_succ]
        refine rdH 4 (fun K hK => ?_)
        obtain ⟨v2, W4, hr1, own2, hg1⟩ := run_append_pvs W3 wA.heap.size 23 (0 + ya.length) v1 ([] ++ pvsC ya) own1 (.slice none 0 0) yb (HPB.out _ bA) (by have := HLN.out; omega) bA.size
        have bB : Below wA.heap.size wA W4 := bA.grown hg1 bA.size (fun k hk => (own1.lt k hk).1)
        have hEn := (hg1.block EE (Array.getElem?_eq_some_iff.1 hE).1 (by intro h; exact hne EE h.symm rfl)).trans hE
        have hE := hEn
        clear hEn
        have hEl : EE < W4.heap.size := (Array.getElem?_eq_some_iff.1 hE).1
        refine wp_app _ _ 23 rfl _ _ v2 _ (by rfl) (by rfl) hr1 ?_
        have bA := bB
        refine hK.out _ _ (HT.out _ bA) (fun _ => ?_)
        clear hK K hr1 hg1 own1 bB
        obtain ⟨v9, w8, hr2, own9, hg2⟩ := run_append_pvs W4 wA.heap.size 23 (0 + ya.length + yb.length) v2 ([] ++ pvsC ya ++ pvsC yb) own2 (.slice (some ⟨EE, 0, none⟩) 1 1) [z] (own_one_pv hE) (by have := HLN.out; show 0 + ya.length + yb.length + 1 ≤ _; omega) bA.size
        have b8 : Below wA.heap.size wA w8 := bA.grown hg2 bA.size (fun k hk => (own2.lt k hk).1)
        try simp only [Act.put, List.setIfInBounds_toArray, List.set_cons_zero, List.set_cons_succ]
        refine rdH 7 (fun K hK => ?_)
        refine wp_app _ _ 23 rfl _ _ v9 w8 (by rfl) (by rfl) hr2 ?_
        refine hK.out _ _ (HT.out _ b8) (fun _ => ?_)
        clear hK K
        try simp only [Act.put, List.setIfInBounds_toArray, List.set_cons_zero, List.set_cons_succ]
        refine rdH 8 (fun K hK => ?_)
        go_simp
        refine hK.out _ _ (HT.out _ b8) (fun _ => ?_)
        clear hK K
        try simp only [Act.put, List.setIfInBounds_toArray, List.set_cons_zero, List.set_cons_succ]
        refine wpAnyH_done (by kernel_rfl) ?_ _
        have HREL : Hid (PLst w8 v9 (ya ++ (yb ++ [z])) ∧ CapOk v9 ∧ Below wA.heap.size wA w8) := by
          have hl : (ya ++ (yb ++ [z])).length = 0 + ya.length + yb.length + 1 := by simp only [List.length_append, List.length_cons, List.length_nil]; omega
          refine ⟨PLst.of_owns (base := wA.heap.size) ?_, ?_, b8⟩
          · rw [hl, pvsC_append, pvsC_append, ← List.append_assoc]; exact own9
          · obtain ⟨a, c, e, hc⟩ := own_formD own9; rw [e]; exact fun a n c h => by injection h with h1 h2 h3; omega
        clear own9 hg2 hr2 own2 b8 bA HT
        go_wp2_with fail
        go_meet
        case rel => exact ⟨v9, rfl, HREL.out⟩
    · go_simp
      obtain ⟨W1, hW⟩ : ∃ Wn, Wn = W0.alloc (.cells #[.int .i64 z.k, .int .i64 z.n, .int .i64 z.t, .string z.s, .string z.f] 38) := ⟨_, rfl⟩
      rw [← hW]
      have bW : Below W0.heap.size W0 W1 := by rw [hW]; exact (Below.refl _ _).alloc (Nat.le_refl _) _
      have hE : W1.heap[W0.heap.size]? = some (.cells #[.int .i64 z.k, .int .i64 z.n, .int .i64 z.t, .string z.s, .string z.f] 38) := by rw [hW]; exact heap_alloc_new _ _
      obtain ⟨EE, hEE⟩ : ∃ EE, EE = W0.heap.size := ⟨_, rfl⟩
      rw [← hEE] at hE ⊢
      have hEl : EE < W1.heap.size := (Array.getElem?_eq_some_iff.1 hE).1
      have bA := bA.trans (bW.mono bA.size)
      refine hK.out _ _ (HT.out _ bA) (fun _ => ?_)
      clear hK K hW bW hEE
      try simp only [Act.put, List.setIfInBounds_toArray, List.set_cons_zero, List.set_cons_succ]
      refine rdH 0 (fun K hK => ?_)
      go_simp
      obtain ⟨W2, hW⟩ : ∃ Wn, Wn = W1.alloc (.cells #[] 38) := ⟨_, rfl⟩
      rw [← hW]
      have bW : Below W1.heap.size W1 W2 := by rw [hW]; exact (Below.refl _ _).alloc (Nat.le_refl _) _
      have hne : EE ≠ W1.heap.size := by omega
      have hE := (bW.block _ (Array.getElem?_eq_some_iff.1 hE).1).trans hE
      have hEl : EE < W2.heap.size := (Array.getElem?_eq_some_iff.1 hE).1
      have own0 : W2.ownsRow wA.heap.size 38 5 (.slice (some ⟨W1.heap.size, 0, none⟩) 0 0) 0 [] := by rw [hW]; exact World.ownsRow_lit (e := 38) (size := 5) W1 #[] 0 bA.size (by decide) rfl
      obtain ⟨BB, hBB⟩ : ∃ BB, BB = W1.heap.size := ⟨_, rfl⟩
      rw [← hBB] at own0 ⊢ hne
      have bA := bA.trans (bW.mono bA.size)
      refine hK.out _ _ (HT.out _ bA) (fun _ => ?_)
      clear hK K hW bW hBB
      have hrow : ∃ g, (Value.slice (some ⟨BB, 0, none⟩) 0 0).ownBlock = some g := ⟨_, rfl⟩
      clear hrow
      try simp only [Act.put, List.setIfInBounds_toArray, List.set_cons_zero, List.set_cons_succ]
      refine rdH 2 (fun K hK => ?_)
      have hEl0 : EE < W2.heap.size := hEl
      obtain ⟨v1, W3, hr1, own1, hg1, hblk⟩ := run_append_pvB W2 wA.heap.size 23 0 (.slice (some ⟨BB, 0, none⟩) 0 0) [] own0 (.slice aa ya.length ac) ya (HPA.out _ bA) (by have := HLN.out; omega) bA.size
      have bB : Below wA.heap.size wA W3 := bA.grown hg1 bA.size (fun k hk => (own0.lt k hk).1)
      have hEn := (hg1.block EE (Array.getElem?_eq_some_iff.1 hE).1 (by intro h; exact hne (Option.some.inj h))).trans hE
      have hne : ∀ r, v1.ownBlock = some r → r ≠ EE := own_apart hblk hne hEl0
      have hE := hEn
      clear hEn
      have hEl : EE < W3.heap.size := (Array.getElem?_eq_some_iff.1 hE).1
      refine wp_app _ _ 23 rfl _ _ v1 _ (by rfl) (by rfl) hr1 ?_
      have bA := bB
      refine hK.out _ _ (HT.out _ bA) (fun _ => ?_)
      clear hK K hr1 hg1 own0 bB hblk
      try simp only [Act.put, List.setIfInBounds_toArray, List.set_cons_zero, List.set_cons_succ]
      refine rdH 4 (fun K hK => ?_)
      obtain ⟨v2, W4, hr1, own2, hg1⟩ := run_append_pvs W3 wA.heap.size 23 (0 + ya.length) v1 ([] ++ pvsC ya) own1 (.slice none 0 0) yb (HPB.out _ bA) (by have := HLN.out; omega) bA.size
      have bB : Below wA.heap.size wA W4 := bA.grown hg1 bA.size (fun k hk => (own1.lt k hk).1)
      have hEn := (hg1.block EE (Array.getElem?_eq_some_iff.1 hE).1 (by intro h; exact hne EE h.symm rfl)).trans hE
      have hE := hEn
      clear hEn
      have hEl : EE < W4.heap.size := (Array.getElem?_eq_some_iff.1 hE).1
      refine wp_app _ _ 23 rfl _ _ v2 _ (by rfl) (by rfl) hr1 ?_
      have bA := bB
      refine hK.out _ _ (HT.out _ bA) (fun _ => ?_)
      clear hK K hr1 hg1 own1 bB
      obtain ⟨v9, w8, hr2, own9, hg2⟩ := run_append_pvs W4 wA.heap.size 23 (0 + ya.length + yb.length) v2 ([] ++ pvsC ya ++ pvsC yb) own2 (.slice (some ⟨EE, 0, none⟩) 1 1) [z] (own_one_pv hE) (by have := HLN.out; show 0 + ya.length + yb.length + 1 ≤ _; omega) bA.size
      have b8 : Below wA.heap.size wA w8 := bA.grown hg2 bA.size (fun k hk => (own2.lt k hk).1)
      try simp only [Act.put, List.setIfInBounds_toArray, List.set_cons_zero, List.set_cons_succ]
      refine rdH 7 (fun K hK => ?_)
      refine wp_app _ _ 23 rfl _ _ v9 w8 (by rfl) (by rfl) hr2 ?_
      refine hK.out _ _ (HT.out _ b8) (fun _ => ?_)
      clear hK K
      try simp only [Act.put, List.setIfInBounds_toArray, List.set_cons_zero, List.set_cons_succ]
      refine rdH 8 (fun K hK => ?_)
      go_simp
      refine hK.out _ _ (HT.out _ b8) (fun _ => ?_)
      clear hK K
      try simp only [Act.put, List.setIfInBounds_toArray, List.set_cons_zero, List.set_cons_succ]
      refine wpAnyH_done (by kernel_rfl) ?_ _
      have HREL : Hid (PLst w8 v9 (ya ++ (yb ++ [z])) ∧ CapOk v9 ∧ Below wA.heap.size wA w8) := by
        have hl : (ya ++ (yb ++ [z])).length = 0 + ya.length + yb.length + 1 := by simp only [List.length_append, List.length_cons, List.length_nil]; omega
        refine ⟨PLst.of_owns (base := wA.heap.size) ?_, ?_, b8⟩
        · rw [hl, pvsC_append, pvsC_append, ← List.append_assoc]; exact own9
        · obtain ⟨a, c, e, hc⟩ := own_formD own9; rw [e]; exact fun a n c h => by injection h with h1 h2 h3; omega
      clear own9 hg2 hr2 own2 b8 bA HT
      go_wp2_with fail
      go_meet
      case rel => exact ⟨v9, rfl, HREL.out⟩
  case rest =>
    obtain ⟨v9, rfl, hcu⟩ := hcut
    obtain ⟨hPo, hPoc, hbo⟩ := hcu.out
    have BC := hide (BA.out.trans (hbo.mono BA.out.size))
    have XC : Hid (wc.heap[w.heap.size]? = some (.cells #[.int .i64 z.k, .int .i64 z.n, .int .i64 z.t, .string z.s, .string z.f] 38)) := (hbo.block _ (Array.getElem?_eq_some_iff.1 HBX.out).1).trans HBX.out
    have PA := hide (HPA.out _ hbo)
    have PB := hide (HPB.out _ hbo)
    have HOUT : Hid (segF (ptV z) [la] = [la].flatten ++ [ptV z] → ∀ W, Below wc.heap.size wc W → AskOut w (segF (ptV z) [la]) (.returned v9) W) := fun h W hb => by
      refine ⟨⟨v9, _, rfl, hPo.below hb (Nat.le_refl _), hPoc, ?_⟩, BC.out.trans (hb.mono BC.out.size)⟩
      rw [h]
      simp only [List.map_append, HPY.out, HYB.out]
      simp
    obtain ⟨b0, b1, b2, b3, b4⟩ : wc.cell? ⟨w.heap.size, 0, none⟩ = some (.int .i64 z.k) ∧ wc.cell? ⟨w.heap.size, 1, none⟩ = some (.int .i64 z.n) ∧ wc.cell? ⟨w.heap.size, 2, none⟩ = some (.int .i64 z.t) ∧ wc.cell? ⟨w.heap.size, 3, none⟩ = some (.string z.s) ∧ wc.cell? ⟨w.heap.size, 4, none⟩ = some (.string z.f) :=
      ⟨by rw [Lib.cell_of_heap XC.out]; rfl, by rw [Lib.cell_of_heap XC.out]; rfl, by rw [Lib.cell_of_heap XC.out]; rfl, by rw [Lib.cell_of_heap XC.out]; rfl, by rw [Lib.cell_of_heap XC.out]; rfl⟩
    have hyal : ya.length = la.length := by have := congrArg List.length HPY.out; rwa [List.length_map] at this
    obtain ⟨vo, vn, vc, rfl⟩ : ∃ a n c, v9 = .slice a n c := by obtain ⟨a, c, h⟩ := hPo.shapeV; exact ⟨_, _, _, h⟩
    have HYA := hide hyal
    have LA5 : ((ya.length : Nat) : Int) ≤ 500 := by have := HLN.out; omega
    clear hcu hPo hPoc hbo hyal HPA HPB HT HP HP2
    by_cases hA1 : ya.length = 1
    · obtain ⟨q, rfl⟩ : ∃ q, ya = [q] := by
        match ya, hA1 with
        | [q], _ => exact ⟨q, rfl⟩
      obtain rfl : la = [ptV q] := HPY.out.symm
      obtain ⟨qa, qb, qo, qc, he, hqA, hqI⟩ := PA.out
      injection he with e1 e2 e3
      obtain ⟨hqb, hqe⟩ := hqA (by simp)
      rw [hqe] at e1
      subst e1 e3
      obtain ⟨d0, d1, d2, d3, d4⟩ := hqI 0 q rfl
      simp only [Nat.zero_mul, Nat.add_zero] at d0 d1 d2 d3 d4
      clear hqA hqI hqe hqb hA1 LA5 e2
      simp only [List.length_cons, List.length_nil, Nat.zero_add] at *
      by_cases hq : q.k = 1
      · have hq1 : (q.k != 1) = false := by rw [hq]; rfl
        have hqk : (ptV q).kind = 1 := hq
        have mR : Hid (∃ R1 R2 R3 : Int, (∀ W, PLst W (.slice (some ⟨qb, qo, none⟩) 1 ac) [q] → Calls Tryz.prog 54 #[.agg #[.int .i64 z.k, .int .i64 z.n, .int .i64 z.t, .string z.s, .string z.f], .slice (some ⟨qb, qo, none⟩) 1 ac, .slice none 0 0] W fun e w' => e = .returned (.tuple #[.int .i64 R1, .int .i64 R3, .int .i64 R2]) ∧ Below W.heap.size W w') ∧ reckP (ptV z) [ptV q] = if R2 = 0 then some (numP R1 R3) else none) := by
          rcases HKD.out with h5 | h6
          · refine ⟨(Four.oneN z.n q.t q.n).1, (Four.oneN z.n q.t q.n).2, (Four.resN z.n q.t).1, fun W hP => rec10_one z q _ none 0 W hP h5, ?_⟩
            unfold reckP
            rw [if_neg (by simp [hqk]), if_neg (show ¬ (ptV z).kind = 6 by rw [show (ptV z).kind = 5 from h5]; decide), if_pos (show (ptV z).kind = 5 from h5)]; rfl
          · refine ⟨(Four.convN q.t z.t q.n).1, (Four.convN q.t z.t q.n).2, z.t, fun W hP => rec10_to z q _ (.slice none 0 0) W hP h6 ⟨_, _, _, rfl⟩, ?_⟩
            unfold reckP
            rw [if_neg (by simp [hqk]), if_pos (show (ptV z).kind = 6 from h6)]; rfl
        obtain ⟨R1, R2, R3, hcl, hrk⟩ := mR.out
        replace hcl := hcl wc PA.out
        have HRK := hide hrk
        clear mR hrk hq hqk
        go_wp2_with fail
        refine hcl.mono ?_
        rintro e wz ⟨rfl, hbz⟩
        have BZ := hide hbz
        clear hcl hbz
        by_cases hR : R2 = 0
        · have HSQ : Hid (segF (ptV z) [[ptV q]] = [numP R1 R3]) := seg_in (by simp) (by show reckP (ptV z) [ptV q] = _; rw [HRK.out, if_pos hR])
          subst hR
          have HF : Hid (AskOut w (segF (ptV z) [[ptV q]]) (.returned (.slice (some ⟨wz.heap.size, 0, none⟩) 1 1)) (wz.alloc (.cells #[.int .i64 1, .int .i64 R1, .int .i64 R3, .string ⟨#[]⟩, .string ⟨#[]⟩] 38))) := by
            rw [HSQ.out]
            exact ⟨⟨_, [⟨1, R1, R3, ⟨#[]⟩, ⟨#[]⟩⟩], rfl, own_one_pv (x := ⟨1, R1, R3, ⟨#[]⟩, ⟨#[]⟩⟩) (heap_alloc_new wz _), fun a n c h => by injection h with h1 h2 h3; omega, rfl⟩, (BC.out.trans (BZ.out.mono BC.out.size)).alloc (Nat.le_trans BC.out.size BZ.out.size) _⟩
          clear HOUT
          go_wp2
          go_ret
          exact HF.out
        · have HS := hide (HOUT.out (seg_out (.inr (by show reckP (ptV z) [ptV q] = _; rw [HRK.out, if_neg hR]))))
          have hR' : (R2 != 0) = true := by rw [bne_iff_ne]; exact hR
          clear HOUT hR
          go_wp2
          go_ret
          exact HS.out _ BZ.out
      · have hq1 : (q.k != 1) = true := by rw [bne_iff_ne]; exact hq
        have HS := hide (HOUT.out (seg_out (.inr (by
          show reckP (ptV z) [ptV q] = none
          unfold reckP
          rw [if_pos (by simp [show (ptV q).kind = q.k from rfl, hq])]))))
        clear HOUT hq
        go_wp2
        go_ret
        exact HS.out _ (Below.refl _ _)
    · have HS := hide (HOUT.out (seg_out (.inl (by rw [List.all_eq_true]; exact fun h => hA1 (by have := of_decide_eq_true (h la (by simp)); rw [HYA.out]; exact this)))))
      have hA2 : (((ya.length : Nat) : Int) != 1) = true := by rw [bne_iff_ne]; omega
      clear HOUT hA1
      go_wp2
      go_ret
      exact HS.out _ (Below.refl _ _)
end Go.Proofs.YtldjiieckddhkaaGreatDoor
