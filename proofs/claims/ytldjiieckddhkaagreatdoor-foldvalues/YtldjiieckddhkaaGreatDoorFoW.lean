import Derived.Test.YtldjiieckddhkaaGreatDoorMg26
namespace Go.Proofs.YtldjiieckddhkaaGreatDoor
open Go.RowKit Go.Shelf
attribute [local go_sem] Oper.semAt_some
theorem heap_set5 {w : World} {g t : Nat} {x y z u v : Value} (h : w.heap[g]? = some (.cells #[x, y, z, u, v] t)) (a b c d e : Value) : (((((w.setCell ⟨g, 0, none⟩ a).setCell ⟨g, 1, none⟩ b).setCell ⟨g, 2, none⟩ c).setCell ⟨g, 3, none⟩ d).setCell ⟨g, 4, none⟩ e).heap[g]? = some (.cells #[a, b, c, d, e] t) := by
  rw [heap_setCell_same _ g 4 _ t e (heap_setCell_same _ g 3 _ t d (heap_setCell_same _ g 2 _ t c (heap_setCell_same _ g 1 _ t b (heap_setCell_same w g 0 _ t a h))))]
  rfl
theorem reck_nm9 {p : Pt} {on : List Pt} {q : Pt} (h : reckP p on = some q) : q = numP q.n q.t := by
  unfold reckP at h
  repeat' split at h
  all_goals first | (obtain rfl := Option.some.inj h; rfl) | cases h
set_option maxRecDepth 100000 in
set_option maxHeartbeats 6400000 in
theorem folded_any (v : Value) (x : List Pv) (w : World) (hX : PLst w v x) (hg : Glo w) (h5 : x.length ≤ 500) (hx1 : 1 ≤ x.length) (hm : ∀ p ∈ x.map ptV, mayP p = true) (hW : Wf (x.map ptV) 0) :
    Calls Tryz.prog 27 #[v] w fun e w' => (∃ (ov : Value) (o : List Pv), e = .returned ov ∧ o.map ptV = foldP (x.map ptV) ∧ w'.ownsRow (w.heap.size + 3) 38 5 ov o.length (pvsC o)) ∧ Below w.heap.size w w' := by
  refine (callsIn_wide (n := 4)).1 ?_
  obtain ⟨a, b, off, cap, rfl, hA, hI⟩ := hX
  obtain ⟨i0, hi, hz0, hz1, hz2⟩ := info_parts in38
  refine callsIn_of_wp_marks Tryz.func27 rfl trivial ?_ rfl
  simp only [Tryz.ntmps27, List.size_toArray, List.length_cons, List.length_nil, Nat.reduceAdd, Nat.reduceSub, Array.replicate_succ, Array.replicate_zero, List.push_toArray, List.append_toArray, List.nil_append, List.cons_append]
  gi_wp2_with (refine ⟨trivial, ?_⟩; gi_at_call 42; refine (callsIn_wide.2 (steps_any _ ⟨_, _, _, rfl⟩ _)).mono ?_; rintro e w' ⟨rfl, rfl⟩)
  obtain ⟨W0, hW0⟩ : ∃ W0, W0 = ((w.alloc (.cells #[.slice a x.length cap] 23)).alloc (.cells #[.slice none 0 0] 23)).alloc (.cells #[.slice a x.length cap] 23) := ⟨_, rfl⟩
  have hz : W0.heap.size = w.heap.size + 3 := by rw [hW0]; simp
  have hB0 : Below w.heap.size w W0 := by rw [hW0]; exact (((Below.refl _ w).alloc (Nat.le_refl _) _).alloc (by simp) _).alloc (by simp; omega) _
  have e0 : W0.heap[w.heap.size]? = some (.cells #[.slice a x.length cap] 23) := by rw [hW0, Lib.alloc_old _ _ _ (by simp; omega), Lib.alloc_old _ _ _ (by simp)]; exact heap_alloc_new w _
  have e1 : W0.heap[w.heap.size + 1]? = some (.cells #[.slice none 0 0] 23) := by
    rw [hW0, Lib.alloc_old _ _ _ (by simp)]
    have := heap_alloc_new (w.alloc (.cells #[.slice a x.length cap] 23)) (.cells #[.slice none 0 0] 23)
    rwa [World.size_alloc] at this
  have e2 : W0.heap[w.heap.size + 2]? = some (.cells #[.slice a x.length cap] 23) := by
    rw [hW0]
    have := heap_alloc_new ((w.alloc (.cells #[.slice a x.length cap] 23)).alloc (.cells #[.slice none 0 0] 23)) (.cells #[.slice a x.length cap] 23)
    rwa [World.size_alloc, World.size_alloc] at this
  have c2 : W0.cell? ⟨w.heap.size + 2, 0, none⟩ = some (.slice a x.length cap) := by rw [Lib.cell_of_heap e2]; rfl
  rw [← hW0]
  refine wpIn_rangeFunc_O (α := Stp) rfl (by omega) (gf := 82) (lb := #[.pointer (some ⟨w.heap.size + 1 + 1, 0, none⟩)]) rfl trivial (enters_of Tryz.func82 (by kernel_rfl) rfl)
    (steps_seq (w.heap.size + 2) b off cap a x 3 W0 h5 hW (fun h => ⟨by have := (hA h).1; omega, (hA h).2⟩) (by omega) c2 (fun i p hp => by
      have hl := (hA (Nat.lt_of_le_of_lt (Nat.zero_le _) (List.getElem?_eq_some_iff.1 hp).1)).1
      obtain ⟨h1, h2, h3, h4, h5⟩ := hI i p hp
      exact ⟨(hB0.cell (p := ⟨b, _, none⟩) hl).trans h1, (hB0.cell (p := ⟨b, _, none⟩) hl).trans h2, (hB0.cell (p := ⟨b, _, none⟩) hl).trans h3, (hB0.cell (p := ⟨b, _, none⟩) hl).trans h4, (hB0.cell (p := ⟨b, _, none⟩) hl).trans h5⟩))
    ?kb StpG.own (fun _ => rfl) (FoI w (.slice a x.length cap) x) (by rw [hz]; exact FoI.chg) ?start
    (fun s => { tmps := #[.slice a x.length cap, .pointer (some ⟨w.heap.size, 0, none⟩), .slice none 0 0, .pointer (some ⟨w.heap.size + 1, 0, none⟩), .int .i64 (s.i : Int), s.v, undef, undef, undef, .slice a x.length cap, .func (.func 82) #[] #[.pointer (some ⟨w.heap.size + 1 + 1, 0, none⟩)], .int .i64 (s.i : Int), s.v, undef, undef, undef, undef, undef, undef, undef, undef, undef, undef, undef, undef, undef, undef, undef, undef, undef, undef, undef, undef, undef, undef, undef, undef, undef, undef, undef, undef, undef, undef, undef], defers := [] })
    ?assign ?body ?done
  case kb =>
    intro k hk
    have := (hA (by omega)).1
    simp at hk
    omega
  case start => exact ⟨⟨[], .slice none 0 0, (foldK_zero _).symm, e1, World.ownsRow_nil _ _ _ _, fun g h => (by cases h)⟩, fun k h => (by cases h), e0, hB0, by omega, fun k h => (by cases h)⟩
  case assign =>
    intro l s W K hK
    simp only [stpE]
    gi_wp2
    exact hK
  case body =>
    --B
    rintro lr pre O s W hF hG
    obtain ⟨o, ov, h1, h2, h3, h4⟩ := hF.ex
    obtain ⟨g1, g2, g3, g4⟩ := hG
    obtain ⟨oa, oc, rfl, hoc⟩ := own_form3 h3
    obtain ⟨si, sv, sp⟩ := s
    dsimp only at g1 g2 g3 g4
    obtain ⟨y, hy⟩ : ∃ y, x[si]? = some y := ⟨_, List.getElem?_eq_getElem (by rw [List.length_map] at g2; exact g2)⟩
    have hyp : (x.map ptV)[si]? = some (ptV y) := by rw [List.getElem?_map, hy]; rfl
    obtain ⟨hbw, rfl⟩ := hA (by omega)
    obtain ⟨q0, q1, q2, q3, q4⟩ := hI si y hy
    have HB := hide hF.below
    have hl : sp.length = takes (ptV y) := by rw [g3, onAt_length hW hyp]
    have htk : takes (ptV y) ≤ o.length := by
      have := foldK_takes hW hyp
      rw [g1, ← h1, List.length_map] at this; exact this
    obtain ⟨sa, sb, so, sc, rfl, -, -⟩ := g4
    rw [hl]
    have hol : o.length ≤ 500 := by
      have := (foldK_len (x.map ptV) pre.length (by rw [List.length_map]; rw [List.length_map] at g2; omega)).2
      rw [← h1, List.length_map] at this
      rw [List.length_map] at g2; omega
    have b0 : W.cell? ⟨w.heap.size, 0, none⟩ = some (.slice (some ⟨b, off, none⟩) x.length cap) := by rw [Lib.cell_of_heap hF.box]; rfl
    have b1 : W.cell? ⟨w.heap.size + 1, 0, none⟩ = some (.slice oa o.length oc) := by rw [Lib.cell_of_heap h2]; rfl
    have HF := hide hF
    have HG := hide (And.intro g1 (And.intro hyp hy))
    have H1 := hide h1
    have H2 := hide h2
    have H3 := hide h3
    have H4 := hide h4
    obtain ⟨L, hL⟩ : ∃ L, L = o.length := ⟨_, rfl⟩
    obtain ⟨tk, htk2⟩ : ∃ tk, tk = takes (ptV y) := ⟨_, rfl⟩
    rw [← hL] at b1 hoc htk hol
    rw [← htk2] at htk ⊢
    have HL := hide hL
    have HTK := hide htk2
    obtain ⟨F, hFF⟩ : ∃ F, F = L - tk := ⟨_, rfl⟩
    have hF2 : (L : Int) - (tk : Int) = (F : Int) := by omega
    have HFF := hide hFF
    have f1 : (L : Int) ≤ 500 := by omega
    have f2 : (tk : Int) ≤ (L : Int) := by omega
    have f3 : F ≤ L := by omega
    have n5 : (x.length : Int) ≤ 500 := by omega
    have j1 : (si : Int) < (x.length : Int) := by rw [List.length_map] at g2; omega
    clear h1 h2 h3 h4 hF g1 g3 hyp hy hl hL htk2 hFF
    gi_wp2
    --R6
    obtain ⟨sl, hsl, hPL⟩ := pv_from H3.out F (by rw [← HL.out]; exact f3)
    obtain ⟨pa, pn, pc, rfl⟩ : ∃ a n c, sl = .slice a n c := by obtain ⟨a, b, off, cap, e, -⟩ := hPL; exact ⟨a, _, cap, e⟩
    rw [← HL.out] at hsl
    have C : Hid (∀ W', Below W.heap.size W W' → Calls Tryz.prog 52 #[.agg #[.int .i64 y.k, .int .i64 y.n, .int .i64 y.t, .string y.s, .string y.f], .slice pa pn pc] W' fun e W1 => (∃ (z : Pv) (t : Bool), e = .returned (.tuple #[.agg #[.int .i64 z.k, .int .i64 z.n, .int .i64 z.t, .string z.s, .string z.f], .bool t]) ∧ Hid ((t = true ∧ reckP (ptV y) ((o.drop F).map ptV) = some (ptV z)) ∨ (t = false ∧ reckP (ptV y) ((o.drop F).map ptV) = none))) ∧ Below W.heap.size W W1 ∧ Hid (Below W'.heap.size W' W1)) := by
      intro W' hb
      have hbw' := HB.out.trans (hb.mono HB.out.size)
      refine (reckoned_any y _ (o.drop F) W' (hPL.below hb (Nat.le_refl _)) (hm _ (List.mem_of_getElem? HG.out.2.1)) (by rw [List.length_drop, ← HL.out, ← HTK.out, HFF.out]; omega) (hg.below hbw' hg.lt)).mono ?_
      rintro e W1 ⟨hr, hb1⟩
      refine ⟨?_, hb.trans (hb1.mono hb.size), hb1⟩
      cases hk : reckP (ptV y) ((o.drop F).map ptV) with
      | none =>
        rw [hk] at hr
        obtain ⟨z, hz⟩ := hr
        exact ⟨z, false, hz, .inr ⟨rfl, rfl⟩⟩
      | some q =>
        rw [hk] at hr
        have hq := reck_nm9 hk
        exact ⟨⟨1, q.n, q.t, ⟨#[]⟩, ⟨#[]⟩⟩, true, hr, .inl ⟨rfl, congrArg some hq⟩⟩
    have SS : Hid (∀ W', Below W.heap.size W W' → W'.cell? ⟨w.heap.size, 0, none⟩ = some (.slice (some ⟨b, off, none⟩) x.length cap) ∧ W'.cell? ⟨w.heap.size + 1, 0, none⟩ = some (.slice oa L oc) ∧ W'.cell? ⟨b, off + si * 5, none⟩ = some (.int .i64 y.k) ∧ W'.cell? ⟨b, off + si * 5 + 1, none⟩ = some (.int .i64 y.n) ∧ W'.cell? ⟨b, off + si * 5 + 2, none⟩ = some (.int .i64 y.t) ∧ W'.cell? ⟨b, off + si * 5 + 3, none⟩ = some (.string y.s) ∧ W'.cell? ⟨b, off + si * 5 + 4, none⟩ = some (.string y.f) ∧ Below W.heap.size W W') := fun W' hb => by
      have hW' := HB.out.trans (hb.mono HB.out.size)
      have hr := HF.out.room
      exact ⟨(hb.cell (p := ⟨w.heap.size, 0, none⟩) (by show w.heap.size < _; omega)).trans b0, (hb.cell (p := ⟨w.heap.size + 1, 0, none⟩) (by show w.heap.size + 1 < _; omega)).trans b1, (hW'.cell (p := ⟨b, _, none⟩) hbw).trans q0, (hW'.cell (p := ⟨b, _, none⟩) hbw).trans q1, (hW'.cell (p := ⟨b, _, none⟩) hbw).trans q2, (hW'.cell (p := ⟨b, _, none⟩) hbw).trans q3, (hW'.cell (p := ⟨b, _, none⟩) hbw).trans q4, hb⟩
    clear q0 q1 q2 q3 q4 b0 b1 hPL
    refine region_round (S := fun W' => W'.cell? ⟨w.heap.size, 0, none⟩ = some (.slice (some ⟨b, off, none⟩) x.length cap) ∧ W'.cell? ⟨w.heap.size + 1, 0, none⟩ = some (.slice oa L oc) ∧ W'.cell? ⟨b, off + si * 5, none⟩ = some (.int .i64 y.k) ∧ W'.cell? ⟨b, off + si * 5 + 1, none⟩ = some (.int .i64 y.n) ∧ W'.cell? ⟨b, off + si * 5 + 2, none⟩ = some (.int .i64 y.t) ∧ W'.cell? ⟨b, off + si * 5 + 3, none⟩ = some (.string y.s) ∧ W'.cell? ⟨b, off + si * 5 + 4, none⟩ = some (.string y.f) ∧ Below W.heap.size W W') (by kernel_rfl) (noDefer_spec (by kernel_rfl)) (by rintro ⟨_, _, h⟩; exact h) (SS.out _ (Below.refl _ W).drew) (fun hHeld => ?_)
    refine tkH 0 (.slice (some ⟨b, off, none⟩) x.length cap) hHeld ?_
    refine tkH 1 (.int .i64 (si : Int)) hHeld ?_
    refine tkH 2 (.pointer (some ⟨b, off + si * 5, none⟩)) hHeld ?_
    refine tkH 3 (.agg #[.int .i64 y.k, .int .i64 y.n, .int .i64 y.t, .string y.s, .string y.f]) hHeld ?_
    refine tkH 4 (.slice oa L oc) hHeld ?_
    refine tkH 5 (.int .i64 (F : Int)) hHeld ?_
    refine tkH 6 (.slice pa pn pc) hHeld ?_
    try simp only [Act.put, List.setIfInBounds_toArray, List.set_cons_zero, List.set_cons_succ]
    refine wpAnyH_ready (rs := [7, 11]) (by kernel_rfl) (by simp) ?_
    refine AllReadyH.cons (o := { dst := some 26, op := _, type := _, pos := _, after := _, guard := none }) rfl (fun K hK => ?_) (AllReadyH.cons (o := { dst := some 7, op := _, type := _, pos := _, after := _, guard := none }) rfl (fun K hK => ?_) AllReadyH.nil)
    · go_simp
      refine (C.out _ hHeld.2.2.2.2.2.2.2).mono ?_
      rintro e W1 ⟨⟨z, t, rfl, HZ⟩, hb1, HB1⟩
      refine hK.out _ _ (SS.out W1 hb1) (fun hHeld => ?_)
      clear hK K
      try simp only [Act.put, List.setIfInBounds_toArray, List.set_cons_zero, List.set_cons_succ]
      refine tkH 8 (.tuple #[.agg #[.int .i64 z.k, .int .i64 z.n, .int .i64 z.t, .string z.s, .string z.f], .bool t]) hHeld ?_
      refine tkH 9 (.agg #[.int .i64 z.k, .int .i64 z.n, .int .i64 z.t, .string z.s, .string z.f]) hHeld ?_
      refine tkH 10 (.bool t) hHeld ?_
      try simp only [Act.put, List.setIfInBounds_toArray, List.set_cons_zero, List.set_cons_succ]
      refine rdH 11 (fun K hK => ?_)
      go_simp
      refine hK.out _ _ (SS.out _ (hb1.alloc hb1.size _)) (fun hHeld => ?_)
      clear hK K
      try simp only [Act.put, List.setIfInBounds_toArray, List.set_cons_zero, List.set_cons_succ]
      have zf := Lib.frozen_of_heap (heap_alloc_new W1 (.cells #[.int .i64 0, .int .i64 0, .int .i64 0, .string ⟨#[]⟩, .string ⟨#[]⟩] 38))
      refine rdH 12 (fun K hK => ?_)
      go_simp
      refine hK.out _ _ (SS.out _ (hb1.alloc hb1.size _)) (fun hHeld => ?_)
      clear hK K
      try simp only [Act.put, List.setIfInBounds_toArray, List.set_cons_zero, List.set_cons_succ]
      refine tkH 13 (.bool t) hHeld ?_
      try simp only [Act.put, List.setIfInBounds_toArray, List.set_cons_zero, List.set_cons_succ]
      refine wpAnyH_done (by kernel_rfl) ?_ _
      have hm2 := heap_alloc_new W1 (.cells #[.int .i64 z.k, .int .i64 z.n, .int .i64 z.t, .string z.s, .string z.f] 38)
      have hb2 := hb1.alloc hb1.size (.cells #[.int .i64 z.k, .int .i64 z.n, .int .i64 z.t, .string z.s, .string z.f] 38)
      have hM : W.heap.size ≤ W1.heap.size := hb1.size
      clear zf hHeld HB1 C
      generalize W1.alloc (.cells #[.int .i64 z.k, .int .i64 z.n, .int .i64 z.t, .string z.s, .string z.f] 38) = W2 at *
      generalize W1.heap.size = M at *
      clear hb1
      rcases HZ.out with ⟨rfl, hr⟩ | ⟨rfl, hr⟩
      · gi_wp2
        obtain ⟨c0, c1, c2', c3, c4⟩ : W2.cell? ⟨M, 0, none⟩ = some (.int .i64 z.k) ∧ W2.cell? ⟨M, 1, none⟩ = some (.int .i64 z.n) ∧ W2.cell? ⟨M, 2, none⟩ = some (.int .i64 z.t) ∧ W2.cell? ⟨M, 3, none⟩ = some (.string z.s) ∧ W2.cell? ⟨M, 4, none⟩ = some (.string z.f) := by refine ⟨?_, ?_, ?_, ?_, ?_⟩ <;> (rw [Lib.cell_of_heap hm2]; rfl)
        obtain ⟨ta, tcap, htv, hOT, hOB⟩ := pv_to H3.out F (by rw [← HL.out]; exact f3)
        rw [← HL.out] at htv hOB
        have HOT := hide hOT
        have HOB : Hid ((Value.slice ta F tcap).ownBlock = (Value.slice oa o.length oc).ownBlock) := by rw [← HL.out]; exact hOB
        have O2 := hide (own_on hOT (hb2))
        have hrm := HF.out.room
        have z2 := hb2.size
        have ho2 : W2.heap[w.heap.size + 1]? = some (.cells #[.slice oa L oc] 23) := (hb2.block _ (by omega)).trans (by rw [HL.out]; exact H2.out)
        have co2 : W2.cell? ⟨w.heap.size + 1, 0, none⟩ = some (.slice oa L oc) := by rw [Lib.cell_of_heap ho2]; rfl
        have ml : M < W2.heap.size := (Array.getElem?_eq_some_iff.1 hm2).1
        have KA : Hid (∀ q, (W2.alloc q).cell? ⟨M, 0, none⟩ = some (.int .i64 z.k) ∧ (W2.alloc q).cell? ⟨M, 1, none⟩ = some (.int .i64 z.n) ∧ (W2.alloc q).cell? ⟨M, 2, none⟩ = some (.int .i64 z.t) ∧ (W2.alloc q).cell? ⟨M, 3, none⟩ = some (.string z.s) ∧ (W2.alloc q).cell? ⟨M, 4, none⟩ = some (.string z.f)) := fun q => by refine ⟨?_, ?_, ?_, ?_, ?_⟩ <;> (rw [Lib.cell_of_heap ((Lib.alloc_old W2 q M ml).trans hm2)]; rfl)
        have HM2 := hide hm2
        clear hOT hOB SS hsl
        refine region_round (S := fun W' => W'.cell? ⟨M, 0, none⟩ = some (.int .i64 z.k) ∧ W'.cell? ⟨M, 1, none⟩ = some (.int .i64 z.n) ∧ W'.cell? ⟨M, 2, none⟩ = some (.int .i64 z.t) ∧ W'.cell? ⟨M, 3, none⟩ = some (.string z.s) ∧ W'.cell? ⟨M, 4, none⟩ = some (.string z.f)) (by kernel_rfl) (noDefer_spec (by kernel_rfl)) (by rintro ⟨_, _, h⟩; exact h) (show W2.cell? ⟨M, 0, none⟩ = some (.int .i64 z.k) ∧ W2.cell? ⟨M, 1, none⟩ = some (.int .i64 z.n) ∧ W2.cell? ⟨M, 2, none⟩ = some (.int .i64 z.t) ∧ W2.cell? ⟨M, 3, none⟩ = some (.string z.s) ∧ W2.cell? ⟨M, 4, none⟩ = some (.string z.f) from ⟨c0, c1, c2', c3, c4⟩) (fun hHeld => ?_)
        refine tkH 1 (.int .i64 (F : Int)) hHeld ?_
        refine tkH 3 (.agg #[.int .i64 z.k, .int .i64 z.n, .int .i64 z.t, .string z.s, .string z.f]) hHeld ?_
        try simp only [Act.put, List.setIfInBounds_toArray, List.set_cons_zero, List.set_cons_succ]
        refine wpAnyH_ready (rs := [0, 4]) (by kernel_rfl) (by simp) ?_
        refine AllReadyH.cons (o := { dst := some 30, op := _, type := _, pos := _, after := _, guard := none }) rfl (fun K hK => ?_) (AllReadyH.cons (o := { dst := some 34, op := _, type := _, pos := _, after := _, guard := none }) rfl (fun K hK => ?_) AllReadyH.nil)
        · go_simp
          refine hK.out _ _ hHeld (fun hHeld => ?_)
          clear hK K
          try simp only [Act.put, List.setIfInBounds_toArray, List.set_cons_zero, List.set_cons_succ]
          refine tkH 2 (.slice ta F tcap) hHeld ?_
          try simp only [Act.put, List.setIfInBounds_toArray, List.set_cons_zero, List.set_cons_succ]
          refine rdH 4 (fun K hK => ?_)
          go_simp
          refine hK.out _ _ (KA.out _) (fun hHeld => ?_)
          clear hK K
          try simp only [Act.put, List.setIfInBounds_toArray, List.set_cons_zero, List.set_cons_succ]
          refine rdH 5 (fun K hK => ?_)
          (refine step_append_lies _ (by rfl) _ _ _ (by rfl) (w.heap.size + 3) 38 i0 _ 5 56 Tryz.underlying23 hi hz0 hz1 hz2 rfl (by omega) (Value.slice ta F tcap) F _ (by rfl) (by exact O2.out.alloc _) ⟨W2.heap.size, 0, none⟩ 1 1 [.int .i64 z.k, .int .i64 z.n, .int .i64 z.t, .string z.s, .string z.f] (by rfl) (by rfl) (five_news (by exact heap_alloc_new W2 _)) (by simp [Value.oneCell']) (by omega) (by unfold maxLen; omega) (by omega) (by simp; omega) (W2.heap.size + 1) (by simp) ?_; intro gg cap' w7 hown7 hgrow7 hat7 hlt7)
          have g7 : (W2.alloc (.cells #[.int .i64 z.k, .int .i64 z.n, .int .i64 z.t, .string z.s, .string z.f] 38)).grownBy w7 (Value.slice ta F tcap).ownBlock := ⟨hgrow7.os, hgrow7.tape, hgrow7.output, hgrow7.size, hgrow7.block⟩
          have kb7 : ∀ k, k < W2.heap.size → (Value.slice ta F tcap).ownBlock ≠ some k → w7.heap[k]? = W2.heap[k]? := fun k hk hr => by
            rw [g7.block k (by rw [World.size_alloc]; omega) (fun h => hr h.symm), Lib.alloc_old _ _ _ hk]
          have ho7 : w7.heap[w.heap.size + 1]? = some (.cells #[.slice oa L oc] 23) := (kb7 _ (by omega) (fun hr => by have := (HOT.out.lt _ hr).1; omega)).trans ho2
          have co7 : w7.cell? ⟨w.heap.size + 1, 0, none⟩ = some (.slice oa L oc) := by rw [Lib.cell_of_heap ho7]; rfl
          have cf7 : ∀ j, w7.frozen? ⟨w.heap.size + 1, j, none⟩ = false := fun j => Lib.frozen_of_heap ho7 j
          have S7 := (show w7.cell? ⟨M, 0, none⟩ = some (.int .i64 z.k) ∧ w7.cell? ⟨M, 1, none⟩ = some (.int .i64 z.n) ∧ w7.cell? ⟨M, 2, none⟩ = some (.int .i64 z.t) ∧ w7.cell? ⟨M, 3, none⟩ = some (.string z.s) ∧ w7.cell? ⟨M, 4, none⟩ = some (.string z.f) from by refine ⟨?_, ?_, ?_, ?_, ?_⟩ <;> (rw [Lib.cell_of_heap ((kb7 M ml (fun hr => by have := own_lt HOT.out hr; omega)).trans HM2.out)]; rfl))
          refine hK.out _ _ S7 (fun hHeld => ?_)
          clear hK K
          try simp only [Act.put, List.setIfInBounds_toArray, List.set_cons_zero, List.set_cons_succ]
          refine rdH 6 (fun K hK => ?_)
          go_simp
          refine hK.out _ _ (⟨(World.cell?_setCell_other _ _ _ _ (fun h => by injection h with h; omega)).trans S7.1, (World.cell?_setCell_other _ _ _ _ (fun h => by injection h with h; omega)).trans S7.2.1, (World.cell?_setCell_other _ _ _ _ (fun h => by injection h with h; omega)).trans S7.2.2.1, (World.cell?_setCell_other _ _ _ _ (fun h => by injection h with h; omega)).trans S7.2.2.2.1, (World.cell?_setCell_other _ _ _ _ (fun h => by injection h with h; omega)).trans S7.2.2.2.2⟩) (fun hHeld => ?_)
          clear hK K hHeld
          try simp only [Act.put, List.setIfInBounds_toArray, List.set_cons_zero, List.set_cons_succ]
          refine wpAnyH_done (by kernel_rfl) ?_ _
          have H7 := hide hown7
          have G7 := hide g7
          have AT := hide hat7
          clear hown7 hgrow7 hat7 hlt7 g7 kb7 S7
          gi_wp2
          refine fo_close (o' := o.take F ++ [z]) (ov := .slice oa L oc) (rv := Value.slice ta F tcap) (by rw [List.length_append, List.length_take, ← HL.out, Nat.min_eq_left f3]; rfl) HF.out hb2 hbw (by rw [HL.out]; exact H2.out) HOT.out ?_ G7.out AT.out ?_ ?_
          · exact fun g h => H4.out g (HOB.out ▸ h)
          · rw [pvsC_append]
            exact H7.out
          · rw [List.map_append, ← HG.out.1, foldK_succ HG.out.2.1, foldS_some (q := ptV z) (by rw [HG.out.1, ← H1.out, ← List.map_drop, List.length_map, ← HL.out, ← HTK.out, ← HFF.out]; exact hr), HG.out.1, ← H1.out, List.length_map, ← HL.out, ← HTK.out, ← HFF.out, List.map_take]; rfl
        · go_simp
          refine hK.out _ _ (KA.out _) (fun hHeld => ?_)
          clear hK K
          try simp only [Act.put, List.setIfInBounds_toArray, List.set_cons_zero, List.set_cons_succ]
          have co3 : ∀ q, (W2.alloc q).cell? ⟨w.heap.size + 1, 0, none⟩ = some (.slice oa L oc) := fun q => by rw [Lib.cell_of_heap ((Lib.alloc_old W2 q _ (by omega)).trans ho2)]; rfl
          refine rdH 0 (fun K hK => ?_)
          go_simp
          refine hK.out _ _ hHeld (fun hHeld => ?_)
          clear hK K
          try simp only [Act.put, List.setIfInBounds_toArray, List.set_cons_zero, List.set_cons_succ]
          refine tkH 2 (.slice ta F tcap) hHeld ?_
          try simp only [Act.put, List.setIfInBounds_toArray, List.set_cons_zero, List.set_cons_succ]
          refine rdH 5 (fun K hK => ?_)
          (refine step_append_lies _ (by rfl) _ _ _ (by rfl) (w.heap.size + 3) 38 i0 _ 5 56 Tryz.underlying23 hi hz0 hz1 hz2 rfl (by omega) (Value.slice ta F tcap) F _ (by rfl) (by exact O2.out.alloc _) ⟨W2.heap.size, 0, none⟩ 1 1 [.int .i64 z.k, .int .i64 z.n, .int .i64 z.t, .string z.s, .string z.f] (by rfl) (by rfl) (five_news (by exact heap_alloc_new W2 _)) (by simp [Value.oneCell']) (by omega) (by unfold maxLen; omega) (by omega) (by simp; omega) (W2.heap.size + 1) (by simp) ?_; intro gg cap' w7 hown7 hgrow7 hat7 hlt7)
          have g7 : (W2.alloc (.cells #[.int .i64 z.k, .int .i64 z.n, .int .i64 z.t, .string z.s, .string z.f] 38)).grownBy w7 (Value.slice ta F tcap).ownBlock := ⟨hgrow7.os, hgrow7.tape, hgrow7.output, hgrow7.size, hgrow7.block⟩
          have kb7 : ∀ k, k < W2.heap.size → (Value.slice ta F tcap).ownBlock ≠ some k → w7.heap[k]? = W2.heap[k]? := fun k hk hr => by
            rw [g7.block k (by rw [World.size_alloc]; omega) (fun h => hr h.symm), Lib.alloc_old _ _ _ hk]
          have ho7 : w7.heap[w.heap.size + 1]? = some (.cells #[.slice oa L oc] 23) := (kb7 _ (by omega) (fun hr => by have := (HOT.out.lt _ hr).1; omega)).trans ho2
          have co7 : w7.cell? ⟨w.heap.size + 1, 0, none⟩ = some (.slice oa L oc) := by rw [Lib.cell_of_heap ho7]; rfl
          have cf7 : ∀ j, w7.frozen? ⟨w.heap.size + 1, j, none⟩ = false := fun j => Lib.frozen_of_heap ho7 j
          have S7 := (show w7.cell? ⟨M, 0, none⟩ = some (.int .i64 z.k) ∧ w7.cell? ⟨M, 1, none⟩ = some (.int .i64 z.n) ∧ w7.cell? ⟨M, 2, none⟩ = some (.int .i64 z.t) ∧ w7.cell? ⟨M, 3, none⟩ = some (.string z.s) ∧ w7.cell? ⟨M, 4, none⟩ = some (.string z.f) from by refine ⟨?_, ?_, ?_, ?_, ?_⟩ <;> (rw [Lib.cell_of_heap ((kb7 M ml (fun hr => by have := own_lt HOT.out hr; omega)).trans HM2.out)]; rfl))
          refine hK.out _ _ S7 (fun hHeld => ?_)
          clear hK K
          try simp only [Act.put, List.setIfInBounds_toArray, List.set_cons_zero, List.set_cons_succ]
          refine rdH 6 (fun K hK => ?_)
          go_simp
          refine hK.out _ _ (⟨(World.cell?_setCell_other _ _ _ _ (fun h => by injection h with h; omega)).trans S7.1, (World.cell?_setCell_other _ _ _ _ (fun h => by injection h with h; omega)).trans S7.2.1, (World.cell?_setCell_other _ _ _ _ (fun h => by injection h with h; omega)).trans S7.2.2.1, (World.cell?_setCell_other _ _ _ _ (fun h => by injection h with h; omega)).trans S7.2.2.2.1, (World.cell?_setCell_other _ _ _ _ (fun h => by injection h with h; omega)).trans S7.2.2.2.2⟩) (fun hHeld => ?_)
          clear hK K hHeld
          try simp only [Act.put, List.setIfInBounds_toArray, List.set_cons_zero, List.set_cons_succ]
          refine wpAnyH_done (by kernel_rfl) ?_ _
          have H7 := hide hown7
          have G7 := hide g7
          have AT := hide hat7
          clear hown7 hgrow7 hat7 hlt7 g7 kb7 S7
          gi_wp2
          refine fo_close (o' := o.take F ++ [z]) (ov := .slice oa L oc) (rv := Value.slice ta F tcap) (by rw [List.length_append, List.length_take, ← HL.out, Nat.min_eq_left f3]; rfl) HF.out hb2 hbw (by rw [HL.out]; exact H2.out) HOT.out ?_ G7.out AT.out ?_ ?_
          · exact fun g h => H4.out g (HOB.out ▸ h)
          · rw [pvsC_append]
            exact H7.out
          · rw [List.map_append, ← HG.out.1, foldK_succ HG.out.2.1, foldS_some (q := ptV z) (by rw [HG.out.1, ← H1.out, ← List.map_drop, List.length_map, ← HL.out, ← HTK.out, ← HFF.out]; exact hr), HG.out.1, ← H1.out, List.length_map, ← HL.out, ← HTK.out, ← HFF.out, List.map_take]; rfl
      · gi_wp2
        have H9 : Hid (∀ W', Below W.heap.size W W' → W'.cell? ⟨w.heap.size, 0, none⟩ = some (.slice (some ⟨b, off, none⟩) x.length cap) ∧ W'.cell? ⟨b, off + si * 5, none⟩ = some (.int .i64 y.k) ∧ W'.cell? ⟨b, off + si * 5 + 1, none⟩ = some (.int .i64 y.n) ∧ W'.cell? ⟨b, off + si * 5 + 2, none⟩ = some (.int .i64 y.t) ∧ W'.cell? ⟨b, off + si * 5 + 3, none⟩ = some (.string y.s) ∧ W'.cell? ⟨b, off + si * 5 + 4, none⟩ = some (.string y.f)) := fun W' h => by
          obtain ⟨s1, -, s2, s3, s4, s5, s6, -⟩ := SS.out W' h
          exact ⟨s1, s2, s3, s4, s5, s6⟩
        have hOT : W.ownsRow (w.heap.size + 3) 38 5 (.slice oa L oc) L (pvsC o) := by rw [HL.out]; exact H3.out
        have HOT := hide hOT
        have HOB : Hid ((Value.slice oa L oc).ownBlock = (Value.slice oa o.length oc).ownBlock) := by rw [HL.out]; exact rfl
        have O2 := hide (own_on hOT hb2)
        have hrm := HF.out.room
        have z2 := hb2.size
        have ho2 : W2.heap[w.heap.size + 1]? = some (.cells #[.slice oa L oc] 23) := (hb2.block _ (by omega)).trans (by rw [HL.out]; exact H2.out)
        have co2 : W2.cell? ⟨w.heap.size + 1, 0, none⟩ = some (.slice oa L oc) := by rw [Lib.cell_of_heap ho2]; rfl
        have KA : Hid (∀ q, (W2.alloc q).cell? ⟨w.heap.size, 0, none⟩ = some (.slice (some ⟨b, off, none⟩) x.length cap) ∧ (W2.alloc q).cell? ⟨b, off + si * 5, none⟩ = some (.int .i64 y.k) ∧ (W2.alloc q).cell? ⟨b, off + si * 5 + 1, none⟩ = some (.int .i64 y.n) ∧ (W2.alloc q).cell? ⟨b, off + si * 5 + 2, none⟩ = some (.int .i64 y.t) ∧ (W2.alloc q).cell? ⟨b, off + si * 5 + 3, none⟩ = some (.string y.s) ∧ (W2.alloc q).cell? ⟨b, off + si * 5 + 4, none⟩ = some (.string y.f)) := fun q => H9.out _ (hb2.alloc hb2.size q)
        have K0 := H9.out _ hb2
        clear hOT SS hsl hm2
        refine region_round (S := fun W' => W'.cell? ⟨w.heap.size, 0, none⟩ = some (.slice (some ⟨b, off, none⟩) x.length cap) ∧ W'.cell? ⟨b, off + si * 5, none⟩ = some (.int .i64 y.k) ∧ W'.cell? ⟨b, off + si * 5 + 1, none⟩ = some (.int .i64 y.n) ∧ W'.cell? ⟨b, off + si * 5 + 2, none⟩ = some (.int .i64 y.t) ∧ W'.cell? ⟨b, off + si * 5 + 3, none⟩ = some (.string y.s) ∧ W'.cell? ⟨b, off + si * 5 + 4, none⟩ = some (.string y.f)) (by kernel_rfl) (noDefer_spec (by kernel_rfl)) (by rintro ⟨_, _, h⟩; exact h) (show W2.cell? ⟨w.heap.size, 0, none⟩ = some (.slice (some ⟨b, off, none⟩) x.length cap) ∧ W2.cell? ⟨b, off + si * 5, none⟩ = some (.int .i64 y.k) ∧ W2.cell? ⟨b, off + si * 5 + 1, none⟩ = some (.int .i64 y.n) ∧ W2.cell? ⟨b, off + si * 5 + 2, none⟩ = some (.int .i64 y.t) ∧ W2.cell? ⟨b, off + si * 5 + 3, none⟩ = some (.string y.s) ∧ W2.cell? ⟨b, off + si * 5 + 4, none⟩ = some (.string y.f) from K0) (fun hHeld => ?_)
        refine tkH 1 (.slice (some ⟨b, off, none⟩) x.length cap) hHeld ?_
        refine tkH 2 (.int .i64 (si : Int)) hHeld ?_
        refine tkH 3 (.pointer (some ⟨b, off + si * 5, none⟩)) hHeld ?_
        refine tkH 4 (.agg #[.int .i64 y.k, .int .i64 y.n, .int .i64 y.t, .string y.s, .string y.f]) hHeld ?_
        try simp only [Act.put, List.setIfInBounds_toArray, List.set_cons_zero, List.set_cons_succ]
        refine wpAnyH_ready (rs := [0, 5]) (by kernel_rfl) (by simp) ?_
        refine AllReadyH.cons (o := { dst := some 36, op := _, type := _, pos := _, after := _, guard := none }) rfl (fun K hK => ?_) (AllReadyH.cons (o := { dst := some 41, op := _, type := _, pos := _, after := _, guard := none }) rfl (fun K hK => ?_) AllReadyH.nil)
        · go_simp
          refine hK.out _ _ hHeld (fun hHeld => ?_)
          clear hK K
          try simp only [Act.put, List.setIfInBounds_toArray, List.set_cons_zero, List.set_cons_succ]
          refine rdH 5 (fun K hK => ?_)
          go_simp
          refine hK.out _ _ (KA.out _) (fun hHeld => ?_)
          clear hK K
          try simp only [Act.put, List.setIfInBounds_toArray, List.set_cons_zero, List.set_cons_succ]
          refine rdH 6 (fun K hK => ?_)
          (refine step_append_lies _ (by rfl) _ _ _ (by rfl) (w.heap.size + 3) 38 i0 _ 5 56 Tryz.underlying23 hi hz0 hz1 hz2 rfl (by omega) (Value.slice oa L oc) L _ (by rfl) (by exact O2.out.alloc _) ⟨W2.heap.size, 0, none⟩ 1 1 [.int .i64 y.k, .int .i64 y.n, .int .i64 y.t, .string y.s, .string y.f] (by rfl) (by rfl) (five_news (by exact heap_alloc_new W2 _)) (by simp [Value.oneCell']) (by omega) (by unfold maxLen; omega) (by omega) (by simp; omega) (W2.heap.size + 1) (by simp) ?_; intro gg cap' w7 hown7 hgrow7 hat7 hlt7)
          have g7 : (W2.alloc (.cells #[.int .i64 y.k, .int .i64 y.n, .int .i64 y.t, .string y.s, .string y.f] 38)).grownBy w7 (Value.slice oa L oc).ownBlock := ⟨hgrow7.os, hgrow7.tape, hgrow7.output, hgrow7.size, hgrow7.block⟩
          have kb7 : ∀ k, k < W2.heap.size → (Value.slice oa L oc).ownBlock ≠ some k → w7.heap[k]? = W2.heap[k]? := fun k hk hr => by
            rw [g7.block k (by rw [World.size_alloc]; omega) (fun h => hr h.symm), Lib.alloc_old _ _ _ hk]
          have ho7 : w7.heap[w.heap.size + 1]? = some (.cells #[.slice oa L oc] 23) := (kb7 _ (by omega) (fun hr => by have := (HOT.out.lt _ hr).1; omega)).trans ho2
          have co7 : w7.cell? ⟨w.heap.size + 1, 0, none⟩ = some (.slice oa L oc) := by rw [Lib.cell_of_heap ho7]; rfl
          have cf7 : ∀ j, w7.frozen? ⟨w.heap.size + 1, j, none⟩ = false := fun j => Lib.frozen_of_heap ho7 j
          have S7 := (show w7.cell? ⟨w.heap.size, 0, none⟩ = some (.slice (some ⟨b, off, none⟩) x.length cap) ∧ w7.cell? ⟨b, off + si * 5, none⟩ = some (.int .i64 y.k) ∧ w7.cell? ⟨b, off + si * 5 + 1, none⟩ = some (.int .i64 y.n) ∧ w7.cell? ⟨b, off + si * 5 + 2, none⟩ = some (.int .i64 y.t) ∧ w7.cell? ⟨b, off + si * 5 + 3, none⟩ = some (.string y.s) ∧ w7.cell? ⟨b, off + si * 5 + 4, none⟩ = some (.string y.f) from ⟨(World.cell?_of_block (a := ⟨w.heap.size, _, none⟩) (kb7 w.heap.size (by omega) (fun hr => by have := (HOT.out.lt _ hr).1; omega))).trans K0.1, (World.cell?_of_block (a := ⟨b, _, none⟩) (kb7 b (by omega) (fun hr => by have := (HOT.out.lt _ hr).1; omega))).trans K0.2.1, (World.cell?_of_block (a := ⟨b, _, none⟩) (kb7 b (by omega) (fun hr => by have := (HOT.out.lt _ hr).1; omega))).trans K0.2.2.1, (World.cell?_of_block (a := ⟨b, _, none⟩) (kb7 b (by omega) (fun hr => by have := (HOT.out.lt _ hr).1; omega))).trans K0.2.2.2.1, (World.cell?_of_block (a := ⟨b, _, none⟩) (kb7 b (by omega) (fun hr => by have := (HOT.out.lt _ hr).1; omega))).trans K0.2.2.2.2.1, (World.cell?_of_block (a := ⟨b, _, none⟩) (kb7 b (by omega) (fun hr => by have := (HOT.out.lt _ hr).1; omega))).trans K0.2.2.2.2.2⟩)
          refine hK.out _ _ S7 (fun hHeld => ?_)
          clear hK K
          try simp only [Act.put, List.setIfInBounds_toArray, List.set_cons_zero, List.set_cons_succ]
          refine rdH 7 (fun K hK => ?_)
          go_simp
          refine hK.out _ _ (⟨(World.cell?_setCell_other _ _ _ _ (fun h => by injection h with h; omega)).trans S7.1, (World.cell?_setCell_other _ _ _ _ (fun h => by injection h with h; omega)).trans S7.2.1, (World.cell?_setCell_other _ _ _ _ (fun h => by injection h with h; omega)).trans S7.2.2.1, (World.cell?_setCell_other _ _ _ _ (fun h => by injection h with h; omega)).trans S7.2.2.2.1, (World.cell?_setCell_other _ _ _ _ (fun h => by injection h with h; omega)).trans S7.2.2.2.2.1, (World.cell?_setCell_other _ _ _ _ (fun h => by injection h with h; omega)).trans S7.2.2.2.2.2⟩) (fun hHeld => ?_)
          clear hK K hHeld
          try simp only [Act.put, List.setIfInBounds_toArray, List.set_cons_zero, List.set_cons_succ]
          refine wpAnyH_done (by kernel_rfl) ?_ _
          have H7 := hide hown7
          have G7 := hide g7
          have AT := hide hat7
          clear hown7 hgrow7 hat7 hlt7 g7 kb7 S7
          gi_wp2
          refine fo_close (o' := o ++ [y]) (ov := .slice oa L oc) (rv := Value.slice oa L oc) (by rw [List.length_append, ← HL.out]; rfl) HF.out hb2 hbw (by rw [HL.out]; exact H2.out) HOT.out ?_ G7.out AT.out ?_ ?_
          · exact fun g h => H4.out g (HOB.out ▸ h)
          · rw [pvsC_append]
            exact H7.out
          · rw [List.map_append, ← HG.out.1, foldK_succ HG.out.2.1, foldS_none (by rw [HG.out.1, ← H1.out, ← List.map_drop, List.length_map, ← HL.out, ← HTK.out, ← HFF.out]; exact hr), HG.out.1, ← H1.out]; rfl
        · go_simp
          refine hK.out _ _ (KA.out _) (fun hHeld => ?_)
          clear hK K
          try simp only [Act.put, List.setIfInBounds_toArray, List.set_cons_zero, List.set_cons_succ]
          have co3 : ∀ q, (W2.alloc q).cell? ⟨w.heap.size + 1, 0, none⟩ = some (.slice oa L oc) := fun q => by rw [Lib.cell_of_heap ((Lib.alloc_old W2 q _ (by omega)).trans ho2)]; rfl
          refine rdH 0 (fun K hK => ?_)
          go_simp
          refine hK.out _ _ hHeld (fun hHeld => ?_)
          clear hK K
          try simp only [Act.put, List.setIfInBounds_toArray, List.set_cons_zero, List.set_cons_succ]
          refine rdH 6 (fun K hK => ?_)
          (refine step_append_lies _ (by rfl) _ _ _ (by rfl) (w.heap.size + 3) 38 i0 _ 5 56 Tryz.underlying23 hi hz0 hz1 hz2 rfl (by omega) (Value.slice oa L oc) L _ (by rfl) (by exact O2.out.alloc _) ⟨W2.heap.size, 0, none⟩ 1 1 [.int .i64 y.k, .int .i64 y.n, .int .i64 y.t, .string y.s, .string y.f] (by rfl) (by rfl) (five_news (by exact heap_alloc_new W2 _)) (by simp [Value.oneCell']) (by omega) (by unfold maxLen; omega) (by omega) (by simp; omega) (W2.heap.size + 1) (by simp) ?_; intro gg cap' w7 hown7 hgrow7 hat7 hlt7)
          have g7 : (W2.alloc (.cells #[.int .i64 y.k, .int .i64 y.n, .int .i64 y.t, .string y.s, .string y.f] 38)).grownBy w7 (Value.slice oa L oc).ownBlock := ⟨hgrow7.os, hgrow7.tape, hgrow7.output, hgrow7.size, hgrow7.block⟩
          have kb7 : ∀ k, k < W2.heap.size → (Value.slice oa L oc).ownBlock ≠ some k → w7.heap[k]? = W2.heap[k]? := fun k hk hr => by
            rw [g7.block k (by rw [World.size_alloc]; omega) (fun h => hr h.symm), Lib.alloc_old _ _ _ hk]
          have ho7 : w7.heap[w.heap.size + 1]? = some (.cells #[.slice oa L oc] 23) := (kb7 _ (by omega) (fun hr => by have := (HOT.out.lt _ hr).1; omega)).trans ho2
          have co7 : w7.cell? ⟨w.heap.size + 1, 0, none⟩ = some (.slice oa L oc) := by rw [Lib.cell_of_heap ho7]; rfl
          have cf7 : ∀ j, w7.frozen? ⟨w.heap.size + 1, j, none⟩ = false := fun j => Lib.frozen_of_heap ho7 j
          have S7 := (show w7.cell? ⟨w.heap.size, 0, none⟩ = some (.slice (some ⟨b, off, none⟩) x.length cap) ∧ w7.cell? ⟨b, off + si * 5, none⟩ = some (.int .i64 y.k) ∧ w7.cell? ⟨b, off + si * 5 + 1, none⟩ = some (.int .i64 y.n) ∧ w7.cell? ⟨b, off + si * 5 + 2, none⟩ = some (.int .i64 y.t) ∧ w7.cell? ⟨b, off + si * 5 + 3, none⟩ = some (.string y.s) ∧ w7.cell? ⟨b, off + si * 5 + 4, none⟩ = some (.string y.f) from ⟨(World.cell?_of_block (a := ⟨w.heap.size, _, none⟩) (kb7 w.heap.size (by omega) (fun hr => by have := (HOT.out.lt _ hr).1; omega))).trans K0.1, (World.cell?_of_block (a := ⟨b, _, none⟩) (kb7 b (by omega) (fun hr => by have := (HOT.out.lt _ hr).1; omega))).trans K0.2.1, (World.cell?_of_block (a := ⟨b, _, none⟩) (kb7 b (by omega) (fun hr => by have := (HOT.out.lt _ hr).1; omega))).trans K0.2.2.1, (World.cell?_of_block (a := ⟨b, _, none⟩) (kb7 b (by omega) (fun hr => by have := (HOT.out.lt _ hr).1; omega))).trans K0.2.2.2.1, (World.cell?_of_block (a := ⟨b, _, none⟩) (kb7 b (by omega) (fun hr => by have := (HOT.out.lt _ hr).1; omega))).trans K0.2.2.2.2.1, (World.cell?_of_block (a := ⟨b, _, none⟩) (kb7 b (by omega) (fun hr => by have := (HOT.out.lt _ hr).1; omega))).trans K0.2.2.2.2.2⟩)
          refine hK.out _ _ S7 (fun hHeld => ?_)
          clear hK K
          try simp only [Act.put, List.setIfInBounds_toArray, List.set_cons_zero, List.set_cons_succ]
          refine rdH 7 (fun K hK => ?_)
          go_simp
          refine hK.out _ _ (⟨(World.cell?_setCell_other _ _ _ _ (fun h => by injection h with h; omega)).trans S7.1, (World.cell?_setCell_other _ _ _ _ (fun h => by injection h with h; omega)).trans S7.2.1, (World.cell?_setCell_other _ _ _ _ (fun h => by injection h with h; omega)).trans S7.2.2.1, (World.cell?_setCell_other _ _ _ _ (fun h => by injection h with h; omega)).trans S7.2.2.2.1, (World.cell?_setCell_other _ _ _ _ (fun h => by injection h with h; omega)).trans S7.2.2.2.2.1, (World.cell?_setCell_other _ _ _ _ (fun h => by injection h with h; omega)).trans S7.2.2.2.2.2⟩) (fun hHeld => ?_)
          clear hK K hHeld
          try simp only [Act.put, List.setIfInBounds_toArray, List.set_cons_zero, List.set_cons_succ]
          refine wpAnyH_done (by kernel_rfl) ?_ _
          have H7 := hide hown7
          have G7 := hide g7
          have AT := hide hat7
          clear hown7 hgrow7 hat7 hlt7 g7 kb7 S7
          gi_wp2
          refine fo_close (o' := o ++ [y]) (ov := .slice oa L oc) (rv := Value.slice oa L oc) (by rw [List.length_append, ← HL.out]; rfl) HF.out hb2 hbw (by rw [HL.out]; exact H2.out) HOT.out ?_ G7.out AT.out ?_ ?_
          · exact fun g h => H4.out g (HOB.out ▸ h)
          · rw [pvsC_append]
            exact H7.out
          · rw [List.map_append, ← HG.out.1, foldK_succ HG.out.2.1, foldS_none (by rw [HG.out.1, ← H1.out, ← List.map_drop, List.length_map, ← HL.out, ← HTK.out, ← HFF.out]; exact hr), HG.out.1, ← H1.out]; rfl
    · go_simp
      refine hK.out _ _ (SS.out _ ((Below.refl _ W).drew.alloc (Nat.le_refl _) _)) (fun hHeld => ?_)
      clear hK K
      try simp only [Act.put, List.setIfInBounds_toArray, List.set_cons_zero, List.set_cons_succ]
      refine rdH 7 (fun K hK => ?_)
      go_simp
      refine (C.out _ hHeld.2.2.2.2.2.2.2).mono ?_
      rintro e W1 ⟨⟨z, t, rfl, HZ⟩, hb1, HB1⟩
      refine hK.out _ _ (SS.out W1 hb1) (fun hHeld => ?_)
      clear hK K
      try simp only [Act.put, List.setIfInBounds_toArray, List.set_cons_zero, List.set_cons_succ]
      refine tkH 8 (.tuple #[.agg #[.int .i64 z.k, .int .i64 z.n, .int .i64 z.t, .string z.s, .string z.f], .bool t]) hHeld ?_
      refine tkH 9 (.agg #[.int .i64 z.k, .int .i64 z.n, .int .i64 z.t, .string z.s, .string z.f]) hHeld ?_
      refine tkH 10 (.bool t) hHeld ?_
      try simp only [Act.put, List.setIfInBounds_toArray, List.set_cons_zero, List.set_cons_succ]
      have hz7 : W1.heap[W.heap.size]? = some (.cells #[.int .i64 0, .int .i64 0, .int .i64 0, .string ⟨#[]⟩, .string ⟨#[]⟩] 38) := (HB1.out.block _ (by show W.heap.size < (W.alloc _).heap.size; rw [World.size_alloc]; omega)).trans (heap_alloc_new W _)
      have f7 := Lib.frozen_of_heap hz7
      have k0 : W1.cell? ⟨W.heap.size, 0, none⟩ = some (.int .i64 0) := by rw [Lib.cell_of_heap hz7]; rfl
      have k1 : W1.cell? ⟨W.heap.size, 1, none⟩ = some (.int .i64 0) := by rw [Lib.cell_of_heap hz7]; rfl
      have k2 : W1.cell? ⟨W.heap.size, 2, none⟩ = some (.int .i64 0) := by rw [Lib.cell_of_heap hz7]; rfl
      have k3 : W1.cell? ⟨W.heap.size, 3, none⟩ = some (.string ⟨#[]⟩) := by rw [Lib.cell_of_heap hz7]; rfl
      have k4 : W1.cell? ⟨W.heap.size, 4, none⟩ = some (.string ⟨#[]⟩) := by rw [Lib.cell_of_heap hz7]; rfl
      have hb2 := set5 hb1 (Nat.le_refl _) (.int .i64 z.k) (.int .i64 z.n) (.int .i64 z.t) (.string z.s) (.string z.f)
      have hm2 := heap_set5 hz7 (.int .i64 z.k) (.int .i64 z.n) (.int .i64 z.t) (.string z.s) (.string z.f)
      refine rdH 12 (fun K hK => ?_)
      go_simp
      refine hK.out _ _ (SS.out _ hb2) (fun hHeld => ?_)
      clear hK K
      try simp only [Act.put, List.setIfInBounds_toArray, List.set_cons_zero, List.set_cons_succ]
      refine tkH 13 (.bool t) hHeld ?_
      try simp only [Act.put, List.setIfInBounds_toArray, List.set_cons_zero, List.set_cons_succ]
      refine wpAnyH_done (by kernel_rfl) ?_ _
      clear k0 k1 k2 k3 k4 f7 hz7 hHeld HB1 C
      generalize ((((W1.setCell ⟨W.heap.size, 0, none⟩ (.int .i64 z.k)).setCell ⟨W.heap.size, 1, none⟩ (.int .i64 z.n)).setCell ⟨W.heap.size, 2, none⟩ (.int .i64 z.t)).setCell ⟨W.heap.size, 3, none⟩ (.string z.s)).setCell ⟨W.heap.size, 4, none⟩ (.string z.f) = W2 at *
      obtain ⟨M, hMM⟩ : ∃ M, W.heap.size = M := ⟨_, rfl⟩
      have hM : W.heap.size ≤ M := Nat.le_of_eq hMM
      rw [hMM] at hm2 ⊢
      clear hb1
      rcases HZ.out with ⟨rfl, hr⟩ | ⟨rfl, hr⟩
      · gi_wp2
        obtain ⟨c0, c1, c2', c3, c4⟩ : W2.cell? ⟨M, 0, none⟩ = some (.int .i64 z.k) ∧ W2.cell? ⟨M, 1, none⟩ = some (.int .i64 z.n) ∧ W2.cell? ⟨M, 2, none⟩ = some (.int .i64 z.t) ∧ W2.cell? ⟨M, 3, none⟩ = some (.string z.s) ∧ W2.cell? ⟨M, 4, none⟩ = some (.string z.f) := by refine ⟨?_, ?_, ?_, ?_, ?_⟩ <;> (rw [Lib.cell_of_heap hm2]; rfl)
        obtain ⟨ta, tcap, htv, hOT, hOB⟩ := pv_to H3.out F (by rw [← HL.out]; exact f3)
        rw [← HL.out] at htv hOB
        have HOT := hide hOT
        have HOB : Hid ((Value.slice ta F tcap).ownBlock = (Value.slice oa o.length oc).ownBlock) := by rw [← HL.out]; exact hOB
        have O2 := hide (own_on hOT (hb2))
        have hrm := HF.out.room
        have z2 := hb2.size
        have ho2 : W2.heap[w.heap.size + 1]? = some (.cells #[.slice oa L oc] 23) := (hb2.block _ (by omega)).trans (by rw [HL.out]; exact H2.out)
        have co2 : W2.cell? ⟨w.heap.size + 1, 0, none⟩ = some (.slice oa L oc) := by rw [Lib.cell_of_heap ho2]; rfl
        have ml : M < W2.heap.size := (Array.getElem?_eq_some_iff.1 hm2).1
        have KA : Hid (∀ q, (W2.alloc q).cell? ⟨M, 0, none⟩ = some (.int .i64 z.k) ∧ (W2.alloc q).cell? ⟨M, 1, none⟩ = some (.int .i64 z.n) ∧ (W2.alloc q).cell? ⟨M, 2, none⟩ = some (.int .i64 z.t) ∧ (W2.alloc q).cell? ⟨M, 3, none⟩ = some (.string z.s) ∧ (W2.alloc q).cell? ⟨M, 4, none⟩ = some (.string z.f)) := fun q => by refine ⟨?_, ?_, ?_, ?_, ?_⟩ <;> (rw [Lib.cell_of_heap ((Lib.alloc_old W2 q M ml).trans hm2)]; rfl)
        have HM2 := hide hm2
        clear hOT hOB SS hsl
        refine region_round (S := fun W' => W'.cell? ⟨M, 0, none⟩ = some (.int .i64 z.k) ∧ W'.cell? ⟨M, 1, none⟩ = some (.int .i64 z.n) ∧ W'.cell? ⟨M, 2, none⟩ = some (.int .i64 z.t) ∧ W'.cell? ⟨M, 3, none⟩ = some (.string z.s) ∧ W'.cell? ⟨M, 4, none⟩ = some (.string z.f)) (by kernel_rfl) (noDefer_spec (by kernel_rfl)) (by rintro ⟨_, _, h⟩; exact h) (show W2.cell? ⟨M, 0, none⟩ = some (.int .i64 z.k) ∧ W2.cell? ⟨M, 1, none⟩ = some (.int .i64 z.n) ∧ W2.cell? ⟨M, 2, none⟩ = some (.int .i64 z.t) ∧ W2.cell? ⟨M, 3, none⟩ = some (.string z.s) ∧ W2.cell? ⟨M, 4, none⟩ = some (.string z.f) from ⟨c0, c1, c2', c3, c4⟩) (fun hHeld => ?_)
        refine tkH 1 (.int .i64 (F : Int)) hHeld ?_
        refine tkH 3 (.agg #[.int .i64 z.k, .int .i64 z.n, .int .i64 z.t, .string z.s, .string z.f]) hHeld ?_
        try simp only [Act.put, List.setIfInBounds_toArray, List.set_cons_zero, List.set_cons_succ]
        refine wpAnyH_ready (rs := [0, 4]) (by kernel_rfl) (by simp) ?_
        refine AllReadyH.cons (o := { dst := some 30, op := _, type := _, pos := _, after := _, guard := none }) rfl (fun K hK => ?_) (AllReadyH.cons (o := { dst := some 34, op := _, type := _, pos := _, after := _, guard := none }) rfl (fun K hK => ?_) AllReadyH.nil)
        · go_simp
          refine hK.out _ _ hHeld (fun hHeld => ?_)
          clear hK K
          try simp only [Act.put, List.setIfInBounds_toArray, List.set_cons_zero, List.set_cons_succ]
          refine tkH 2 (.slice ta F tcap) hHeld ?_
          try simp only [Act.put, List.setIfInBounds_toArray, List.set_cons_zero, List.set_cons_succ]
          refine rdH 4 (fun K hK => ?_)
          go_simp
          refine hK.out _ _ (KA.out _) (fun hHeld => ?_)
          clear hK K
          try simp only [Act.put, List.setIfInBounds_toArray, List.set_cons_zero, List.set_cons_succ]
          refine rdH 5 (fun K hK => ?_)
          (refine step_append_lies _ (by rfl) _ _ _ (by rfl) (w.heap.size + 3) 38 i0 _ 5 56 Tryz.underlying23 hi hz0 hz1 hz2 rfl (by omega) (Value.slice ta F tcap) F _ (by rfl) (by exact O2.out.alloc _) ⟨W2.heap.size, 0, none⟩ 1 1 [.int .i64 z.k, .int .i64 z.n, .int .i64 z.t, .string z.s, .string z.f] (by rfl) (by rfl) (five_news (by exact heap_alloc_new W2 _)) (by simp [Value.oneCell']) (by omega) (by unfold maxLen; omega) (by omega) (by simp; omega) (W2.heap.size + 1) (by simp) ?_; intro gg cap' w7 hown7 hgrow7 hat7 hlt7)
          have g7 : (W2.alloc (.cells #[.int .i64 z.k, .int .i64 z.n, .int .i64 z.t, .string z.s, .string z.f] 38)).grownBy w7 (Value.slice ta F tcap).ownBlock := ⟨hgrow7.os, hgrow7.tape, hgrow7.output, hgrow7.size, hgrow7.block⟩
          have kb7 : ∀ k, k < W2.heap.size → (Value.slice ta F tcap).ownBlock ≠ some k → w7.heap[k]? = W2.heap[k]? := fun k hk hr => by
            rw [g7.block k (by rw [World.size_alloc]; omega) (fun h => hr h.symm), Lib.alloc_old _ _ _ hk]
          have ho7 : w7.heap[w.heap.size + 1]? = some (.cells #[.slice oa L oc] 23) := (kb7 _ (by omega) (fun hr => by have := (HOT.out.lt _ hr).1; omega)).trans ho2
          have co7 : w7.cell? ⟨w.heap.size + 1, 0, none⟩ = some (.slice oa L oc) := by rw [Lib.cell_of_heap ho7]; rfl
          have cf7 : ∀ j, w7.frozen? ⟨w.heap.size + 1, j, none⟩ = false := fun j => Lib.frozen_of_heap ho7 j
          have S7 := (show w7.cell? ⟨M, 0, none⟩ = some (.int .i64 z.k) ∧ w7.cell? ⟨M, 1, none⟩ = some (.int .i64 z.n) ∧ w7.cell? ⟨M, 2, none⟩ = some (.int .i64 z.t) ∧ w7.cell? ⟨M, 3, none⟩ = some (.string z.s) ∧ w7.cell? ⟨M, 4, none⟩ = some (.string z.f) from by refine ⟨?_, ?_, ?_, ?_, ?_⟩ <;> (rw [Lib.cell_of_heap ((kb7 M ml (fun hr => by have := own_lt HOT.out hr; omega)).trans HM2.out)]; rfl))
          refine hK.out _ _ S7 (fun hHeld => ?_)
          clear hK K
          try simp only [Act.put, List.setIfInBounds_toArray, List.set_cons_zero, List.set_cons_succ]
          refine rdH 6 (fun K hK => ?_)
          go_simp
          refine hK.out _ _ (⟨(World.cell?_setCell_other _ _ _ _ (fun h => by injection h with h; omega)).trans S7.1, (World.cell?_setCell_other _ _ _ _ (fun h => by injection h with h; omega)).trans S7.2.1, (World.cell?_setCell_other _ _ _ _ (fun h => by injection h with h; omega)).trans S7.2.2.1, (World.cell?_setCell_other _ _ _ _ (fun h => by injection h with h; omega)).trans S7.2.2.2.1, (World.cell?_setCell_other _ _ _ _ (fun h => by injection h with h; omega)).trans S7.2.2.2.2⟩) (fun hHeld => ?_)
          clear hK K hHeld
          try simp only [Act.put, List.setIfInBounds_toArray, List.set_cons_zero, List.set_cons_succ]
          refine wpAnyH_done (by kernel_rfl) ?_ _
          have H7 := hide hown7
          have G7 := hide g7
          have AT := hide hat7
          clear hown7 hgrow7 hat7 hlt7 g7 kb7 S7
          gi_wp2
          refine fo_close (o' := o.take F ++ [z]) (ov := .slice oa L oc) (rv := Value.slice ta F tcap) (by rw [List.length_append, List.length_take, ← HL.out, Nat.min_eq_left f3]; rfl) HF.out hb2 hbw (by rw [HL.out]; exact H2.out) HOT.out ?_ G7.out AT.out ?_ ?_
          · exact fun g h => H4.out g (HOB.out ▸ h)
          · rw [pvsC_append]
            exact H7.out
          · rw [List.map_append, ← HG.out.1, foldK_succ HG.out.2.1, foldS_some (q := ptV z) (by rw [HG.out.1, ← H1.out, ← List.map_drop, List.length_map, ← HL.out, ← HTK.out, ← HFF.out]; exact hr), HG.out.1, ← H1.out, List.length_map, ← HL.out, ← HTK.out, ← HFF.out, List.map_take]; rfl
        · go_simp
          refine hK.out _ _ (KA.out _) (fun hHeld => ?_)
          clear hK K
          try simp only [Act.put, List.setIfInBounds_toArray, List.set_cons_zero, List.set_cons_succ]
          have co3 : ∀ q, (W2.alloc q).cell? ⟨w.heap.size + 1, 0, none⟩ = some (.slice oa L oc) := fun q => by rw [Lib.cell_of_heap ((Lib.alloc_old W2 q _ (by omega)).trans ho2)]; rfl
          refine rdH 0 (fun K hK => ?_)
          go_simp
          refine hK.out _ _ hHeld (fun hHeld => ?_)
          clear hK K
          try simp only [Act.put, List.setIfInBounds_toArray, List.set_cons_zero, List.set_cons_succ]
          refine tkH 2 (.slice ta F tcap) hHeld ?_
          try simp only [Act.put, List.setIfInBounds_toArray, List.set_cons_zero, List.set_cons_succ]
          refine rdH 5 (fun K hK => ?_)
          (refine step_append_lies _ (by rfl) _ _ _ (by rfl) (w.heap.size + 3) 38 i0 _ 5 56 Tryz.underlying23 hi hz0 hz1 hz2 rfl (by omega) (Value.slice ta F tcap) F _ (by rfl) (by exact O2.out.alloc _) ⟨W2.heap.size, 0, none⟩ 1 1 [.int .i64 z.k, .int .i64 z.n, .int .i64 z.t, .string z.s, .string z.f] (by rfl) (by rfl) (five_news (by exact heap_alloc_new W2 _)) (by simp [Value.oneCell']) (by omega) (by unfold maxLen; omega) (by omega) (by simp; omega) (W2.heap.size + 1) (by simp) ?_; intro gg cap' w7 hown7 hgrow7 hat7 hlt7)
          have g7 : (W2.alloc (.cells #[.int .i64 z.k, .int .i64 z.n, .int .i64 z.t, .string z.s, .string z.f] 38)).grownBy w7 (Value.slice ta F tcap).ownBlock := ⟨hgrow7.os, hgrow7.tape, hgrow7.output, hgrow7.size, hgrow7.block⟩
          have kb7 : ∀ k, k < W2.heap.size → (Value.slice ta F tcap).ownBlock ≠ some k → w7.heap[k]? = W2.heap[k]? := fun k hk hr => by
            rw [g7.block k (by rw [World.size_alloc]; omega) (fun h => hr h.symm), Lib.alloc_old _ _ _ hk]
          have ho7 : w7.heap[w.heap.size + 1]? = some (.cells #[.slice oa L oc] 23) := (kb7 _ (by omega) (fun hr => by have := (HOT.out.lt _ hr).1; omega)).trans ho2
          have co7 : w7.cell? ⟨w.heap.size + 1, 0, none⟩ = some (.slice oa L oc) := by rw [Lib.cell_of_heap ho7]; rfl
          have cf7 : ∀ j, w7.frozen? ⟨w.heap.size + 1, j, none⟩ = false := fun j => Lib.frozen_of_heap ho7 j
          have S7 := (show w7.cell? ⟨M, 0, none⟩ = some (.int .i64 z.k) ∧ w7.cell? ⟨M, 1, none⟩ = some (.int .i64 z.n) ∧ w7.cell? ⟨M, 2, none⟩ = some (.int .i64 z.t) ∧ w7.cell? ⟨M, 3, none⟩ = some (.string z.s) ∧ w7.cell? ⟨M, 4, none⟩ = some (.string z.f) from by refine ⟨?_, ?_, ?_, ?_, ?_⟩ <;> (rw [Lib.cell_of_heap ((kb7 M ml (fun hr => by have := own_lt HOT.out hr; omega)).trans HM2.out)]; rfl))
          refine hK.out _ _ S7 (fun hHeld => ?_)
          clear hK K
          try simp only [Act.put, List.setIfInBounds_toArray, List.set_cons_zero, List.set_cons_succ]
          refine rdH 6 (fun K hK => ?_)
          go_simp
          refine hK.out _ _ (⟨(World.cell?_setCell_other _ _ _ _ (fun h => by injection h with h; omega)).trans S7.1, (World.cell?_setCell_other _ _ _ _ (fun h => by injection h with h; omega)).trans S7.2.1, (World.cell?_setCell_other _ _ _ _ (fun h => by injection h with h; omega)).trans S7.2.2.1, (World.cell?_setCell_other _ _ _ _ (fun h => by injection h with h; omega)).trans S7.2.2.2.1, (World.cell?_setCell_other _ _ _ _ (fun h => by injection h with h; omega)).trans S7.2.2.2.2⟩) (fun hHeld => ?_)
          clear hK K hHeld
          try simp only [Act.put, List.setIfInBounds_toArray, List.set_cons_zero, List.set_cons_succ]
          refine wpAnyH_done (by kernel_rfl) ?_ _
          have H7 := hide hown7
          have G7 := hide g7
          have AT := hide hat7
          clear hown7 hgrow7 hat7 hlt7 g7 kb7 S7
          gi_wp2
          refine fo_close (o' := o.take F ++ [z]) (ov := .slice oa L oc) (rv := Value.slice ta F tcap) (by rw [List.length_append, List.length_take, ← HL.out, Nat.min_eq_left f3]; rfl) HF.out hb2 hbw (by rw [HL.out]; exact H2.out) HOT.out ?_ G7.out AT.out ?_ ?_
          · exact fun g h => H4.out g (HOB.out ▸ h)
          · rw [pvsC_append]
            exact H7.out
          · rw [List.map_append, ← HG.out.1, foldK_succ HG.out.2.1, foldS_some (q := ptV z) (by rw [HG.out.1, ← H1.out, ← List.map_drop, List.length_map, ← HL.out, ← HTK.out, ← HFF.out]; exact hr), HG.out.1, ← H1.out, List.length_map, ← HL.out, ← HTK.out, ← HFF.out, List.map_take]; rfl
      · gi_wp2
        have H9 : Hid (∀ W', Below W.heap.size W W' → W'.cell? ⟨w.heap.size, 0, none⟩ = some (.slice (some ⟨b, off, none⟩) x.length cap) ∧ W'.cell? ⟨b, off + si * 5, none⟩ = some (.int .i64 y.k) ∧ W'.cell? ⟨b, off + si * 5 + 1, none⟩ = some (.int .i64 y.n) ∧ W'.cell? ⟨b, off + si * 5 + 2, none⟩ = some (.int .i64 y.t) ∧ W'.cell? ⟨b, off + si * 5 + 3, none⟩ = some (.string y.s) ∧ W'.cell? ⟨b, off + si * 5 + 4, none⟩ = some (.string y.f)) := fun W' h => by
          obtain ⟨s1, -, s2, s3, s4, s5, s6, -⟩ := SS.out W' h
          exact ⟨s1, s2, s3, s4, s5, s6⟩
        have hOT : W.ownsRow (w.heap.size + 3) 38 5 (.slice oa L oc) L (pvsC o) := by rw [HL.out]; exact H3.out
        have HOT := hide hOT
        have HOB : Hid ((Value.slice oa L oc).ownBlock = (Value.slice oa o.length oc).ownBlock) := by rw [HL.out]; exact rfl
        have O2 := hide (own_on hOT hb2)
        have hrm := HF.out.room
        have z2 := hb2.size
        have ho2 : W2.heap[w.heap.size + 1]? = some (.cells #[.slice oa L oc] 23) := (hb2.block _ (by omega)).trans (by rw [HL.out]; exact H2.out)
        have co2 : W2.cell? ⟨w.heap.size + 1, 0, none⟩ = some (.slice oa L oc) := by rw [Lib.cell_of_heap ho2]; rfl
        have KA : Hid (∀ q, (W2.alloc q).cell? ⟨w.heap.size, 0, none⟩ = some (.slice (some ⟨b, off, none⟩) x.length cap) ∧ (W2.alloc q).cell? ⟨b, off + si * 5, none⟩ = some (.int .i64 y.k) ∧ (W2.alloc q).cell? ⟨b, off + si * 5 + 1, none⟩ = some (.int .i64 y.n) ∧ (W2.alloc q).cell? ⟨b, off + si * 5 + 2, none⟩ = some (.int .i64 y.t) ∧ (W2.alloc q).cell? ⟨b, off + si * 5 + 3, none⟩ = some (.string y.s) ∧ (W2.alloc q).cell? ⟨b, off + si * 5 + 4, none⟩ = some (.string y.f)) := fun q => H9.out _ (hb2.alloc hb2.size q)
        have K0 := H9.out _ hb2
        clear hOT SS hsl hm2
        refine region_round (S := fun W' => W'.cell? ⟨w.heap.size, 0, none⟩ = some (.slice (some ⟨b, off, none⟩) x.length cap) ∧ W'.cell? ⟨b, off + si * 5, none⟩ = some (.int .i64 y.k) ∧ W'.cell? ⟨b, off + si * 5 + 1, none⟩ = some (.int .i64 y.n) ∧ W'.cell? ⟨b, off + si * 5 + 2, none⟩ = some (.int .i64 y.t) ∧ W'.cell? ⟨b, off + si * 5 + 3, none⟩ = some (.string y.s) ∧ W'.cell? ⟨b, off + si * 5 + 4, none⟩ = some (.string y.f)) (by kernel_rfl) (noDefer_spec (by kernel_rfl)) (by rintro ⟨_, _, h⟩; exact h) (show W2.cell? ⟨w.heap.size, 0, none⟩ = some (.slice (some ⟨b, off, none⟩) x.length cap) ∧ W2.cell? ⟨b, off + si * 5, none⟩ = some (.int .i64 y.k) ∧ W2.cell? ⟨b, off + si * 5 + 1, none⟩ = some (.int .i64 y.n) ∧ W2.cell? ⟨b, off + si * 5 + 2, none⟩ = some (.int .i64 y.t) ∧ W2.cell? ⟨b, off + si * 5 + 3, none⟩ = some (.string y.s) ∧ W2.cell? ⟨b, off + si * 5 + 4, none⟩ = some (.string y.f) from K0) (fun hHeld => ?_)
        refine tkH 1 (.slice (some ⟨b, off, none⟩) x.length cap) hHeld ?_
        refine tkH 2 (.int .i64 (si : Int)) hHeld ?_
        refine tkH 3 (.pointer (some ⟨b, off + si * 5, none⟩)) hHeld ?_
        refine tkH 4 (.agg #[.int .i64 y.k, .int .i64 y.n, .int .i64 y.t, .string y.s, .string y.f]) hHeld ?_
        try simp only [Act.put, List.setIfInBounds_toArray, List.set_cons_zero, List.set_cons_succ]
        refine wpAnyH_ready (rs := [0, 5]) (by kernel_rfl) (by simp) ?_
        refine AllReadyH.cons (o := { dst := some 36, op := _, type := _, pos := _, after := _, guard := none }) rfl (fun K hK => ?_) (AllReadyH.cons (o := { dst := some 41, op := _, type := _, pos := _, after := _, guard := none }) rfl (fun K hK => ?_) AllReadyH.nil)
        · go_simp
          refine hK.out _ _ hHeld (fun hHeld => ?_)
          clear hK K
          try simp only [Act.put, List.setIfInBounds_toArray, List.set_cons_zero, List.set_cons_succ]
          refine rdH 5 (fun K hK => ?_)
          go_simp
          refine hK.out _ _ (KA.out _) (fun hHeld => ?_)
          clear hK K
          try simp only [Act.put, List.setIfInBounds_toArray, List.set_cons_zero, List.set_cons_succ]
          refine rdH 6 (fun K hK => ?_)
          (refine step_append_lies _ (by rfl) _ _ _ (by rfl) (w.heap.size + 3) 38 i0 _ 5 56 Tryz.underlying23 hi hz0 hz1 hz2 rfl (by omega) (Value.slice oa L oc) L _ (by rfl) (by exact O2.out.alloc _) ⟨W2.heap.size, 0, none⟩ 1 1 [.int .i64 y.k, .int .i64 y.n, .int .i64 y.t, .string y.s, .string y.f] (by rfl) (by rfl) (five_news (by exact heap_alloc_new W2 _)) (by simp [Value.oneCell']) (by omega) (by unfold maxLen; omega) (by omega) (by simp; omega) (W2.heap.size + 1) (by simp) ?_; intro gg cap' w7 hown7 hgrow7 hat7 hlt7)
          have g7 : (W2.alloc (.cells #[.int .i64 y.k, .int .i64 y.n, .int .i64 y.t, .string y.s, .string y.f] 38)).grownBy w7 (Value.slice oa L oc).ownBlock := ⟨hgrow7.os, hgrow7.tape, hgrow7.output, hgrow7.size, hgrow7.block⟩
          have kb7 : ∀ k, k < W2.heap.size → (Value.slice oa L oc).ownBlock ≠ some k → w7.heap[k]? = W2.heap[k]? := fun k hk hr => by
            rw [g7.block k (by rw [World.size_alloc]; omega) (fun h => hr h.symm), Lib.alloc_old _ _ _ hk]
          have ho7 : w7.heap[w.heap.size + 1]? = some (.cells #[.slice oa L oc] 23) := (kb7 _ (by omega) (fun hr => by have := (HOT.out.lt _ hr).1; omega)).trans ho2
          have co7 : w7.cell? ⟨w.heap.size + 1, 0, none⟩ = some (.slice oa L oc) := by rw [Lib.cell_of_heap ho7]; rfl
          have cf7 : ∀ j, w7.frozen? ⟨w.heap.size + 1, j, none⟩ = false := fun j => Lib.frozen_of_heap ho7 j
          have S7 := (show w7.cell? ⟨w.heap.size, 0, none⟩ = some (.slice (some ⟨b, off, none⟩) x.length cap) ∧ w7.cell? ⟨b, off + si * 5, none⟩ = some (.int .i64 y.k) ∧ w7.cell? ⟨b, off + si * 5 + 1, none⟩ = some (.int .i64 y.n) ∧ w7.cell? ⟨b, off + si * 5 + 2, none⟩ = some (.int .i64 y.t) ∧ w7.cell? ⟨b, off + si * 5 + 3, none⟩ = some (.string y.s) ∧ w7.cell? ⟨b, off + si * 5 + 4, none⟩ = some (.string y.f) from ⟨(World.cell?_of_block (a := ⟨w.heap.size, _, none⟩) (kb7 w.heap.size (by omega) (fun hr => by have := (HOT.out.lt _ hr).1; omega))).trans K0.1, (World.cell?_of_block (a := ⟨b, _, none⟩) (kb7 b (by omega) (fun hr => by have := (HOT.out.lt _ hr).1; omega))).trans K0.2.1, (World.cell?_of_block (a := ⟨b, _, none⟩) (kb7 b (by omega) (fun hr => by have := (HOT.out.lt _ hr).1; omega))).trans K0.2.2.1, (World.cell?_of_block (a := ⟨b, _, none⟩) (kb7 b (by omega) (fun hr => by have := (HOT.out.lt _ hr).1; omega))).trans K0.2.2.2.1, (World.cell?_of_block (a := ⟨b, _, none⟩) (kb7 b (by omega) (fun hr => by have := (HOT.out.lt _ hr).1; omega))).trans K0.2.2.2.2.1, (World.cell?_of_block (a := ⟨b, _, none⟩) (kb7 b (by omega) (fun hr => by have := (HOT.out.lt _ hr).1; omega))).trans K0.2.2.2.2.2⟩)
          refine hK.out _ _ S7 (fun hHeld => ?_)
          clear hK K
          try simp only [Act.put, List.setIfInBounds_toArray, List.set_cons_zero, List.set_cons_succ]
          refine rdH 7 (fun K hK => ?_)
          go_simp
          refine hK.out _ _ (⟨(World.cell?_setCell_other _ _ _ _ (fun h => by injection h with h; omega)).trans S7.1, (World.cell?_setCell_other _ _ _ _ (fun h => by injection h with h; omega)).trans S7.2.1, (World.cell?_setCell_other _ _ _ _ (fun h => by injection h with h; omega)).trans S7.2.2.1, (World.cell?_setCell_other _ _ _ _ (fun h => by injection h with h; omega)).trans S7.2.2.2.1, (World.cell?_setCell_other _ _ _ _ (fun h => by injection h with h; omega)).trans S7.2.2.2.2.1, (World.cell?_setCell_other _ _ _ _ (fun h => by injection h with h; omega)).trans S7.2.2.2.2.2⟩) (fun hHeld => ?_)
          clear hK K hHeld
          try simp only [Act.put, List.setIfInBounds_toArray, List.set_cons_zero, List.set_cons_succ]
          refine wpAnyH_done (by kernel_rfl) ?_ _
          have H7 := hide hown7
          have G7 := hide g7
          have AT := hide hat7
          clear hown7 hgrow7 hat7 hlt7 g7 kb7 S7
          gi_wp2
          refine fo_close (o' := o ++ [y]) (ov := .slice oa L oc) (rv := Value.slice oa L oc) (by rw [List.length_append, ← HL.out]; rfl) HF.out hb2 hbw (by rw [HL.out]; exact H2.out) HOT.out ?_ G7.out AT.out ?_ ?_
          · exact fun g h => H4.out g (HOB.out ▸ h)
          · rw [pvsC_append]
            exact H7.out
          · rw [List.map_append, ← HG.out.1, foldK_succ HG.out.2.1, foldS_none (by rw [HG.out.1, ← H1.out, ← List.map_drop, List.length_map, ← HL.out, ← HTK.out, ← HFF.out]; exact hr), HG.out.1, ← H1.out]; rfl
        · go_simp
          refine hK.out _ _ (KA.out _) (fun hHeld => ?_)
          clear hK K
          try simp only [Act.put, List.setIfInBounds_toArray, List.set_cons_zero, List.set_cons_succ]
          have co3 : ∀ q, (W2.alloc q).cell? ⟨w.heap.size + 1, 0, none⟩ = some (.slice oa L oc) := fun q => by rw [Lib.cell_of_heap ((Lib.alloc_old W2 q _ (by omega)).trans ho2)]; rfl
          refine rdH 0 (fun K hK => ?_)
          go_simp
          refine hK.out _ _ hHeld (fun hHeld => ?_)
          clear hK K
          try simp only [Act.put, List.setIfInBounds_toArray, List.set_cons_zero, List.set_cons_succ]
          refine rdH 6 (fun K hK => ?_)
          (refine step_append_lies _ (by rfl) _ _ _ (by rfl) (w.heap.size + 3) 38 i0 _ 5 56 Tryz.underlying23 hi hz0 hz1 hz2 rfl (by omega) (Value.slice oa L oc) L _ (by rfl) (by exact O2.out.alloc _) ⟨W2.heap.size, 0, none⟩ 1 1 [.int .i64 y.k, .int .i64 y.n, .int .i64 y.t, .string y.s, .string y.f] (by rfl) (by rfl) (five_news (by exact heap_alloc_new W2 _)) (by simp [Value.oneCell']) (by omega) (by unfold maxLen; omega) (by omega) (by simp; omega) (W2.heap.size + 1) (by simp) ?_; intro gg cap' w7 hown7 hgrow7 hat7 hlt7)
          have g7 : (W2.alloc (.cells #[.int .i64 y.k, .int .i64 y.n, .int .i64 y.t, .string y.s, .string y.f] 38)).grownBy w7 (Value.slice oa L oc).ownBlock := ⟨hgrow7.os, hgrow7.tape, hgrow7.output, hgrow7.size, hgrow7.block⟩
          have kb7 : ∀ k, k < W2.heap.size → (Value.slice oa L oc).ownBlock ≠ some k → w7.heap[k]? = W2.heap[k]? := fun k hk hr => by
            rw [g7.block k (by rw [World.size_alloc]; omega) (fun h => hr h.symm), Lib.alloc_old _ _ _ hk]
          have ho7 : w7.heap[w.heap.size + 1]? = some (.cells #[.slice oa L oc] 23) := (kb7 _ (by omega) (fun hr => by have := (HOT.out.lt _ hr).1; omega)).trans ho2
          have co7 : w7.cell? ⟨w.heap.size + 1, 0, none⟩ = some (.slice oa L oc) := by rw [Lib.cell_of_heap ho7]; rfl
          have cf7 : ∀ j, w7.frozen? ⟨w.heap.size + 1, j, none⟩ = false := fun j => Lib.frozen_of_heap ho7 j
          have S7 := (show w7.cell? ⟨w.heap.size, 0, none⟩ = some (.slice (some ⟨b, off, none⟩) x.length cap) ∧ w7.cell? ⟨b, off + si * 5, none⟩ = some (.int .i64 y.k) ∧ w7.cell? ⟨b, off + si * 5 + 1, none⟩ = some (.int .i64 y.n) ∧ w7.cell? ⟨b, off + si * 5 + 2, none⟩ = some (.int .i64 y.t) ∧ w7.cell? ⟨b, off + si * 5 + 3, none⟩ = some (.string y.s) ∧ w7.cell? ⟨b, off + si * 5 + 4, none⟩ = some (.string y.f) from ⟨(World.cell?_of_block (a := ⟨w.heap.size, _, none⟩) (kb7 w.heap.size (by omega) (fun hr => by have := (HOT.out.lt _ hr).1; omega))).trans K0.1, (World.cell?_of_block (a := ⟨b, _, none⟩) (kb7 b (by omega) (fun hr => by have := (HOT.out.lt _ hr).1; omega))).trans K0.2.1, (World.cell?_of_block (a := ⟨b, _, none⟩) (kb7 b (by omega) (fun hr => by have := (HOT.out.lt _ hr).1; omega))).trans K0.2.2.1, (World.cell?_of_block (a := ⟨b, _, none⟩) (kb7 b (by omega) (fun hr => by have := (HOT.out.lt _ hr).1; omega))).trans K0.2.2.2.1, (World.cell?_of_block (a := ⟨b, _, none⟩) (kb7 b (by omega) (fun hr => by have := (HOT.out.lt _ hr).1; omega))).trans K0.2.2.2.2.1, (World.cell?_of_block (a := ⟨b, _, none⟩) (kb7 b (by omega) (fun hr => by have := (HOT.out.lt _ hr).1; omega))).trans K0.2.2.2.2.2⟩)
          refine hK.out _ _ S7 (fun hHeld => ?_)
          clear hK K
          try simp only [Act.put, List.setIfInBounds_toArray, List.set_cons_zero, List.set_cons_succ]
          refine rdH 7 (fun K hK => ?_)
          go_simp
          refine hK.out _ _ (⟨(World.cell?_setCell_other _ _ _ _ (fun h => by injection h with h; omega)).trans S7.1, (World.cell?_setCell_other _ _ _ _ (fun h => by injection h with h; omega)).trans S7.2.1, (World.cell?_setCell_other _ _ _ _ (fun h => by injection h with h; omega)).trans S7.2.2.1, (World.cell?_setCell_other _ _ _ _ (fun h => by injection h with h; omega)).trans S7.2.2.2.1, (World.cell?_setCell_other _ _ _ _ (fun h => by injection h with h; omega)).trans S7.2.2.2.2.1, (World.cell?_setCell_other _ _ _ _ (fun h => by injection h with h; omega)).trans S7.2.2.2.2.2⟩) (fun hHeld => ?_)
          clear hK K hHeld
          try simp only [Act.put, List.setIfInBounds_toArray, List.set_cons_zero, List.set_cons_succ]
          refine wpAnyH_done (by kernel_rfl) ?_ _
          have H7 := hide hown7
          have G7 := hide g7
          have AT := hide hat7
          clear hown7 hgrow7 hat7 hlt7 g7 kb7 S7
          gi_wp2
          refine fo_close (o' := o ++ [y]) (ov := .slice oa L oc) (rv := Value.slice oa L oc) (by rw [List.length_append, ← HL.out]; rfl) HF.out hb2 hbw (by rw [HL.out]; exact H2.out) HOT.out ?_ G7.out AT.out ?_ ?_
          · exact fun g h => H4.out g (HOB.out ▸ h)
          · rw [pvsC_append]
            exact H7.out
          · rw [List.map_append, ← HG.out.1, foldK_succ HG.out.2.1, foldS_none (by rw [HG.out.1, ← H1.out, ← List.map_drop, List.length_map, ← HL.out, ← HTK.out, ← HFF.out]; exact hr), HG.out.1, ← H1.out]; rfl
    --E
  case done =>
    rintro D ys O W hD hS hF hK
    obtain ⟨o, ov, h1, h2, h3, h4⟩ := hF.ex
    have c1 : W.cell? ⟨w.heap.size + 1, 0, none⟩ = some ov := by rw [Lib.cell_of_heap h2]; rfl
    obtain ⟨oa, oc, rfl, -⟩ := own_form3 h3
    have HF := hide hF
    have H1 := hide h1
    have H3 := hide h3
    clear h1 h2 h3 h4 hF
    gi_wp2
    refine ⟨by simp, .inl ⟨_, _, rfl, run_takeDeferred hK, ?_⟩⟩
    refine ⟨.slice oa o.length oc, by simp [results, Tryz.f27, go_sem], ⟨_, o, rfl, ?_, ?_⟩, HF.out.below.trans (belowK_b (w := w) (Nat.le_refl _) W D _ _ (by omega) hK rfl rfl)⟩
    · rw [H1.out, hS, ← foldK_all, List.length_map]
    · refine own_block H3.out (fun g hg => World.putObj_heap_other (fun e => ?_))
      subst e
      rcases H3.out.2 with ⟨h1, -⟩ | ⟨g', cp, cur, h1, r2, r3, -⟩
      · rw [h1] at hg; cases hg
      · rw [h1] at hg
        obtain rfl : g' = g := by simpa [Value.ownBlock] using hg
        rw [hK] at r3; cases r3
end Go.Proofs.YtldjiieckddhkaaGreatDoor
