import Derived.Test.YtldjiieckddhkaaGreatDoorMg29
import Derived.OwnWalkIn
import Derived.LoopIn
namespace Go.Proofs.YtldjiieckddhkaaGreatDoor
open Go.RowKit Go.Shelf
attribute [local go_sem] Oper.semAt_some
theorem in73 : (Tryz.prog.info? 3).map (fun i => (i.zero, i.size, i.bytes)) = some (some (.int .i64 0), 1, 8) := by kernel_rfl
theorem cell_alloc_lt (w : World) (o : Obj) {k j : Nat} (h : k < w.heap.size) : (w.alloc o).cell? ⟨k, j, none⟩ = w.cell? ⟨k, j, none⟩ := World.cell?_of_block (a := ⟨k, j, none⟩) (Lib.alloc_old w o k h)
theorem one_news {w : World} {g : Nat} {a : Value} (h : w.heap[g]? = some (.cells #[a] 3)) : ∀ j u, ([a] : List Value)[j]? = some u → w.cell? ((⟨g, 0, none⟩ : Addr).add j) = some u := fun j u hj => by
  rw [show (⟨g, 0, none⟩ : Addr).add j = ⟨g, j, none⟩ by rw [Addr.add_mid, Nat.zero_add], Lib.cell_of_heap h]
  rw [← List.getElem?_toArray] at hj; exact hj
theorem gv_map (t : Int) (o : List Pv) : (o.map (gvP t)).map ptV = giveP t (o.map ptV) := by
  unfold giveP
  rw [List.map_map, List.map_map]
  exact List.map_congr_left fun y _ => gvP_pt t y
set_option maxRecDepth 100000 in
set_option maxHeartbeats 6400000 in
theorem resolved_any (vv v : Value) (l : List Vv) (x : List Pv) (t : Int) (w : World) (vN : Vl) (hV : VLst w vv l) (hvl : l.length ≤ 4398046510976) (hcp : CapOk vv) (hX : PLst w v x) (hg : Glo w) (h5 : x.length ≤ 500) (hx1 : 1 ≤ x.length) (hm : ∀ p ∈ x.map ptV, mayP p = true) (hW : Wf (x.map ptV) 0)
    (hmv : mayV (l.map vrV) = 0) (hs : ∀ y ∈ x, y.s.size ≤ 140737488355000 ∧ y.f.size ≤ 140737488355000) (hN : mRun (partR (l.map vrV)) (x.map ptV) [] = .ok [vN]) (hnf : ∀ p ∈ x.map ptV, p.kind = 1 → p.t = 0 → fit6 3 p.n = true) :
    Calls Tryz.prog 24 #[vv, v, .int .i64 t] w fun e w' => (∃ (ov : Value) (o : List Pv), e = .returned ov ∧ o.map ptV = resP (l.map vrV) (x.map ptV) t ∧ PLst w' ov o ∧ o.length = x.length) ∧ Below w.heap.size w w' := by
  refine (callsIn_wide (n := 4)).1 ?_
  have HX := hide hX
  obtain ⟨a, b, off, cap, rfl, hA, hI⟩ := hX
  obtain ⟨hbw, rfl⟩ := hA (by omega)
  have HV := hide hV
  obtain ⟨va, vb, voff, vcap, rfl, hVA, hVI⟩ := hV
  obtain ⟨i0, hi, hz0, hz1, hz2⟩ := info_parts in73
  obtain ⟨N, hNN⟩ : ∃ N, N = x.length := ⟨_, rfl⟩
  have HNN := hide hNN
  rw [← hNN]
  have n5 : (N : Int) ≤ 500 := by omega
  have n0 : (0 : Int) ≤ (N : Int) := by omega
  have hmk : ∀ u : World, (Instr.makeSlice 73 (.int .i64 (N : Int)) (.int .i64 (N : Int))).run Tryz.prog u =
      .ok (.slice (some ⟨u.heap.size, 0, none⟩) N N) (u.alloc (.cells (madeCells #[.int .i64 0] N) 3)) := fun u => by
    have h := run_make (P := Tryz.prog) u 73 3 i0 (.int .i64 0) Tryz.underlying73 hi hz0 .i64 .i64 (N : Int) (N : Int) (by omega) (by omega) (by rw [hz2]; omega) (by omega)
    rw [Int.toNat_natCast] at h
    simpa [hz1, Value.cells] using h
  have mc : Hid (∀ W, Below w.heap.size w W → Calls Tryz.prog 41 #[.slice (some ⟨b, off, none⟩) N cap] W fun e w' => (∃ g c cs, e = .returned (.slice (some ⟨g, 0, none⟩) N c) ∧ N ≤ c ∧ W.heap.size ≤ g ∧ w'.heap[g]? = some (.cells cs 38) ∧ cs.toList.take (N * 5) = pvsC x) ∧ Below W.heap.size W w') := fun W h => by
    have h := copied_any _ x W (HX.out.below h (Nat.le_refl _)) hx1 (by omega) hs
    rw [← hNN] at h
    exact h
  have HALL := hide (And.intro hm (And.intro hW (And.intro hmv (And.intro hN (And.intro hnf (And.intro hg (And.intro hI (And.intro hVI hVA))))))))
  have HCP := hide hcp
  have HVL := hide hvl
  have HX1 := hide (And.intro hx1 h5)
  clear hm hW hmv hN hnf hg hs hI hVI hVA hA hcp hvl hNN h5 hx1 hi hz0 hz1 hz2
  refine callsIn_of_wp_marks Tryz.func24 rfl trivial ?_ rfl
  simp only [Tryz.ntmps24, List.size_toArray, List.length_cons, List.length_nil, Nat.reduceAdd, Nat.reduceSub, Array.replicate_succ, Array.replicate_zero, List.push_toArray, List.append_toArray, List.nil_append, List.cons_append]
  have hB1 : Below w.heap.size w ((w.alloc (.cells #[.slice va l.length vcap] 22)).alloc (.cells #[.slice (some ⟨b, off, none⟩) N cap] 23)) := ((Below.refl _ w).alloc (Nat.le_refl _) _).alloc (by simp) _
  have HB1 := hide hB1
  clear hB1
  gi_wp2_with (first | (refine ⟨trivial, ?_⟩; gi_at_call 41; refine (callsIn_wide.2 (mc.out _ HB1.out)).mono ?_; rintro e w1 ⟨⟨gO, cO, cs, rfl, hcO, hgO, hcs, hct⟩, hb1⟩; have c1 : w1.cell? ⟨w.heap.size + 1, 0, none⟩ = some (.slice (some ⟨b, off, none⟩) N cap) := (hb1.cell (p := ⟨w.heap.size + 1, 0, none⟩) (by simp)).trans (by rw [Lib.cell_of_heap (heap_alloc2_new w _ _)]; rfl); have z1 : w.heap.size + 2 ≤ w1.heap.size := (by have := hb1.size; simpa using this); have ca : ∀ o, (w1.alloc o).cell? ⟨w.heap.size + 1, 0, none⟩ = some (.slice (some ⟨b, off, none⟩) N cap) := (fun o => (cell_alloc_lt w1 o (by omega)).trans c1); have cb : ∀ o o2, ((w1.alloc o).alloc o2).cell? ⟨w.heap.size + 1, 0, none⟩ = some (.slice (some ⟨b, off, none⟩) N cap) := (fun o o2 => (cell_alloc_lt (w1.alloc o) o2 (by simp; omega)).trans (ca o)); have cc : ∀ o o2 o3, (((w1.alloc o).alloc o2).alloc o3).cell? ⟨w.heap.size + 1, 0, none⟩ = some (.slice (some ⟨b, off, none⟩) N cap) := (fun o o2 o3 => (cell_alloc_lt ((w1.alloc o).alloc o2) o3 (by simp; omega)).trans (cb o o2)); have HCS := hide (And.intro hcO (And.intro hgO (And.intro hcs (And.intro hct hb1)))); clear hcO hgO hcs hct hb1) | (refine ⟨trivial, ?_⟩; gi_at_call 42; refine (callsIn_wide.2 (steps_any _ ⟨_, _, _, rfl⟩ _)).mono ?_; rintro e w' ⟨rfl, rfl⟩))
  obtain ⟨M, hMM⟩ : ∃ M, M = w1.heap.size := ⟨_, rfl⟩
  obtain ⟨hcO, hgO, hcs, hct, hb1⟩ := HCS.out
  have hgO2 : w.heap.size + 2 ≤ gO := by simpa using hgO
  have hgM : gO < M := by rw [hMM]; exact (Array.getElem?_eq_some_iff.1 hcs).1
  obtain ⟨W0, hW0⟩ : ∃ W0, W0 = (((w1.alloc (.cells #[.slice (some ⟨gO, 0, none⟩) N cO] 23)).alloc (.cells (madeCells #[.int .i64 0] N) 3)).alloc (.cells #[.slice (some ⟨w1.heap.size + 1, 0, none⟩) N N] 73)).alloc (.cells #[.slice (some ⟨b, off, none⟩) N cap] 23) := ⟨_, rfl⟩
  rw [← hW0]
  have hz : W0.heap.size = M + 4 := by rw [hW0, hMM]; simp
  have hlow : ∀ k, k < M → W0.heap[k]? = w1.heap[k]? := fun k hk => by
    rw [hMM] at hk
    rw [hW0, Lib.alloc_old _ _ _ (by simp; omega), Lib.alloc_old _ _ _ (by simp; omega), Lib.alloc_old _ _ _ (by simp; omega), Lib.alloc_old _ _ _ hk]
  have hB0 : Below w.heap.size w W0 := by
    have h1 := HB1.out.trans (hb1.mono (by simp; omega))
    exact h1.trans ⟨by rw [hW0]; rfl, by rw [hW0]; rfl, by rw [hW0]; rfl, by rw [hz]; omega, fun k hk => hlow k (by omega)⟩
  have e0 : W0.heap[w.heap.size]? = some (.cells #[.slice va l.length vcap] 22) := (hlow _ (by omega)).trans ((hb1.block _ (by simp; omega)).trans ((Lib.alloc_old _ _ _ (by simp)).trans (heap_alloc_new _ _)))
  have e1 : W0.heap[w.heap.size + 1]? = some (.cells #[.slice (some ⟨b, off, none⟩) N cap] 23) := (hlow _ (by omega)).trans ((hb1.block _ (by simp)).trans (heap_alloc2_new _ _ _))
  have eg : W0.heap[gO]? = some (.cells cs 38) := (hlow _ hgM).trans hcs
  have e2 : W0.heap[M]? = some (.cells #[.slice (some ⟨gO, 0, none⟩) N cO] 23) := by
    rw [hW0, hMM, Lib.alloc_old _ _ _ (by simp; omega), Lib.alloc_old _ _ _ (by simp; omega), Lib.alloc_old _ _ _ (by simp)]
    exact heap_alloc_new _ _
  have e3 : W0.heap[M + 1]? = some (.cells (madeCells #[.int .i64 0] N) 3) := by
    rw [hW0, hMM, Lib.alloc_old _ _ _ (by simp), Lib.alloc_old _ _ _ (by simp)]
    exact heap_alloc2_new _ _ _
  have e4 : W0.heap[M + 2]? = some (.cells #[.slice (some ⟨M + 1, 0, none⟩) N N] 73) := by
    rw [hW0, hMM, Lib.alloc_old _ _ _ (by simp)]
    have := heap_alloc_new ((w1.alloc (.cells #[.slice (some ⟨gO, 0, none⟩) N cO] 23)).alloc (.cells (madeCells #[.int .i64 0] N) 3)) (.cells #[.slice (some ⟨w1.heap.size + 1, 0, none⟩) N N] 73)
    rwa [World.size_alloc, World.size_alloc] at this
  have e5 : W0.heap[M + 3]? = some (.cells #[.slice (some ⟨b, off, none⟩) N cap] 23) := by
    rw [hW0, hMM]
    have := heap_alloc_new (((w1.alloc (.cells #[.slice (some ⟨gO, 0, none⟩) N cO] 23)).alloc (.cells (madeCells #[.int .i64 0] N) 3)).alloc (.cells #[.slice (some ⟨w1.heap.size + 1, 0, none⟩) N N] 73)) (.cells #[.slice (some ⟨b, off, none⟩) N cap] 23)
    rwa [World.size_alloc, World.size_alloc, World.size_alloc] at this
  have c5 : W0.cell? ⟨M + 3, 0, none⟩ = some (.slice (some ⟨b, off, none⟩) N cap) := by rw [Lib.cell_of_heap e5]; rfl
  obtain ⟨hm, hW, hmv, hN, hnf, hg, hI, hVI, hVA⟩ := HALL.out
  have htm : madeCells #[.int .i64 0] N = (tyC (List.replicate N 0)).toArray := by
    apply Array.toList_inj.1
    refine List.ext_getElem (by simp [madeCells, tyC]) fun i h1 h2 => ?_
    simp [madeCells, tyC, Nat.mod_one]
  have hRow : RsM N gO (M + 1) x (List.replicate N 0) (cs.toList.drop (N * 5)) W0 := ⟨⟨cs, eg, by rw [← hct, List.take_append_drop]⟩, by rw [← htm]; exact e3, HNN.out.symm, by simp⟩
  have hBox : RsB w (.slice va l.length vcap) (.slice (some ⟨b, off, none⟩) N cap) gO M N cO W0 := ⟨e0, e1, e2, e4, hB0⟩
  generalize cs.toList.drop (N * 5) = rest at *
  have HSP := hide (And.intro hm (And.intro hW (And.intro hmv (And.intro hN (And.intro hnf (And.intro hg (And.intro hI (And.intro hVI hVA))))))))
  have N1 : 1 ≤ N := by rw [HNN.out]; exact HX1.out.1
  have hN5 : x.length ≤ 500 := HX1.out.2
  rw [← hMM]
  clear hcs hct hb1 hgO HCS ca cb cc c1 z1 e0 e1 e2 e3 e4 e5 eg hlow htm HALL HB1 hmk mc hMM hW0
  refine wpIn_rangeFunc_O (α := Stp) rfl (by omega) (gf := 82) (lb := #[.pointer (some ⟨M + 1 + 1 + 1, 0, none⟩)]) rfl trivial (enters_of Tryz.func82 (by kernel_rfl) rfl)
    (by
      have hq := steps_seq (M + 3) b off cap (some ⟨b, off, none⟩) x 3 W0 hN5 hW (fun _ => ⟨by omega, rfl⟩) (by omega) (by rw [← HNN.out]; exact c5) (fun i p hp => by
        obtain ⟨h1, h2, h3, h4, h5⟩ := hI i p hp
        exact ⟨(hB0.cell (p := ⟨b, _, none⟩) hbw).trans h1, (hB0.cell (p := ⟨b, _, none⟩) hbw).trans h2, (hB0.cell (p := ⟨b, _, none⟩) hbw).trans h3, (hB0.cell (p := ⟨b, _, none⟩) hbw).trans h4, (hB0.cell (p := ⟨b, _, none⟩) hbw).trans h5⟩)
      exact hq)
    ?kb StpG.own (fun _ => rfl) (RsI w (.slice va l.length vcap) (.slice (some ⟨b, off, none⟩) N cap) (l.map vrV) x gO M cO rest) (by rw [hz]; exact RsI.chg hgO2 hgM) ?start
    (fun s => { tmps := #[.slice va l.length vcap, .slice (some ⟨b, off, none⟩) N cap, .int .i64 t, .pointer (some ⟨w.heap.size, 0, none⟩), .pointer (some ⟨w.heap.size + 1, 0, none⟩), undef, .slice none 0 0, .pointer (some ⟨M, 0, none⟩), .pointer (some ⟨M + 1 + 1, 0, none⟩), .int .i64 (s.i : Int), s.v, undef, undef, undef, undef, undef, undef, .slice (some ⟨b, off, none⟩) N cap, .slice (some ⟨gO, 0, none⟩) N cO, .slice (some ⟨b, off, none⟩) N cap, .int .i64 (N : Int), .slice (some ⟨M + 1, 0, none⟩) N N, .slice (some ⟨b, off, none⟩) N cap, .func (.func 82) #[] #[.pointer (some ⟨M + 1 + 1 + 1, 0, none⟩)], .int .i64 (s.i : Int), s.v, undef, undef, undef, undef, undef, undef, undef, undef, undef, undef, undef, undef, undef, undef, undef, undef, undef, undef, undef, undef, undef, undef, undef, undef, undef, undef, undef, undef, undef, undef, undef, undef, undef, undef, undef, undef, undef, undef, undef, undef, undef, undef, undef, undef, undef, undef, undef, undef, undef, undef, undef, undef, undef, undef, undef, undef, undef, undef, undef, undef, undef, undef, undef, undef, undef, undef, undef, undef, undef], defers := [] })
    ?assign ?body ?done
  case kb =>
    intro k hk
    simp at hk
    omega
  case start => exact ⟨⟨[], x, List.replicate N 0, rs_zero _ _, (outK_zero _).symm, fun i v s h => (by cases h), by rw [← HNN.out]; exact hRow⟩, by rw [← HNN.out]; exact hBox, fun k h => (by cases h), by omega, fun k h => (by cases h)⟩
  case assign =>
    intro l s W K hK
    simp only [stpE]
    gi_wp2
    exact hK
  case body =>
    rintro lr pre O s W hF hG
    obtain ⟨st, o, tys, h1, h2, h3, hMr⟩ := hF.ex
    rw [← HNN.out] at hMr
    obtain ⟨g1, g2, g3, g4⟩ := hG
    obtain ⟨si, sv, sp⟩ := s
    dsimp only at g1 g2 g3 g4
    rw [List.length_map, ← HNN.out] at g2
    obtain ⟨y, hy⟩ : ∃ y, x[si]? = some y := ⟨_, List.getElem?_eq_getElem (by rw [← HNN.out]; exact g2)⟩
    have hyp : (x.map ptV)[si]? = some (ptV y) := by rw [List.getElem?_map, hy]; rfl
    obtain ⟨q0, q1, q2, q3, q4⟩ := hI si y hy
    rw [← g1] at h1 h2 h3
    obtain ⟨v', hv', hS'⟩ := rs_next (may_vOk hmv) hm hN h1 hyp
    obtain ⟨on, hon⟩ : ∃ on, on = st.drop (st.length - takes (ptV y)) := ⟨_, rfl⟩
    have hsp : sp = (spAt (x.map ptV) si).drop ((spAt (x.map ptV) si).length - takes (ptV y)) := by rw [g3, onAt_eq hyp]
    have hl := h1.lay.len
    have hlon : on.length = sp.length := by rw [hon, hsp, List.length_drop, List.length_drop, hl]
    have htk : sp.length = takes (ptV y) := by rw [g3, onAt_length hW hyp]
    obtain ⟨tk, htk2⟩ : ∃ tk, tk = sp.length := ⟨_, rfl⟩
    have htk3 : tk ≤ 2 := by rw [htk2, htk]; exact takes_le (ptV y)
    obtain ⟨ofs, hofs⟩ : ∃ ofs, ofs = on.map (·.k.typ) := ⟨_, rfl⟩
    have hol : ofs.length = tk := by rw [hofs, List.length_map, hlon, htk2]
    have hspan : ∀ (j : Nat) (a : Sp), sp[j]? = some a → ∃ u, on[j]? = some u ∧ tys[a.2]? = some u.k.typ ∧ ofs[j]? = some u.k.typ ∧ a.1 ≤ a.2 + 1 ∧ a.2 < si := fun j a ha => by
      have hj := (List.getElem?_eq_some_iff.1 ha).1
      obtain ⟨u, hu⟩ : ∃ u, on[j]? = some u := ⟨_, List.getElem?_eq_getElem (by omega)⟩
      refine ⟨u, hu, ?_, by rw [hofs, List.getElem?_map, hu]; rfl, ?_⟩
      · rw [hon, List.getElem?_drop] at hu
        rw [hsp, List.getElem?_drop, ← hl] at ha
        exact h3 _ _ a hu ha
      · rw [hsp, List.getElem?_drop] at ha
        exact lay_lt h1.lay _ a ha
    obtain ⟨sa, sb, so, sc, hsv, hSA, hSI⟩ := g4
    rw [← htk2] at hsv hSA
    subst hsv
    have hBW := hF.box.below
    have hrm := hF.room
    have hlt := hF.lt
    have hfar := hF.far
    have hbt := hF.box.bt
    have hbx := hF.box.bx
    have hbv := hF.box.bv
    have hbo := hF.box.bo
    rw [← HNN.out] at hbt hbo
    have KC : Hid (∀ W', KeepX [gO, M + 1] W W' → W'.cell? ⟨w.heap.size, 0, none⟩ = some (.slice va l.length vcap) ∧ W'.cell? ⟨w.heap.size + 1, 0, none⟩ = some (.slice (some ⟨b, off, none⟩) N cap) ∧ W'.cell? ⟨M + 1 + 1, 0, none⟩ = some (.slice (some ⟨M + 1, 0, none⟩) N N) ∧ W'.cell? ⟨M, 0, none⟩ = some (.slice (some ⟨gO, 0, none⟩) N cO) ∧
        W'.cell? ⟨b, off + si * 5, none⟩ = some (.int .i64 y.k) ∧ W'.cell? ⟨b, off + si * 5 + 1, none⟩ = some (.int .i64 y.n) ∧ W'.cell? ⟨b, off + si * 5 + 2, none⟩ = some (.int .i64 y.t) ∧ W'.cell? ⟨b, off + si * 5 + 3, none⟩ = some (.string y.s) ∧ W'.cell? ⟨b, off + si * 5 + 4, none⟩ = some (.string y.f)) := fun W' hk => by
      have hcell : ∀ k j, k < W.heap.size → k ≠ gO → k ≠ M + 1 → W'.cell? ⟨k, j, none⟩ = W.cell? ⟨k, j, none⟩ := fun k j h0 h1 h2 => hk.cell h0 (by simp; omega)
      refine ⟨(hcell _ _ (by omega) (by omega) (by omega)).trans (by rw [Lib.cell_of_heap hbv]; rfl), (hcell _ _ (by omega) (by omega) (by omega)).trans (by rw [Lib.cell_of_heap hbx]; rfl), (hcell _ _ (by omega) (by omega) (by omega)).trans (by rw [Lib.cell_of_heap hbt]; rfl), (hcell _ _ (by omega) (by omega) (by omega)).trans (by rw [Lib.cell_of_heap hbo]; rfl), ?_, ?_, ?_, ?_, ?_⟩
      · exact (hcell _ _ (by omega) (by omega) (by omega)).trans ((hBW.cell (p := ⟨b, _, none⟩) hbw).trans q0)
      · exact (hcell _ _ (by omega) (by omega) (by omega)).trans ((hBW.cell (p := ⟨b, _, none⟩) hbw).trans q1)
      · exact (hcell _ _ (by omega) (by omega) (by omega)).trans ((hBW.cell (p := ⟨b, _, none⟩) hbw).trans q2)
      · exact (hcell _ _ (by omega) (by omega) (by omega)).trans ((hBW.cell (p := ⟨b, _, none⟩) hbw).trans q3)
      · exact (hcell _ _ (by omega) (by omega) (by omega)).trans ((hBW.cell (p := ⟨b, _, none⟩) hbw).trans q4)
    have SC : Hid (∀ W', KeepX [gO, M + 1] W W' → ∀ (j : Nat) (a : Sp), sp[j]? = some a → W'.cell? ⟨sb, so + j * 2, none⟩ = some (.int .i64 (a.1 : Int)) ∧ W'.cell? ⟨sb, so + j * 2 + 1, none⟩ = some (.int .i64 (a.2 : Int))) := fun W' hk j a ha => by
      have hj := (List.getElem?_eq_some_iff.1 ha).1
      obtain ⟨hO, hsb, _⟩ := hSA (by omega)
      have hf := hfar sb hO
      obtain ⟨s1, s2⟩ := hSI j a ha
      exact ⟨(hk.cell hsb (by simp; omega)).trans s1, (hk.cell hsb (by simp; omega)).trans s2⟩
    have HSA := hide hSA
    have HTY : Hid (∀ W', Below W.heap.size W W' → ∀ i t, tys[i]? = some t → W'.cell? ⟨M + 1, i, none⟩ = some (.int .i64 t)) := fun W' hk i t ht => by
      refine (hk.cell (p := ⟨M + 1, i, none⟩) (by show M + 1 < _; omega)).trans ?_
      rw [Lib.cell_of_heap hMr.typ, List.getElem?_toArray, tyC_get, ht]; rfl
    have HSPN := hide hspan
    have H1 := hide h1
    have H2 := hide h2
    have H3 := hide h3
    have HF := hide hF
    have HMr := hide hMr
    have HV' := hide hv'
    have HS' := hide hS'
    have HON := hide (And.intro hon (And.intro hsp (And.intro hlon (And.intro hofs (And.intro hol htk2)))))
    have HYP := hide (And.intro hyp (And.intro hy g1))
    have HBW := hide hBW
    have f1 : (tk : Int) ≤ 2 := by omega
    have f0 : (0 : Int) ≤ (tk : Int) := by omega
    have j1 : (si : Int) < (N : Int) := by omega
    have j0 : (0 : Int) ≤ (si : Int) := by omega
    obtain ⟨i0, hi, hz0, hz1, hz2⟩ := info_parts in73
    clear h1 h2 h3 hF hMr hv' hS' hon hsp hlon htk hofs hol htk2 hspan hSI hSA hbt hbx hbv hbo hyp hy g1 g3 hl q0 q1 q2 q3 q4 hBW hm hW hmv hN hnf hg hI hVI hVA hRow hBox hB0 c5 hlt hfar
    gi_wp2
    gi_loopw [11, 13, 28] (fun ofv _ iv wr => ∃ (j : Nat) (fv : Value), j ≤ tk ∧ iv = .int .i64 (j : Int) ∧ fv = ofv ∧ Hid (wr.ownsRow W.heap.size 3 1 fv j (tyC (ofs.take j)) ∧ Below W.heap.size W wr)) (fun _ _ iv _ => tk - (intOf iv).toNat)
    case atStart => exact ⟨0, .slice none 0 0, by omega, rfl, rfl, World.ownsRow_nil _ _ _ _, Below.refl _ _⟩
    case round =>
      obtain ⟨j, fv, hj, rfl, rfl, hh⟩ := hrel
      have HO := hide hh.out.1
      have HB := hide hh.out.2
      clear hh
      have hsz := HB.out.size
      by_cases hjt : j < tk
      · have i1 : (j : Int) < (tk : Int) := by omega
        have i2 : (0 : Int) ≤ (j : Int) := by omega
        obtain ⟨aS, has⟩ : ∃ a, sp[j]? = some a := ⟨_, List.getElem?_eq_getElem (by have := HON.out.2.2.2.2.2; omega)⟩
        obtain ⟨u, hu, hty, hof, ha1, ha2⟩ := HSPN.out j aS has
        have hk := KeepX.of_below (O := [gO, M + 1]) HB.out
        obtain ⟨d0, d1⟩ := SC.out wr hk j aS has
        obtain ⟨_, hsb, hsa⟩ := HSA.out (by omega)
        subst hsa
        have HKC : Hid (∀ W', Below W.heap.size W W' → W'.cell? ⟨M + 1 + 1, 0, none⟩ = some (.slice (some ⟨M + 1, 0, none⟩) N N) ∧ W'.cell? ⟨M + 1, aS.2, none⟩ = some (.int .i64 u.k.typ)) := fun W' h => ⟨(KC.out W' (KeepX.of_below h)).2.2.1, HTY.out W' h _ _ hty⟩
        have d2 : ∀ q, (wr.alloc q).cell? ⟨M + 1 + 1, 0, none⟩ = some (.slice (some ⟨M + 1, 0, none⟩) N N) := fun q => (HKC.out _ (HB.out.alloc hsz q)).1
        have d3 : ∀ q, (wr.alloc q).cell? ⟨M + 1, aS.2, none⟩ = some (.int .i64 u.k.typ) := fun q => (HKC.out _ (HB.out.alloc hsz q)).2
        have i3 : (aS.2 : Int) < (N : Int) := by omega
        have i4 : (0 : Int) ≤ (aS.2 : Int) := by omega
        have HOF : Hid (tyC (ofs.take (j + 1)) = tyC (ofs.take j) ++ [.int .i64 u.k.typ]) := by
          show _ = _
          rw [List.take_add_one, hof]
          unfold tyC
          rw [List.map_append]; rfl
        obtain ⟨oa, oc, hfv, hoc⟩ := own_form3 HO.out
        subst hfv
        obtain ⟨a1, a2⟩ := aS
        dsimp only at d0 d1 d3 i3 i4
        generalize u.k.typ = ut at *
        clear has hu hty hof ha1 ha2 hk HKC
        gi_wp2_with (gi_at_builtin; refine wpListIn_append_own _ (by rfl) _ _ _ (by rfl) W.heap.size 3 i0 _ 1 8 Tryz.underlying73 hi hz0 hz1 hz2 rfl (by omega) _ j _ (by rfl) ((HO.out.alloc _).alloc _) ⟨wr.heap.size + 1, 0, none⟩ 1 1 [.int .i64 ut] (by rfl) (by rfl) (one_news (by exact heap_alloc2_new wr _ _)) (by simp [Value.oneCell']) (by unfold maxLen; omega) (by omega) (by simp; omega) ?_; intro v3 w3 hown3 hgr3 _)
        refine ⟨⟨j + 1, v3, by omega, by rw [Int.natCast_add]; rfl, rfl, by rw [HOF.out]; exact hown3, ((HB.out.alloc hsz _).alloc (by simp; omega) _).grown hgr3 (by simp; omega) (fun k hk => (HO.out.lt k hk).1)⟩, by simp [intOf]; omega⟩
      · have i5 : ¬ (j : Int) < (tk : Int) := by omega
        obtain rfl : j = tk := by omega
        have hoft : ofs.take j = ofs := List.take_of_length_le (by rw [HON.out.2.2.2.2.1]; exact Nat.le_refl _)
        rw [hoft] at HO
        obtain ⟨oa, oc, hfv, hoc⟩ := own_form3 HO.out
        subst hfv
        have hkd := KeepX.of_below (O := [gO, M + 1]) HB.out.drew
        obtain ⟨k1, k2, k3, k4, k5, k6, k7, k8, k9⟩ := KC.out wr.drew hkd
        have C12 : Calls Tryz.prog 43 #[.slice va l.length vcap, .agg #[.int .i64 y.k, .int .i64 y.n, .int .i64 y.t, .string y.s, .string y.f], .slice oa j oc] wr.drew fun e W1 => e = .returned (.int .i64 v'.k.typ) ∧ Below wr.drew.heap.size wr.drew W1 := by
          obtain ⟨hm, hW, hmv, hN, hnf, hg, hI, hVI, hVA⟩ := HSP.out
          have hbw2 := HBW.out.trans (HB.out.drew.mono HBW.out.size)
          exact made12 HV.out HVL.out HCP.out hg hbw2 (base := W.heap.size) (ofs := ofs) (by rw [HON.out.2.2.2.2.1]; exact HO.out.drew) hmv hm hW hnf H1.out HYP.out.1 HON.out.1 HON.out.2.2.2.1 HV'.out
        have HC12 := hide C12
        have HTY2 : Hid (wr.drew.heap[M + 1]? = some (.cells (tyC tys).toArray 3)) := (HB.out.drew.block (M + 1) (by omega)).trans HMr.out.typ
        have HOd := hide HO.out.drew
        clear C12 hkd hoft
        gi_wp2
        refine region_round (S := fun W' => W'.cell? ⟨w.heap.size, 0, none⟩ = some (.slice va l.length vcap) ∧ W'.cell? ⟨w.heap.size + 1, 0, none⟩ = some (.slice (some ⟨b, off, none⟩) N cap) ∧ W'.cell? ⟨M + 1 + 1, 0, none⟩ = some (.slice (some ⟨M + 1, 0, none⟩) N N) ∧ W'.cell? ⟨b, off + si * 5, none⟩ = some (.int .i64 y.k) ∧ W'.cell? ⟨b, off + si * 5 + 1, none⟩ = some (.int .i64 y.n) ∧ W'.cell? ⟨b, off + si * 5 + 2, none⟩ = some (.int .i64 y.t) ∧ W'.cell? ⟨b, off + si * 5 + 3, none⟩ = some (.string y.s) ∧ W'.cell? ⟨b, off + si * 5 + 4, none⟩ = some (.string y.f)) (by kernel_rfl) (noDefer_spec (by kernel_rfl)) (by rintro ⟨_, _, h⟩; exact h) ⟨k1, k2, k3, k5, k6, k7, k8, k9⟩ (fun hHeld => ?_)
        refine tkH 0 (.slice (some ⟨M + 1, 0, none⟩) N N) hHeld ?_
        refine tkH 1 (.int .i64 (si : Int)) hHeld ?_
        refine tkH 2 (.slice va l.length vcap) hHeld ?_
        refine tkH 3 (.slice (some ⟨b, off, none⟩) N cap) hHeld ?_
        refine tkH 4 (.int .i64 (si : Int)) hHeld ?_
        refine tkH 5 (.pointer (some ⟨b, off + si * 5, none⟩)) hHeld ?_
        refine tkH 6 (.agg #[.int .i64 y.k, .int .i64 y.n, .int .i64 y.t, .string y.s, .string y.f]) hHeld ?_
        refine tkH 7 (.slice oa j oc) hHeld ?_
        try simp only [Act.put, List.setIfInBounds_toArray, List.set_cons_zero, List.set_cons_succ]
        refine rdH 8 (fun K hK => ?_)
        go_simp
        refine HC12.out.mono ?_
        rintro e W1 ⟨rfl, hb1⟩
        have hkd1 : KeepX [gO, M + 1] W W1 := KeepX.of_below (HB.out.drew.trans (hb1.mono HB.out.drew.size))
        obtain ⟨m1, m2, m3, m4, m5, m6, m7, m8, m9⟩ := KC.out W1 hkd1
        refine hK.out _ _ ⟨m1, m2, m3, m5, m6, m7, m8, m9⟩ (fun hHeld => ?_)
        clear hK K
        try simp only [Act.put, List.setIfInBounds_toArray, List.set_cons_zero, List.set_cons_succ]
        refine tkH 9 (.pointer (some ⟨M + 1, si, none⟩)) hHeld ?_
        try simp only [Act.put, List.setIfInBounds_toArray, List.set_cons_zero, List.set_cons_succ]
        have hty1 : W1.heap[M + 1]? = some (.cells (tyC tys).toArray 3) := (hb1.block (M + 1) (by show M + 1 < wr.heap.size; omega)).trans HTY2.out
        have hts : ∃ z, W1.cell? ⟨M + 1, si, none⟩ = some z := by
          refine ⟨_, by rw [Lib.cell_of_heap hty1, List.getElem?_toArray, List.getElem?_eq_getElem (by rw [tyC_length, HMr.out.tl]; exact g2)]⟩
        obtain ⟨z1, hz1'⟩ := hts
        have hfz := Lib.frozen_of_heap hty1
        refine rdH 10 (fun K hK => ?_)
        go_simp
        have w1lt : M + 1 < W1.heap.size := (Array.getElem?_eq_some_iff.1 hty1).1
        have so : ∀ (k q : Nat), k ≠ M + 1 → (W1.setCell ⟨M + 1, si, none⟩ (.int .i64 v'.k.typ)).cell? ⟨k, q, none⟩ = W1.cell? ⟨k, q, none⟩ := fun k q hk => World.cell?_setCell_other _ _ _ _ (fun h => by injection h with h; omega)
        refine hK.out _ _ ⟨(so _ _ (by omega)).trans m1, (so _ _ (by omega)).trans m2, (so _ _ (by omega)).trans m3, (so _ _ (by omega)).trans m5, (so _ _ (by omega)).trans m6, (so _ _ (by omega)).trans m7, (so _ _ (by omega)).trans m8, (so _ _ (by omega)).trans m9⟩ (fun hHeld => ?_)
        clear hK K hHeld so
        try simp only [Act.put, List.setIfInBounds_toArray, List.set_cons_zero, List.set_cons_succ]
        refine wpAnyH_done (by kernel_rfl) ?_ _
        have HK2 : Hid (KeepX [gO, M + 1] W (W1.setCell ⟨M + 1, si, none⟩ (.int .i64 v'.k.typ))) := hkd1.setCell (.inl (by simp)) _
        have HTY3 : Hid ((W1.setCell ⟨M + 1, si, none⟩ (.int .i64 v'.k.typ)).heap[M + 1]? = some (.cells (tyC (tys.set si v'.k.typ)).toArray 3)) := by
          show _ = _
          rw [heap_setCell_same W1 (M + 1) si _ 3 _ hty1, ← tyC_set]
          simp
        have hOb := HOd.out.lt
        have HO3 : Hid ((W1.setCell ⟨M + 1, si, none⟩ (.int .i64 v'.k.typ)).ownsRow W.heap.size 3 1 (.slice oa j oc) j (tyC ofs)) := by
          refine own_block (own_on HOd.out hb1) (fun g hg => Below.heap_setCell W1 ⟨M + 1, si, none⟩ _ g (fun e => ?_))
          have := (hOb g hg).1
          have e' : g = M + 1 := e
          omega
        have HOUT : Hid ((W1.setCell ⟨M + 1, si, none⟩ (.int .i64 v'.k.typ)).heap[gO]? = W.heap[gO]?) := by
          show _ = _
          rw [Below.heap_setCell W1 ⟨M + 1, si, none⟩ _ gO (fun e => by have e' : gO = M + 1 := e; omega)]
          exact (hb1.block gO (by show gO < wr.heap.size; omega)).trans (HB.out.block gO (by omega))
        clear hOb hty1 hz1' hfz hb1 hkd1 m1 m2 m3 m4 m5 m6 m7 m8 m9 w1lt HC12 HTY2 HOd k1 k2 k3 k4 k5 k6 k7 k8 k9
        generalize W1.setCell ⟨M + 1, si, none⟩ (.int .i64 v'.k.typ) = W2 at *
        gi_wp2
        obtain ⟨cs0, hcs1, hcs2⟩ := HMr.out.out
        have HM2 : Hid (RsM N gO (M + 1) o (tys.set si v'.k.typ) rest W2) := ⟨⟨cs0, HOUT.out.trans hcs1, hcs2⟩, HTY3.out, HMr.out.ol, by rw [List.length_set]; exact HMr.out.tl⟩
        have HOJ0 : Hid (o.map ptV = oJ st (x.map ptV) si (ptV y) v'.k.typ 0) := by show _ = _; rw [oJ_zero]; exact H2.out
        have z2 : W.heap.size ≤ W2.heap.size := HK2.out.size
        clear hcs1 hcs2 HOUT HTY3 HB HO HTY
        gi_loopw [14, 15, 16, 53] (fun _ _ _ iv wx => ∃ (i : Nat) (o' : List Pv), i ≤ j ∧ iv = .int .i64 (i : Int) ∧ Hid (o'.map ptV = oJ st (x.map ptV) si (ptV y) v'.k.typ i ∧ RsM N gO (M + 1) o' (tys.set si v'.k.typ) rest wx ∧ KeepX [gO] W2 wx)) (fun _ _ _ iv _ => j - (intOf iv).toNat)
        case atStart => exact ⟨0, o, by omega, rfl, HOJ0.out, HM2.out, KeepX.refl _ _⟩
        case round =>
          obtain ⟨i, o', hij, rfl, hh⟩ := hrel
          have HOJ := hide hh.out.1
          have HRM := hide hh.out.2.1
          have HKX := hide hh.out.2.2
          clear hh
          have HKW : Hid (KeepX [gO, M + 1] W wr) := HK2.out.trans (keepX_sub HKX.out (fun k hk => by simp at hk ⊢; exact .inl hk))
          by_cases hlt : i < j
          · have i1 : (i : Int) < (j : Int) := by omega
            have i2 : (0 : Int) ≤ (i : Int) := by omega
            obtain ⟨aS, haS⟩ : ∃ a, sp[i]? = some a := ⟨_, List.getElem?_eq_getElem (by have := HON.out.2.2.2.2.2; omega)⟩
            obtain ⟨u, hu, hty, hof, ha1, ha2⟩ := HSPN.out i aS haS
            obtain ⟨d0, d1⟩ := SC.out wr HKW.out i aS haS
            obtain ⟨_, hsb, hsa⟩ := HSA.out (by omega)
            subst hsa
            obtain ⟨A, B, hA1, hA2, hA3, hA4⟩ := oJ_at (made := v'.k.typ) H1.out (by rw [← HON.out.1]; exact hu) (by rw [← HON.out.2.1]; exact haS)
            rw [← HON.out.1, ← HON.out.2.2.2.1] at hA2
            have hne : 1 ≤ u.ps.length := H1.out.ne u (List.mem_of_mem_drop (by rw [← HON.out.1]; exact List.mem_of_getElem? hu))
            have e7 := HOJ.out
            rw [hA1] at e7
            obtain ⟨oA, oM, oB, hoo, hoA, hoM, hoB⟩ := map_split e7
            have lA : oA.length = aS.1 := by rw [← hA3, ← hoA, List.length_map]
            have lM : oM.length = aS.2 + 1 - aS.1 := by
              have : oM.length = u.ps.length := by rw [← hoM, List.length_map]
              omega
            obtain ⟨oca, hoa2⟩ : ∃ g, oa = some ⟨g, 0, none⟩ := by
              rcases HO3.out.2 with ⟨h, _⟩ | ⟨g, _, _, h, _⟩
              · injection h with e1 e2; omega
              · injection h with e1; exact ⟨g, e1⟩
            subst hoa2
            have hog := HO3.out.lt oca rfl
            have d4 : wr.cell? ⟨oca, i, none⟩ = some (.int .i64 u.k.typ) := by
              rw [HKX.out.cell hog.2 (by simp; omega), HO3.out.cellAt i (by omega), tyC_get, hof]; rfl
            have d5 : ∀ q, (wr.alloc q).cell? ⟨oca, i, none⟩ = some (.int .i64 u.k.typ) := fun q => (cell_alloc_lt wr q (Nat.lt_of_lt_of_le hog.2 HKX.out.size)).trans d4
            have hbo2 := (KC.out wr HKW.out).2.2.2.1
            have d6 : ∀ q, (wr.alloc q).cell? ⟨M, 0, none⟩ = some (.slice (some ⟨gO, 0, none⟩) N cO) := fun q => (cell_alloc_lt wr q (by have := HKW.out.size; omega)).trans hbo2
            have hLO : o'.length = N := HRM.out.ol
            have hL3 : aS.2 + 1 ≤ N := by omega
            have i3 : (aS.1 : Int) ≤ (aS.2 : Int) := by omega
            have i4 : (aS.2 : Int) + 1 ≤ (N : Int) := by omega
            have i7 : (N : Int) ≤ (cO : Int) := by omega
            have cut : ∀ Wx, (Instr.slice 23 (.slice (some ⟨gO, 0, none⟩) N cO) (some (.int .i64 (aS.1 : Int))) (some (.int .i64 ((aS.2 : Int) + 1))) none).run Tryz.prog Wx = .ok (.slice (some ⟨gO, aS.1 * 5, none⟩) (aS.2 + 1 - aS.1) (cO - aS.1)) Wx := fun Wx => cut_parts gO N cO aS.1 (aS.2 + 1) (by omega) hL3 hcO Wx
            have HAS := hide (And.intro haS (And.intro hu (And.intro hA2 (And.intro hoo (And.intro hoA (And.intro hoM (And.intro hoB (And.intro lA (And.intro lM hne)))))))))
            obtain ⟨a1, a2⟩ := aS
            dsimp only at d0 d1 i3 i4 cut hL3
            clear haS hu hty hof ha1 ha2 hA1 hA2 hA3 hA4 e7 hoo hoA hoM hoB lA lM hbo2
            by_cases hu0 : u.k.typ = 0
            · rw [hu0] at d4 d5
              obtain ⟨-, -, hA2, hoo, hoA, hoM, hoB, lA, lM, hne⟩ := HAS.out
              dsimp only at lA lM
              obtain ⟨cs1, hc1, hc2⟩ := HRM.out.out
              rw [hoo, pvsC_app3, List.append_assoc, List.append_assoc] at hc2
              have hsM : ∃ z, z = Obj.cells #[.int .i64 (a1 : Int), .int .i64 (a2 : Int)] 79 := ⟨_, rfl⟩
              obtain ⟨zB, hzB⟩ := hsM
              have HS18 : Hid (∀ W', KeepX [gO] wr W' → W'.cell? ⟨w.heap.size + 1, 0, none⟩ = some (.slice (some ⟨b, off, none⟩) N cap) ∧ W'.cell? ⟨M + 1 + 1, 0, none⟩ = some (.slice (some ⟨M + 1, 0, none⟩) N N) ∧ W'.cell? ⟨M + 1, si, none⟩ = some (.int .i64 v'.k.typ) ∧ W'.cell? ⟨b, off + si * 5, none⟩ = some (.int .i64 y.k) ∧ W'.cell? ⟨b, off + si * 5 + 1, none⟩ = some (.int .i64 y.n) ∧ W'.cell? ⟨b, off + si * 5 + 2, none⟩ = some (.int .i64 y.t) ∧ W'.cell? ⟨b, off + si * 5 + 3, none⟩ = some (.string y.s) ∧ W'.cell? ⟨b, off + si * 5 + 4, none⟩ = some (.string y.f)) := fun W' hk => by
                obtain ⟨m1, m2, m3, m4, m5, m6, m7, m8, m9⟩ := KC.out W' (HKW.out.trans (keepX_sub hk (fun k hk => by simp at hk ⊢; exact .inl hk)))
                refine ⟨m2, m3, ?_, m5, m6, m7, m8, m9⟩
                have hlt1 := (Array.getElem?_eq_some_iff.1 HRM.out.typ).1
                rw [hk.cell hlt1 (by simp; omega), Lib.cell_of_heap HRM.out.typ, List.getElem?_toArray, tyC_get, List.getElem?_set, if_pos rfl, if_pos (by rw [HMr.out.tl]; exact g2)]
                rfl
              have hkA : ∀ q, KeepX [gO] wr (wr.alloc q).drew := fun q => KeepX.of_below ((Below.refl _ _).alloc (Nat.le_refl _) _).drew
              have HKA := hide hkA
              have HOC : Hid (∀ W', KeepX [gO] wr W' → W'.ownsRow W.heap.size 3 1 (.slice (some ⟨oca, 0, none⟩) j oc) j (tyC ofs)) := fun W' hk => own_block HO3.out (fun g hg => by
                have := HO3.out.lt g hg
                have hk2 := HKX.out.trans hk
                exact hk2.block g this.2 (by simp; omega))
              have C45 : Hid (∀ W', Below wr.heap.size wr W' → Calls Tryz.prog 45 #[.agg #[.int .i64 y.k, .int .i64 y.n, .int .i64 y.t, .string y.s, .string y.f], .slice (some ⟨oca, 0, none⟩) j oc, .int .i64 v'.k.typ, .slice (some ⟨gO, a1 * 5, none⟩) (a2 + 1 - a1) (cO - a1)] W' fun e W1 => e = .returned (.int .i64 (askT (ptV y) ofs v'.k.typ u.ps)) ∧ Below W'.heap.size W' W1) := fun W' hb => by
                obtain ⟨hm, hW, hmv, hN, hnf, hg, hI, hVI, hVA⟩ := HSP.out
                have hbw3 : Below w.heap.size w W' := by
                  have hk3 := HKW.out.trans (KeepX.of_below (O := [gO, M + 1]) hb)
                  exact HBW.out.trans ⟨hk3.os, hk3.tape, hk3.output, hk3.size, fun k hk => hk3.block k (by omega) (by simp; omega)⟩
                have hgO3 : gO < wr.heap.size := (Array.getElem?_eq_some_iff.1 hc1).1
                have hPL : PLst W' (.slice (some ⟨gO, a1 * 5, none⟩) (a2 + 1 - a1) (cO - a1)) oM := by
                  have := plst_mid (c := cO - a1) ((hb.block gO hgO3).trans hc1) hc2 lM
                  rwa [lA] at this
                have hil : ILst W' (.slice (some ⟨oca, 0, none⟩) j oc) ofs := ilst_own (base := W.heap.size) (by rw [HON.out.2.2.2.2.1]; exact HOC.out W' (KeepX.of_below hb))
                have := askF_any y _ _ ofs v'.k.typ oM W' hil (by rw [HON.out.2.2.2.2.1]; omega) hPL (by omega) (hg.below hbw3 hg.lt)
                rw [hoM] at this
                exact this
              have C44 : Hid (∀ W', Below wr.heap.size wr W' → ∀ tt, Calls Tryz.prog 44 #[.slice (some ⟨gO, a1 * 5, none⟩) (a2 + 1 - a1) (cO - a1), .int .i64 tt] W' fun e W1 => e = .returned (.tuple #[]) ∧ (∃ cs', W1.heap[gO]? = some (.cells cs' 38) ∧ cs'.toList = pvsC oA ++ (pvsC (oM.map (gvP tt)) ++ (pvsC oB ++ rest))) ∧ KeepX [gO] W' W1) := fun W' hb tt => by
                have hgO3 : gO < wr.heap.size := (Array.getElem?_eq_some_iff.1 hc1).1
                have hlo : oA.length + oM.length ≤ N := by
                  have := congrArg List.length hoo
                  rw [List.length_append, List.length_append] at this
                  omega
                have := give_any gO (a2 + 1 - a1) (cO - a1) tt oA oM (pvsC oB ++ rest) cs1 W' ((hb.block gO hgO3).trans hc1) hc2 lM (by omega)
                rw [lA] at this
                exact this.mono fun e W1 h => ⟨h.1, h.2.1, h.2.2.1⟩
              clear hc1 hc2 hoo hoA hoM hoB lA lM hne hA2
              gi_wp2
              rw [← hzB]
              clear hzB
              refine region_round (S := fun W' => W'.cell? ⟨w.heap.size + 1, 0, none⟩ = some (.slice (some ⟨b, off, none⟩) N cap) ∧ W'.cell? ⟨M + 1 + 1, 0, none⟩ = some (.slice (some ⟨M + 1, 0, none⟩) N N) ∧ W'.cell? ⟨M + 1, si, none⟩ = some (.int .i64 v'.k.typ) ∧ W'.cell? ⟨b, off + si * 5, none⟩ = some (.int .i64 y.k) ∧ W'.cell? ⟨b, off + si * 5 + 1, none⟩ = some (.int .i64 y.n) ∧ W'.cell? ⟨b, off + si * 5 + 2, none⟩ = some (.int .i64 y.t) ∧ W'.cell? ⟨b, off + si * 5 + 3, none⟩ = some (.string y.s) ∧ W'.cell? ⟨b, off + si * 5 + 4, none⟩ = some (.string y.f)) (by kernel_rfl) (noDefer_spec (by kernel_rfl)) (by rintro ⟨_, _, h⟩; exact h) (HS18.out _ (HKA.out zB)) (fun hHeld => ?_)
              refine tkH 0 (.slice (some ⟨gO, a1 * 5, none⟩) (a2 + 1 - a1) (cO - a1)) hHeld ?_
              refine tkH 1 (.slice (some ⟨b, off, none⟩) N cap) hHeld ?_
              refine tkH 2 (.int .i64 (si : Int)) hHeld ?_
              refine tkH 3 (.pointer (some ⟨b, off + si * 5, none⟩)) hHeld ?_
              refine tkH 4 (.agg #[.int .i64 y.k, .int .i64 y.n, .int .i64 y.t, .string y.s, .string y.f]) hHeld ?_
              refine tkH 5 (.slice (some ⟨oca, 0, none⟩) j oc) hHeld ?_
              refine tkH 6 (.slice (some ⟨M + 1, 0, none⟩) N N) hHeld ?_
              refine tkH 7 (.int .i64 (si : Int)) hHeld ?_
              refine tkH 8 (.pointer (some ⟨M + 1, si, none⟩)) hHeld ?_
              refine tkH 9 (.int .i64 v'.k.typ) hHeld ?_
              refine tkH 10 (.slice (some ⟨gO, a1 * 5, none⟩) (a2 + 1 - a1) (cO - a1)) hHeld ?_
              try simp only [Act.put, List.setIfInBounds_toArray, List.set_cons_zero, List.set_cons_succ]
              refine rdH 11 (fun K hK => ?_)
              go_simp
              have hbA : Below wr.heap.size wr (wr.alloc zB).drew := ((Below.refl _ _).alloc (Nat.le_refl _) _).drew
              refine (C45.out _ hbA).mono ?_
              rintro e W5 ⟨rfl, hb5⟩
              have hb6 := hbA.trans (hb5.mono hbA.size)
              refine hK.out _ _ (HS18.out _ (KeepX.of_below hb6)) (fun hHeld => ?_)
              clear hK K
              try simp only [Act.put, List.setIfInBounds_toArray, List.set_cons_zero, List.set_cons_succ]
              refine rdH 12 (fun K hK => ?_)
              go_simp
              refine (C44.out _ hb6 _).mono ?_
              rintro e W6 ⟨rfl, ⟨cs6, hc61, hc62⟩, hk6⟩
              have hk7 : KeepX [gO] wr W6 := (KeepX.of_below hb6).trans hk6
              refine hK.out _ _ (HS18.out _ hk7) (fun hHeld => ?_)
              clear hK K hHeld
              try simp only [Act.put, List.setIfInBounds_toArray, List.set_cons_zero, List.set_cons_succ]
              refine wpAnyH_done (by kernel_rfl) ?_ _
              have HE6 := hide (And.intro hc61 (And.intro hc62 hk7))
              clear hc61 hc62 hk6 hk7 hb5 hb6 hbA C44 C45 HOC HS18 HKA
              gi_wp2
              obtain ⟨-, -, e1, e2, e3, e4, e5, -, -, -⟩ := HAS.out
              refine ⟨⟨i + 1, oA ++ (oM.map (gvP (askT (ptV y) ofs v'.k.typ u.ps)) ++ oB), by omega, by rw [Int.natCast_add]; rfl, ?_, ⟨⟨cs6, HE6.out.1, by rw [HE6.out.2.1, pvsC_app3, List.append_assoc, List.append_assoc]⟩, ?_, ?_, HRM.out.tl⟩, HKX.out.trans HE6.out.2.2⟩, by simp [intOf]; omega⟩
              · rw [e1, List.map_append, List.map_append, gv_map, e3, e4, e5]
                unfold resV
                rw [if_pos hu0]
              · exact (HE6.out.2.2.block _ (Array.getElem?_eq_some_iff.1 HRM.out.typ).1 (by simp; omega)).trans HRM.out.typ
              · have := HRM.out.ol
                rw [e2] at this
                simpa using this
            · have hu1 : ¬ (u.k.typ = 0) := hu0
              gi_wp2
              refine ⟨⟨i + 1, o', by omega, by rw [Int.natCast_add]; rfl, ?_, HRM.out.keep ((Below.refl _ _).alloc (Nat.le_refl _) _), HKX.out.trans (KeepX.of_below ((Below.refl _ _).alloc (Nat.le_refl _) _))⟩, by simp [intOf]; omega⟩
              obtain ⟨-, -, e1, e2, e3, e4, e5, -, -, -⟩ := HAS.out
              rw [e1, e2, List.map_append, List.map_append, e3, e4, e5]
              unfold resV
              rw [if_neg hu0]
          · obtain rfl : i = j := by omega
            have i6 : ¬ (i : Int) < (i : Int) := by omega
            gi_wp2
            refine rs_close hgO2 hgM hbw HF.out HKW.out (st' := st.take (st.length - takes (ptV y)) ++ [v']) (tys' := tys.set si v'.k.typ) (o' := o') (by rw [← HYP.out.2.2]; exact HS'.out) ?_ ?_ (by rw [← HNN.out]; exact HRM.out)
            · rw [HOJ.out, ← HYP.out.2.2]
              exact oJ_end HYP.out.1 HV'.out (by rw [← HON.out.1, HON.out.2.2.1, ← HON.out.2.2.2.2.2]; exact Nat.le_refl _)
            · rw [← HYP.out.2.2]
              exact ty_next H1.out HYP.out.1 (by rw [HMr.out.tl]; exact g2) H3.out
  case done =>
    rintro D ys O W hD hS hF hK
    obtain ⟨st, o, tys, h1, h2, h3, hMr⟩ := hF.ex
    rw [← HNN.out] at hMr
    have e1 : st = [vN] := by
      have e := h1.run
      rw [hS, ← List.length_map (f := ptV), List.take_length, hN] at e
      exact (Except.ok.inj e).symm
    subst e1
    have hSN : ys.length = N := by rw [hS, ← HNN.out]
    rw [hSN] at h1 h2 h3
    have hlay := h1.lay
    have hsp : ∃ a : Sp, spAt (x.map ptV) N = [a] ∧ a.2 + 1 = N := by
      have hl := hlay.len
      match hq : spAt (x.map ptV) N with
      | [] => rw [hq] at hl; cases hl
      | [a] => rw [hq] at hlay; exact ⟨a, rfl, hlay.2.2⟩
      | _ :: _ :: _ => rw [hq] at hl; cases hl
    obtain ⟨aS, hsp, haS⟩ := hsp
    have hty : tys[N - 1]? = some vN.k.typ := by
      have := h3 0 vN aS rfl (by rw [hsp]; rfl)
      rwa [show aS.2 = N - 1 from by omega] at this
    have hop : o.map ptV = vN.ps := by
      rw [h2]
      unfold outK
      rw [List.drop_eq_nil_of_le (by rw [List.length_map, ← HNN.out]; exact Nat.le_refl _)]
      simp
    have hres : resP (l.map vrV) (x.map ptV) t = endR t vN := by unfold resP; rw [hN]
    obtain ⟨q, hq⟩ : ∃ q, N = q + 1 := ⟨N - 1, by omega⟩
    have q1 : (N : Int) - 1 = (q : Int) := by omega
    have q2 : (q : Int) < (N : Int) := by omega
    have q3 : (0 : Int) ≤ (q : Int) := by omega
    have k0 : W.cell? ⟨M + 1 + 1, 0, none⟩ = some (.slice (some ⟨M + 1, 0, none⟩) N N) := by rw [Lib.cell_of_heap hF.box.bt]; rw [← HNN.out]; rfl
    have k1 : W.cell? ⟨w.heap.size + 1, 0, none⟩ = some (.slice (some ⟨b, off, none⟩) N cap) := by rw [Lib.cell_of_heap hF.box.bx]; rfl
    have k2 : W.cell? ⟨M + 1, q, none⟩ = some (.int .i64 vN.k.typ) := by
      rw [Lib.cell_of_heap hMr.typ, List.getElem?_toArray, tyC_get, show q = N - 1 from by omega, hty]; rfl
    have k3 : W.cell? ⟨M, 0, none⟩ = some (.slice (some ⟨gO, 0, none⟩) N cO) := by rw [Lib.cell_of_heap hF.box.bo]; rw [← HNN.out]; rfl
    have hDlt : D < W.heap.size := (Array.getElem?_eq_some_iff.1 hK).1
    obtain ⟨cs', hcs1, hcs2⟩ := hMr.out
    have HF := hide hF
    have HMr := hide hMr
    have HOP := hide hop
    have HRS := hide hres
    have HCS := hide (And.intro hcs1 hcs2)
    have HBW := hide hF.box.below
    have HRM := hide hF.room
    clear h1 h2 h3 hF hMr hop hres hlay hsp haS hty hcs1 hcs2 hq hm hW hmv hN hnf hg hI hVI hVA HSP hRow hBox hB0 c5
    by_cases h0 : vN.k.typ = 0
    · rw [h0] at k2
      have mg : Calls Tryz.prog 44 #[.slice (some ⟨gO, 0, none⟩) N cO, .int .i64 t] W fun e w' => e = .returned (.tuple #[]) ∧ (∃ cs', w'.heap[gO]? = some (.cells cs' 38) ∧ cs'.toList = pvsC (o.map (gvP t)) ++ rest) ∧ KeepX [gO] W w' ∧ w'.heap.size = W.heap.size := by
        have := give_any gO N cO t [] o rest cs' W HCS.out.1 (by rw [HCS.out.2]; rfl) HMr.out.ol (by simp; omega)
        exact this
      gi_wp2_with (first | (refine ⟨trivial, ?_⟩; gi_at_call 44; refine (callsIn_wide.2 mg).mono ?_; rintro e W2 ⟨rfl, ⟨cs2, hc1, hc2⟩, hk2, hs2⟩; have HC2 := hide (And.intro hc1 hc2); have k4 : W2.cell? ⟨M, 0, none⟩ = some (.slice (some ⟨gO, 0, none⟩) N cO) := (hk2.cell (by omega) (by simp; omega)).trans k3; have HK2 := hide hk2; have HK3 : Hid (W2.heap[D]? = some (.deferred (some []))) := (hk2.block D hDlt (by simp; omega)).trans hK; clear hc1 hc2))
      refine ⟨by simp, .inl ⟨_, _, rfl, run_takeDeferred HK3.out, ?_⟩⟩
      have hDg : D ≠ gO := by omega
      refine ⟨.slice (some ⟨gO, 0, none⟩) N cO, by simp [results, Tryz.f24, go_sem], ⟨_, o.map (gvP t), rfl, ?_, plst_block (rest := rest) ((World.putObj_heap_other (fun e => hDg e.symm)).trans HC2.out.1) HC2.out.2 (by rw [List.length_map]; exact HMr.out.ol), by rw [List.length_map]; exact HMr.out.ol⟩, ?_⟩
      · rw [gv_map, HOP.out, HRS.out]
        unfold endR
        rw [if_pos h0]
      · refine (HBW.out.trans ⟨HK2.out.os, HK2.out.tape, HK2.out.output, HK2.out.size, fun k hk => HK2.out.block k (by omega) (by simp; omega)⟩).trans (belowK_b (w := w) (Nat.le_refl _) W2 D _ _ (by omega) HK3.out rfl rfl)
    · have h0' : ¬ (vN.k.typ = 0) := h0
      gi_wp2
      refine ⟨by simp, .inl ⟨_, _, rfl, run_takeDeferred hK, ?_⟩⟩
      have hDg : D ≠ gO := by omega
      refine ⟨.slice (some ⟨gO, 0, none⟩) N cO, by simp [results, Tryz.f24, go_sem], ⟨_, o, rfl, ?_, plst_block (rest := rest) ((World.putObj_heap_other (fun e => hDg e.symm)).trans HCS.out.1) HCS.out.2 HMr.out.ol, HMr.out.ol⟩, HBW.out.trans (belowK_b (w := w) (Nat.le_refl _) W D _ _ (by omega) hK rfl rfl)⟩
      rw [HOP.out, HRS.out]
      unfold endR
      rw [if_neg h0]
end Go.Proofs.YtldjiieckddhkaaGreatDoor
