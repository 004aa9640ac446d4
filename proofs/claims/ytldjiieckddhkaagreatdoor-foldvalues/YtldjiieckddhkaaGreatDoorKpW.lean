import Derived.Test.YtldjiieckddhkaaGreatDoorMg19
namespace Go.Proofs.YtldjiieckddhkaaGreatDoor
open Go.RowKit Go.Sort
theorem heap_set3 {w : World} {g t : Nat} {x y z : Value} (h : w.heap[g]? = some (.cells #[x, y, z] t)) (a b c : Value) : (((w.setCell ⟨g, 0, none⟩ a).setCell ⟨g, 1, none⟩ b).setCell ⟨g, 2, none⟩ c).heap[g]? = some (.cells #[a, b, c] t) := by
  rw [heap_setCell_same _ g 2 _ t c (heap_setCell_same _ g 1 _ t b (heap_setCell_same w g 0 _ t a h))]
  rfl
theorem three_news {w : World} {g : Nat} {a b c : Value} (h : w.heap[g]? = some (.cells #[a, b, c] 52)) : ∀ j u, ([a, b, c] : List Value)[j]? = some u → w.cell? ((⟨g, 0, none⟩ : Addr).add j) = some u := fun j u hj => by
  rw [show (⟨g, 0, none⟩ : Addr).add j = ⟨g, j, none⟩ by rw [Addr.add_mid, Nat.zero_add], Lib.cell_of_heap h]
  rw [← List.getElem?_toArray] at hj; exact hj
theorem run_ne {V : Type} {f : Pt → List V → Except Int V} : ∀ {x : List Pt} {st st' : List V}, mRun f x st = .ok st' → st ≠ [] ∨ x ≠ [] → st' ≠ []
  | [], st, st', h, hx => by
    rw [← Except.ok.inj (show Except.ok (ε := Int) st = .ok st' from h)]
    rcases hx with h | h
    · exact h
    · exact absurd rfl h
  | p :: x, st, st', h, _ => by
    have h' : (match mStep f p st with | .error e => Except.error e | .ok s1 => mRun f x s1) = .ok st' := h
    cases hs : mStep f p st with
    | error e => rw [hs] at h'; exact absurd h' (by simp)
    | ok s1 =>
      rw [hs] at h'
      refine run_ne h' (.inl ?_)
      unfold mStep at hs
      split at hs
      · exact absurd hs (by simp)
      · rw [← Except.ok.inj hs]; simp
set_option maxRecDepth 100000 in
set_option maxHeartbeats 6400000 in
theorem kindOf_any (v xv : Value) (l : List Vv) (x : List Pv) (w : World) (hL : VLst w v l) (hlen : l.length ≤ 4398046510976) (hv : vOk (l.map vrV)) (hX : PLst w xv x) (hg : Glo w) (hx5 : x.length ≤ 500) (hm : ∀ p ∈ x.map ptV, mayP p = true) (hW : Wf (x.map ptV) 0) (h1 : 1 ≤ x.length) :
    Calls Tryz.prog 57 #[v, xv] w fun e w' => (∃ k e', e = .returned (.tuple #[.agg #[.int .i64 k.typ, .int .i64 k.lo, .int .i64 k.hi], .int .i64 e']) ∧ KOut (kindP (l.map vrV) (x.map ptV)) k e') ∧ Below w.heap.size w w' := by
  have HKP : Hid (kindP (l.map vrV) (x.map ptV) = match mRun (partK (l.map vrV)) (x.map ptV) [] with
    | .error e => .error e
    | .ok st => if (st.headD (kT 0)).typ = 0 ∧ kFits (st.headD (kT 0)) 3 ≠ 0 then .error 1 else .ok (st.headD (kT 0))) := rfl
  generalize kindP (l.map vrV) (x.map ptV) = R at *
  obtain ⟨a, b, off, cap, rfl, hA, hI⟩ := hX
  have HA := hide hA
  have HI := hide hI
  have HG := hide hg
  have HM := hide hm
  have HWf := hide hW
  have HVL : Hid (∀ W, Below w.heap.size w W → VLst W v l) := fun W hW => hL.below hW (Nat.le_refl _)
  have HVO := hide (And.intro hlen hv)
  obtain ⟨va, vn, vcp, rfl⟩ : ∃ a n cp, v = .slice a n cp := by obtain ⟨a, b, off, cap, h, -⟩ := hL; exact ⟨a, _, cap, h⟩
  obtain ⟨N, hN⟩ : ∃ N, N = x.length := ⟨_, rfl⟩
  have HN := hide hN
  rw [← hN] at hx5 h1 ⊢
  have n5 : (N : Int) ≤ 500 := by omega
  have n0 : (0 : Int) ≤ (N : Int) := by omega
  obtain ⟨i0, hi, hz0, hz1, hz2⟩ := info_parts in52
  have B0 := hide ((Below.refl w.heap.size w).alloc (Nat.le_refl _) (.cells #[.int .i64 0, .int .i64 0, .int .i64 0] 52))
  clear hN hA hI hg hm hW hL hlen hv
  go_enter Tryz.func57, Tryz.ntmps57
  go_wp2_with fail
  go_loopw [6, 15] (fun dv i wr => ∃ (k : Nat) (st : List Kd) (dv' : Value), k ≤ N ∧ i = .int .i64 (k : Int) ∧ dv' = dv ∧ Hid (wr.heap[w.heap.size]? = some (.cells #[.int .i64 0, .int .i64 0, .int .i64 0] 52) ∧ wr.ownsRow (w.heap.size + 1) 52 3 dv' st.length (kdC st) ∧ st.length ≤ k ∧ mRun (partK (l.map vrV)) ((x.map ptV).take k) [] = .ok st ∧ Below w.heap.size w wr)) (fun _ i _ => N - (intOf i).toNat)
  case atStart => exact ⟨0, [], .slice none 0 0, by omega, rfl, rfl, heap_alloc_new w _, World.ownsRow_nil _ _ _ _, Nat.le_refl _, rfl, B0.out⟩
  case round =>
    clear B0
    obtain ⟨k, st, dv, hk, rfl, rfl, hh⟩ := hrel
    have HR := hide hh.out.1
    have O := hide hh.out.2.1
    have hdl := hh.out.2.2.1
    have HD := hide hh.out.2.2.2.1
    have HB := hide hh.out.2.2.2.2
    obtain ⟨da, dcap, hdv, hdc⟩ := own_form3 O.out
    subst hdv
    clear hh
    by_cases hlt : k < N
    · have j1 : (k : Int) < (N : Int) := by omega
      have j0 : (0 : Int) ≤ (k : Int) := by omega
      obtain ⟨y, hy⟩ : ∃ y, x[k]? = some y := ⟨_, List.getElem?_eq_getElem (by rw [← HN.out]; exact hlt)⟩
      have HY : Hid ((x.map ptV)[k]? = some (ptV y)) := by show _ = _; rw [List.getElem?_map, hy]; rfl
      obtain ⟨hbw, rfl⟩ := HA.out (by rw [← HN.out]; omega)
      obtain ⟨q0, q1, q2, q3, q4⟩ := HI.out k y hy
      have c0 := (HB.out.cell (p := ⟨b, off + k * 5, none⟩) hbw).trans q0
      have c1 := (HB.out.cell (p := ⟨b, off + k * 5 + 1, none⟩) hbw).trans q1
      have c2 := (HB.out.cell (p := ⟨b, off + k * 5 + 2, none⟩) hbw).trans q2
      have c3 := (HB.out.cell (p := ⟨b, off + k * 5 + 3, none⟩) hbw).trans q3
      have c4 := (HB.out.cell (p := ⟨b, off + k * 5 + 4, none⟩) hbw).trans q4
      clear q0 q1 q2 q3 q4 hy
      have zr := HB.out.size
      have zz : w.heap.size < wr.heap.size := (Array.getElem?_eq_some_iff.1 HR.out).1
      obtain ⟨W1, hW1⟩ : ∃ W1, W1 = wr.alloc (.cells #[.int .i64 y.k, .int .i64 y.n, .int .i64 y.t, .string y.s, .string y.f] 38) := ⟨_, rfl⟩
      have hb1 : Below wr.heap.size wr W1 := by rw [hW1]; exact (Below.refl wr.heap.size wr).alloc (Nat.le_refl _) _
      have hp1 : W1.heap[wr.heap.size]? = some (.cells #[.int .i64 y.k, .int .i64 y.n, .int .i64 y.t, .string y.s, .string y.f] 38) := by rw [hW1]; exact heap_alloc_new wr _
      have m1 := works102 y.k y.n y.t y.s y.f W1
      have HW1 := hide hW1
      have HP1 := hide hp1
      have HB1 := hide hb1
      clear hW1 hb1 hp1
      have htk : takes (ptV y) ≤ st.length := wf_at (st := []) HWf.out HD.out HY.out
      have HTV : Hid (takes ⟨y.k, [], [], y.n, y.t⟩ = takes (ptV y)) := rfl
      rw [HTV.out] at m1
      obtain ⟨tk, htk2⟩ : ∃ tk, tk = takes (ptV y) := ⟨_, rfl⟩
      have HTK := hide htk2
      rw [← htk2] at m1 htk
      clear htk2 HTV
      obtain ⟨L, hLL⟩ : ∃ L, L = st.length := ⟨_, rfl⟩
      have HLL := hide hLL
      have O' := hide O.out
      rw [← hLL] at hdl hdc htk ⊢
      clear hLL O
      obtain ⟨F, hF⟩ : ∃ F, F = L - tk := ⟨_, rfl⟩
      have hF2 : (L : Int) - (tk : Int) = (F : Int) := by omega
      have hFl : F ≤ L := by omega
      have HF := hide hF
      have d5 : (L : Int) ≤ 500 := by omega
      have t0 : (0 : Int) ≤ (tk : Int) := by omega
      have l0 : (0 : Int) ≤ (L : Int) := by omega
      have t5 : (tk : Int) ≤ 500 := by omega
      clear hF
      go_wp2_with fail
      rw [← HW1.out]
      refine m1.mono ?_
      rintro e w2 ⟨rfl, hb2⟩
      have HB2 := hide (HB1.out.trans (hb2.mono HB1.out.size))
      have HP2 := hide ((hb2.block _ (Array.getElem?_eq_some_iff.1 HP1.out).1).trans HP1.out)
      clear m1 hb2 HW1 HP1 HB1 c0 c1 c2 c3 c4
      have O2 := hide (own_on O'.out HB2.out)
      have HBW := hide (HB.out.trans (HB2.out.mono zr))
      have HR2 := hide ((HB2.out.block _ zz).trans HR.out)
      obtain ⟨ov, hov, hKL⟩ := kd_from O2.out F (by rw [← HLL.out]; exact hFl)
      obtain ⟨oa, on_, ocp, rfl⟩ := hKL.shape
      rw [← HLL.out] at hov
      have CP : Hid (∀ W, Below w2.heap.size w2 W → Calls Tryz.prog 103 #[.slice va vn vcp, .agg #[.int .i64 y.k, .int .i64 y.n, .int .i64 y.t, .string y.s, .string y.f], .slice oa on_ ocp] W fun e w' => (∃ k e', e = .returned (.tuple #[.agg #[.int .i64 k.typ, .int .i64 k.lo, .int .i64 k.hi], .int .i64 e']) ∧ Hid (KOut (partK (l.map vrV) (ptV y) (st.drop F)) k e')) ∧ Below w2.heap.size w2 w' ∧ Hid (Below W.heap.size W w')) := fun W hW =>
        (partKind_any _ _ l (st.drop F) y W (HVL.out W (HBW.out.trans (hW.mono HBW.out.size))) HVO.out.1 HVO.out.2 (HG.out.below (HBW.out.trans (hW.mono HBW.out.size)) HG.out.lt) (hKL.below hW (Nat.le_refl _)) (HM.out _ (List.mem_of_getElem? HY.out)) (by rw [List.length_drop, ← HLL.out, ← HTK.out, HF.out]; omega)).mono fun e w' ⟨⟨k, e', h1, h2⟩, hb⟩ => ⟨⟨k, e', h1, h2⟩, hW.trans (hb.mono hW.size), hb⟩
      have pc : ∀ j u, (#[.int .i64 y.k, .int .i64 y.n, .int .i64 y.t, .string y.s, .string y.f] : Array Value)[j]? = some u → ∀ W, Below w2.heap.size w2 W → W.cell? ⟨wr.heap.size, j, none⟩ = some u := fun j u h W hW => by
        rw [Lib.cell_of_heap ((hW.block _ (Array.getElem?_eq_some_iff.1 HP2.out).1).trans HP2.out)]; exact h
      have SS : Hid (∀ W, Below w2.heap.size w2 W → W.cell? ⟨wr.heap.size, 0, none⟩ = some (.int .i64 y.k) ∧ W.cell? ⟨wr.heap.size, 1, none⟩ = some (.int .i64 y.n) ∧ W.cell? ⟨wr.heap.size, 2, none⟩ = some (.int .i64 y.t) ∧ W.cell? ⟨wr.heap.size, 3, none⟩ = some (.string y.s) ∧ W.cell? ⟨wr.heap.size, 4, none⟩ = some (.string y.f) ∧ Below w2.heap.size w2 W) := fun W hW => ⟨pc 0 _ rfl W hW, pc 1 _ rfl W hW, pc 2 _ rfl W hW, pc 3 _ rfl W hW, pc 4 _ rfl W hW, hW⟩
      have S0 := SS.out w2.drew (Below.refl _ w2).drew
      have S1 := SS.out ((w2.alloc (.cells #[.int .i64 0, .int .i64 0, .int .i64 0] 52)).drew) ((Below.refl _ w2).alloc (Nat.le_refl _) _).drew
      have ZB : ∀ W3, Below ((w2.alloc (.cells #[.int .i64 0, .int .i64 0, .int .i64 0] 52)).drew).heap.size ((w2.alloc (.cells #[.int .i64 0, .int .i64 0, .int .i64 0] 52)).drew) W3 → Hid (W3.heap[w2.heap.size]? = some (.cells #[.int .i64 0, .int .i64 0, .int .i64 0] 52)) := fun W3 h =>
        (h.block _ (by show w2.heap.size < (w2.alloc _).heap.size; rw [World.size_alloc]; omega)).trans (heap_alloc_new w2 _)
      have ZC : ∀ W3 : World, Hid (W3.heap[w2.heap.size]? = some (.cells #[.int .i64 0, .int .i64 0, .int .i64 0] 52)) → W3.cell? ⟨w2.heap.size, 0, none⟩ = some (.int .i64 0) ∧ W3.cell? ⟨w2.heap.size, 1, none⟩ = some (.int .i64 0) ∧ W3.cell? ⟨w2.heap.size, 2, none⟩ = some (.int .i64 0) ∧ ∀ j, W3.frozen? ⟨w2.heap.size, j, none⟩ = false := fun W3 h =>
        ⟨by rw [Lib.cell_of_heap h.out]; rfl, by rw [Lib.cell_of_heap h.out]; rfl, by rw [Lib.cell_of_heap h.out]; rfl, fun j => Lib.frozen_of_heap h.out j⟩
      have HZC := hide ZC
      have HZB := hide ZB
      clear pc hKL ZC ZB
      go_wp2_with fail
      go_region_held3 (fun W => W.cell? ⟨wr.heap.size, 0, none⟩ = some (.int .i64 y.k) ∧ W.cell? ⟨wr.heap.size, 1, none⟩ = some (.int .i64 y.n) ∧ W.cell? ⟨wr.heap.size, 2, none⟩ = some (.int .i64 y.t) ∧ W.cell? ⟨wr.heap.size, 3, none⟩ = some (.string y.s) ∧ W.cell? ⟨wr.heap.size, 4, none⟩ = some (.string y.f) ∧ Below w2.heap.size w2 W) (first | assumption | (with_reducible exact S0) | (with_reducible exact S1) | (with_reducible exact K1 _) | (with_reducible exact K2 _ _ _))
        (first | (go_at_call 103; refine (CP.out _ ?_).mono ?_; (first | (with_reducible exact S0.2.2.2.2.2) | (with_reducible exact S1.2.2.2.2.2)); rintro e W3 ⟨⟨kk, e', rfl, HO⟩, hb3, HB4⟩; (first | (have HZ3 := HZB.out _ (by with_reducible exact HB4.out); obtain ⟨zq0, zq1, zq2, zq3⟩ := HZC.out _ HZ3) | skip); have S3 := SS.out W3 hb3; have K1 := fun o => SS.out (W3.alloc o) (hb3.alloc hb3.size o); have K2 := fun a b c : Value => SS.out (((W3.setCell ⟨w2.heap.size, 0, none⟩ a).setCell ⟨w2.heap.size, 1, none⟩ b).setCell ⟨w2.heap.size, 2, none⟩ c) (set3 hb3 (Nat.le_refl _) a b c)))
      · have hgx := heap_alloc_new W3 (.cells #[.int .i64 kk.typ, .int .i64 kk.lo, .int .i64 kk.hi] 52)
        have hbx := hb3.alloc hb3.size (.cells #[.int .i64 kk.typ, .int .i64 kk.lo, .int .i64 kk.hi] 52)
        have hgl : w2.heap.size ≤ W3.heap.size := hb3.size
        generalize W3.alloc (.cells #[.int .i64 kk.typ, .int .i64 kk.lo, .int .i64 kk.hi] 52) = X at *
        generalize W3.heap.size = g at *
        clear K1 K2 S3 HB4 hb3 S0 S1 SS CP HZB HZC hov
        have O3 := hide (own_on O2.out hbx)
        have HBX := hide (HBW.out.trans (hbx.mono HBW.out.size))
        have HR3 := hide ((hbx.block _ (Nat.lt_of_lt_of_le zz HB2.out.size)).trans HR2.out)
        have HGX := hide hgx
        have hgl' : w.heap.size < g := Nat.lt_of_lt_of_le (Nat.lt_of_lt_of_le zz HB2.out.size) hgl
        have r0 : X.cell? ⟨w.heap.size, 0, none⟩ = some (.int .i64 0) := by rw [Lib.cell_of_heap HR3.out]; rfl
        have r1 : X.cell? ⟨w.heap.size, 1, none⟩ = some (.int .i64 0) := by rw [Lib.cell_of_heap HR3.out]; rfl
        have r2 : X.cell? ⟨w.heap.size, 2, none⟩ = some (.int .i64 0) := by rw [Lib.cell_of_heap HR3.out]; rfl
        have rf : ∀ j, X.frozen? ⟨w.heap.size, j, none⟩ = false := fun j => Lib.frozen_of_heap HR3.out j
        have g0 : X.cell? ⟨g, 0, none⟩ = some (.int .i64 kk.typ) := by rw [Lib.cell_of_heap hgx]; rfl
        have g1 : X.cell? ⟨g, 1, none⟩ = some (.int .i64 kk.lo) := by rw [Lib.cell_of_heap hgx]; rfl
        have g2 : X.cell? ⟨g, 2, none⟩ = some (.int .i64 kk.hi) := by rw [Lib.cell_of_heap hgx]; rfl
        have gx : g < X.heap.size := (Array.getElem?_eq_some_iff.1 hgx).1
        clear hgx hbx HB2 HP2 O2 HR2 HBW O' HB HR zr zz
        by_cases he : e' = 0
        · subst he
          have HPK : Hid (partK (l.map vrV) (ptV y) (st.drop F) = .ok kk) := by
            have h := HO.out
            unfold KOut at h
            cases hp : partK (l.map vrV) (ptV y) (st.drop F) with
            | ok k' => rw [hp] at h; show Except.ok k' = _; rw [h.2]
            | error er => rw [hp] at h; exact absurd rfl h.2
          have HND : Hid (mRun (partK (l.map vrV)) ((x.map ptV).take (k + 1)) [] = .ok (st.take F ++ [kk])) := by
            show _ = _
            rw [mrun_take HD.out HY.out]
            unfold mStep
            rw [← HLL.out, ← HTK.out, ← HF.out, HPK.out]
          obtain ⟨ta, tcap, htv, hOT, hOB⟩ := kd_to O3.out F (by rw [← HLL.out]; exact hFl)
          rw [← HLL.out] at htv
          have OT := hide hOT
          have HFL : Hid ((st.take F ++ [kk]).length = F + 1) := by
            show _ = _
            rw [List.length_append, List.length_take, ← HLL.out, Nat.min_eq_left hFl]; rfl
          have zX := HBX.out.size
          have lX : w.heap.size < X.heap.size := (Array.getElem?_eq_some_iff.1 HR3.out).1
          clear hOT hOB HO r0 r1 r2 rf
          go_wp2_with fail
          go_region_law ((refine step_append_lies _ (by rfl) _ _ _ (by rfl) (w.heap.size + 1) 52 i0 _ 3 24 Tryz.underlying122 hi hz0 hz1 hz2 rfl (by omega) (.slice ta F tcap) F _ (by rfl) (by exact OT.out.alloc _) ⟨X.heap.size, 0, none⟩ 1 1 [.int .i64 kk.typ, .int .i64 kk.lo, .int .i64 kk.hi] (by rfl) (by rfl) (three_news (by exact heap_alloc_new X _)) (by simp [Value.oneCell']) (by omega) (by unfold maxLen; omega) (by omega) (by simp; omega) (X.heap.size + 1) (by simp) ?_; intro gg cap' w7 hown7 hgrow7 hat7 hlt7; have O7 := hide hown7; have G7 := hide hgrow7; clear hown7 hgrow7 hat7 hlt7))
          all_goals
            have g7 : (X.alloc (.cells #[.int .i64 kk.typ, .int .i64 kk.lo, .int .i64 kk.hi] 52)).grownBy w7 (Value.slice ta F tcap).ownBlock := ⟨G7.out.os, G7.out.tape, G7.out.output, G7.out.size, G7.out.block⟩
            have B7 := hide ((HBX.out.alloc zX (.cells #[.int .i64 kk.typ, .int .i64 kk.lo, .int .i64 kk.hi] 52)).grown g7 (by rw [World.size_alloc]; omega) (fun r hr => by have := (OT.out.lt r hr).1; omega))
            have R7 : Hid (w7.heap[w.heap.size]? = some (.cells #[.int .i64 0, .int .i64 0, .int .i64 0] 52)) := by
              show _ = _
              rw [g7.block _ (by rw [World.size_alloc]; omega) (fun hr => by have := (OT.out.lt _ hr.symm).1; omega), Lib.alloc_old X _ _ lX]
              exact HR3.out
            have O8 : Hid (w7.ownsRow (w.heap.size + 1) 52 3 (.slice (some ⟨gg, 0, none⟩) (F + 1) cap') (st.take F ++ [kk]).length (kdC (st.take F ++ [kk]))) := by
              show World.ownsRow _ _ _ _ _ _ _
              rw [HFL.out, kdC_append]
              exact O7.out
            clear g7 G7 O7
            go_wp2
            go_roundw
            case rel => exact ⟨k + 1, st.take F ++ [kk], _, by omega, by go_num, rfl, R7.out, O8.out, by rw [HFL.out]; omega, HND.out, B7.out⟩
            case measure => simp [intOf]; omega
        · have HRE : Hid (R = .error e' ∧ e' ≠ 0) := by
            have h := HO.out
            unfold KOut at h
            refine ⟨?_, he⟩
            cases hp : partK (l.map vrV) (ptV y) (st.drop F) with
            | ok k' => rw [hp] at h; exact absurd h.1 he
            | error er =>
              rw [hp] at h
              have hs : mRun (partK (l.map vrV)) ((x.map ptV).take (k + 1)) [] = .error er := by
                rw [mrun_take HD.out HY.out]
                unfold mStep
                rw [← HLL.out, ← HTK.out, ← HF.out, hp]
              rw [HKP.out, mrun_err hs, h.1]
          have he' : (e' != 0) = true := by rw [bne_iff_ne]; exact he
          clear he HO
          go_wp2
          refine bodyPost_ret (v := .tuple #[.agg #[.int .i64 0, .int .i64 0, .int .i64 0], .int .i64 e']) (by simp [results, Tryz.results57, go_sem, *]) rfl ⟨⟨kT 0, e', rfl, ?_⟩, ?_⟩
          · unfold KOut; rw [HRE.out.1]; exact ⟨rfl, HRE.out.2⟩
          · exact set3 HBX.out (Nat.le_refl _) _ _ _
      · have hgx := heap_set3 HZ3.out (.int .i64 kk.typ) (.int .i64 kk.lo) (.int .i64 kk.hi)
        have hbx := set3 hb3 (Nat.le_refl _) (.int .i64 kk.typ) (.int .i64 kk.lo) (.int .i64 kk.hi)
        clear zq0 zq1 zq2 zq3
        generalize ((W3.setCell ⟨w2.heap.size, 0, none⟩ (.int .i64 kk.typ)).setCell ⟨w2.heap.size, 1, none⟩ (.int .i64 kk.lo)).setCell ⟨w2.heap.size, 2, none⟩ (.int .i64 kk.hi) = X at *
        obtain ⟨g, hgg⟩ : ∃ g, w2.heap.size = g := ⟨_, rfl⟩
        have hgl : w2.heap.size ≤ g := Nat.le_of_eq hgg
        rw [hgg] at hgx ⊢
        clear hgg HZ3
        clear K1 K2 S3 HB4 hb3 S0 S1 SS CP HZB HZC hov
        have O3 := hide (own_on O2.out hbx)
        have HBX := hide (HBW.out.trans (hbx.mono HBW.out.size))
        have HR3 := hide ((hbx.block _ (Nat.lt_of_lt_of_le zz HB2.out.size)).trans HR2.out)
        have HGX := hide hgx
        have hgl' : w.heap.size < g := Nat.lt_of_lt_of_le (Nat.lt_of_lt_of_le zz HB2.out.size) hgl
        have r0 : X.cell? ⟨w.heap.size, 0, none⟩ = some (.int .i64 0) := by rw [Lib.cell_of_heap HR3.out]; rfl
        have r1 : X.cell? ⟨w.heap.size, 1, none⟩ = some (.int .i64 0) := by rw [Lib.cell_of_heap HR3.out]; rfl
        have r2 : X.cell? ⟨w.heap.size, 2, none⟩ = some (.int .i64 0) := by rw [Lib.cell_of_heap HR3.out]; rfl
        have rf : ∀ j, X.frozen? ⟨w.heap.size, j, none⟩ = false := fun j => Lib.frozen_of_heap HR3.out j
        have g0 : X.cell? ⟨g, 0, none⟩ = some (.int .i64 kk.typ) := by rw [Lib.cell_of_heap hgx]; rfl
        have g1 : X.cell? ⟨g, 1, none⟩ = some (.int .i64 kk.lo) := by rw [Lib.cell_of_heap hgx]; rfl
        have g2 : X.cell? ⟨g, 2, none⟩ = some (.int .i64 kk.hi) := by rw [Lib.cell_of_heap hgx]; rfl
        have gx : g < X.heap.size := (Array.getElem?_eq_some_iff.1 hgx).1
        clear hgx hbx HB2 HP2 O2 HR2 HBW O' HB HR zr zz
        by_cases he : e' = 0
        · subst he
          have HPK : Hid (partK (l.map vrV) (ptV y) (st.drop F) = .ok kk) := by
            have h := HO.out
            unfold KOut at h
            cases hp : partK (l.map vrV) (ptV y) (st.drop F) with
            | ok k' => rw [hp] at h; show Except.ok k' = _; rw [h.2]
            | error er => rw [hp] at h; exact absurd rfl h.2
          have HND : Hid (mRun (partK (l.map vrV)) ((x.map ptV).take (k + 1)) [] = .ok (st.take F ++ [kk])) := by
            show _ = _
            rw [mrun_take HD.out HY.out]
            unfold mStep
            rw [← HLL.out, ← HTK.out, ← HF.out, HPK.out]
          obtain ⟨ta, tcap, htv, hOT, hOB⟩ := kd_to O3.out F (by rw [← HLL.out]; exact hFl)
          rw [← HLL.out] at htv
          have OT := hide hOT
          have HFL : Hid ((st.take F ++ [kk]).length = F + 1) := by
            show _ = _
            rw [List.length_append, List.length_take, ← HLL.out, Nat.min_eq_left hFl]; rfl
          have zX := HBX.out.size
          have lX : w.heap.size < X.heap.size := (Array.getElem?_eq_some_iff.1 HR3.out).1
          clear hOT hOB HO r0 r1 r2 rf
          go_wp2_with fail
          go_region_law ((refine step_append_lies _ (by rfl) _ _ _ (by rfl) (w.heap.size + 1) 52 i0 _ 3 24 Tryz.underlying122 hi hz0 hz1 hz2 rfl (by omega) (.slice ta F tcap) F _ (by rfl) (by exact OT.out.alloc _) ⟨X.heap.size, 0, none⟩ 1 1 [.int .i64 kk.typ, .int .i64 kk.lo, .int .i64 kk.hi] (by rfl) (by rfl) (three_news (by exact heap_alloc_new X _)) (by simp [Value.oneCell']) (by omega) (by unfold maxLen; omega) (by omega) (by simp; omega) (X.heap.size + 1) (by simp) ?_; intro gg cap' w7 hown7 hgrow7 hat7 hlt7; have O7 := hide hown7; have G7 := hide hgrow7; clear hown7 hgrow7 hat7 hlt7))
          all_goals
            have g7 : (X.alloc (.cells #[.int .i64 kk.typ, .int .i64 kk.lo, .int .i64 kk.hi] 52)).grownBy w7 (Value.slice ta F tcap).ownBlock := ⟨G7.out.os, G7.out.tape, G7.out.output, G7.out.size, G7.out.block⟩
            have B7 := hide ((HBX.out.alloc zX (.cells #[.int .i64 kk.typ, .int .i64 kk.lo, .int .i64 kk.hi] 52)).grown g7 (by rw [World.size_alloc]; omega) (fun r hr => by have := (OT.out.lt r hr).1; omega))
            have R7 : Hid (w7.heap[w.heap.size]? = some (.cells #[.int .i64 0, .int .i64 0, .int .i64 0] 52)) := by
              show _ = _
              rw [g7.block _ (by rw [World.size_alloc]; omega) (fun hr => by have := (OT.out.lt _ hr.symm).1; omega), Lib.alloc_old X _ _ lX]
              exact HR3.out
            have O8 : Hid (w7.ownsRow (w.heap.size + 1) 52 3 (.slice (some ⟨gg, 0, none⟩) (F + 1) cap') (st.take F ++ [kk]).length (kdC (st.take F ++ [kk]))) := by
              show World.ownsRow _ _ _ _ _ _ _
              rw [HFL.out, kdC_append]
              exact O7.out
            clear g7 G7 O7
            go_wp2
            go_roundw
            case rel => exact ⟨k + 1, st.take F ++ [kk], _, by omega, by go_num, rfl, R7.out, O8.out, by rw [HFL.out]; omega, HND.out, B7.out⟩
            case measure => simp [intOf]; omega
        · have HRE : Hid (R = .error e' ∧ e' ≠ 0) := by
            have h := HO.out
            unfold KOut at h
            refine ⟨?_, he⟩
            cases hp : partK (l.map vrV) (ptV y) (st.drop F) with
            | ok k' => rw [hp] at h; exact absurd h.1 he
            | error er =>
              rw [hp] at h
              have hs : mRun (partK (l.map vrV)) ((x.map ptV).take (k + 1)) [] = .error er := by
                rw [mrun_take HD.out HY.out]
                unfold mStep
                rw [← HLL.out, ← HTK.out, ← HF.out, hp]
              rw [HKP.out, mrun_err hs, h.1]
          have he' : (e' != 0) = true := by rw [bne_iff_ne]; exact he
          clear he HO
          go_wp2
          refine bodyPost_ret (v := .tuple #[.agg #[.int .i64 0, .int .i64 0, .int .i64 0], .int .i64 e']) (by simp [results, Tryz.results57, go_sem, *]) rfl ⟨⟨kT 0, e', rfl, ?_⟩, ?_⟩
          · unfold KOut; rw [HRE.out.1]; exact ⟨rfl, HRE.out.2⟩
          · exact set3 HBX.out (Nat.le_refl _) _ _ _
    · obtain rfl : k = N := by omega
      have HD2 : Hid (mRun (partK (l.map vrV)) (x.map ptV) [] = .ok st) := by
        show _ = _
        rw [← HD.out, List.take_of_length_le (by rw [List.length_map, ← HN.out]; omega)]
      obtain ⟨⟨k0t, k0l, k0h⟩, sr, hst⟩ : ∃ k0 sr, st = k0 :: sr := by
        have := run_ne HD2.out (.inr (fun h => by have := congrArg List.length h; rw [List.length_map, ← HN.out] at this; simp at this; omega))
        match st, this with
        | k0 :: sr, _ => exact ⟨k0, sr, rfl⟩
      have HRR : Hid (R = if k0t = 0 ∧ kFits ⟨k0t, k0l, k0h⟩ 3 ≠ 0 then .error 1 else .ok ⟨k0t, k0l, k0h⟩) := by
        show _ = _
        rw [HKP.out, HD2.out, hst]; rfl
      rcases O.out.2 with ⟨h1', h2'⟩ | ⟨g, cap', cur, h1', r2, r3, r4, r5, r6, r7⟩
      · rw [hst] at h2'; simp at h2'
      injection h1' with e1 e2 e3
      subst e1 e3
      have key : ∀ j u, (kdC st)[j]? = some u → wr.cell? ⟨g, j, none⟩ = some u := fun j u hu => by
        rw [O.out.cellAt j (by have := (List.getElem?_eq_some_iff.1 hu).1; rw [kdC_length] at this; omega)]; exact hu
      have c0 := key 0 (.int .i64 k0t) (by rw [hst]; rfl)
      have c1 := key 1 (.int .i64 k0l) (by rw [hst]; rfl)
      have c2 := key 2 (.int .i64 k0h) (by rw [hst]; rfl)
      have hL1 : 1 ≤ st.length := by rw [hst]; simp
      have HS5 : st.length ≤ 500 := by omega
      have gl : g < wr.heap.size := (Array.getElem?_eq_some_iff.1 r3).1
      have zz : w.heap.size < wr.heap.size := (Array.getElem?_eq_some_iff.1 HR.out).1
      obtain ⟨L, hLL⟩ : ∃ L, L = st.length := ⟨_, rfl⟩
      rw [← hLL] at hL1 HS5 ⊢
      have L1 : (0 : Int) < (L : Int) := by omega
      clear hLL hst r2 r3 r4 r5 r6 r7 key HD HD2 hdc hdl hk
      obtain ⟨X, hX⟩ : ∃ X, X = wr.alloc (.cells #[.int .i64 k0t, .int .i64 k0l, .int .i64 k0h] 52) := ⟨_, rfl⟩
      have HBX := hide (show Below w.heap.size w X by rw [hX]; exact HB.out.alloc HB.out.size _)
      have HRX := hide (show X.heap[w.heap.size]? = some (.cells #[.int .i64 0, .int .i64 0, .int .i64 0] 52) by rw [hX, Lib.alloc_old wr _ _ zz]; exact HR.out)
      have kf := kfits_any k0t k0l k0h 3 X (HG.out.below HBX.out HG.out.lt)
      have HX := hide hX
      have zX : w.heap.size < X.heap.size := (Array.getElem?_eq_some_iff.1 HRX.out).1
      have HGX := hide (show X.heap[wr.heap.size]? = some (.cells #[.int .i64 k0t, .int .i64 k0l, .int .i64 k0h] 52) by rw [hX]; exact heap_alloc_new wr _)
      clear hX
      by_cases h0 : k0t = 0
      · subst h0
        go_wp2_with fail
        rw [← HX.out]
        refine kf.mono ?_
        rintro e X2 ⟨rfl, hb⟩
        have HB2 := hide (HBX.out.trans (hb.mono HBX.out.size))
        have q := (hb.block _ zX).trans HRX.out
        have q' := (hb.block _ (Array.getElem?_eq_some_iff.1 HGX.out).1).trans HGX.out
        have r0 : X2.cell? ⟨w.heap.size, 0, none⟩ = some (.int .i64 0) := by rw [Lib.cell_of_heap q]; rfl
        have r1 : X2.cell? ⟨w.heap.size, 1, none⟩ = some (.int .i64 0) := by rw [Lib.cell_of_heap q]; rfl
        have r2 : X2.cell? ⟨w.heap.size, 2, none⟩ = some (.int .i64 0) := by rw [Lib.cell_of_heap q]; rfl
        have rf : ∀ j, X2.frozen? ⟨w.heap.size, j, none⟩ = false := fun j => Lib.frozen_of_heap q j
        have g0 : X2.cell? ⟨wr.heap.size, 0, none⟩ = some (.int .i64 0) := by rw [Lib.cell_of_heap q']; rfl
        have g1 : X2.cell? ⟨wr.heap.size, 1, none⟩ = some (.int .i64 k0l) := by rw [Lib.cell_of_heap q']; rfl
        have g2 : X2.cell? ⟨wr.heap.size, 2, none⟩ = some (.int .i64 k0h) := by rw [Lib.cell_of_heap q']; rfl
        clear kf hb q q' c0 c1 c2
        generalize kFits ⟨0, k0l, k0h⟩ 3 = E at *
        by_cases hE : E = 0
        · subst hE
          have HF : Hid (R = .ok ⟨0, k0l, k0h⟩) := by show _ = _; rw [HRR.out, if_neg (fun h => h.2 rfl)]
          go_wp2
          refine bodyPost_ret (v := .tuple #[.agg #[.int .i64 0, .int .i64 k0l, .int .i64 k0h], .int .i64 0]) (by simp [results, Tryz.results57, go_sem, *]) rfl ⟨⟨⟨0, k0l, k0h⟩, 0, rfl, ?_⟩, ?_⟩
          · unfold KOut; rw [HF.out]; exact ⟨rfl, rfl⟩
          · exact set3 HB2.out (Nat.le_refl _) _ _ _
        · have HF : Hid (R = .error 1) := by show _ = _; rw [HRR.out, if_pos (by simp [hE])]
          have hE' : (E != 0) = true := by rw [bne_iff_ne]; exact hE
          clear hE
          go_wp2
          refine bodyPost_ret (v := .tuple #[.agg #[.int .i64 0, .int .i64 0, .int .i64 0], .int .i64 1]) (by simp [results, Tryz.results57, go_sem, *]) rfl ⟨⟨kT 0, 1, rfl, ?_⟩, ?_⟩
          · unfold KOut; rw [HF.out]; exact ⟨rfl, by decide⟩
          · exact set3 HB2.out (Nat.le_refl _) _ _ _
      · have HF : Hid (R = .ok ⟨k0t, k0l, k0h⟩) := by show _ = _; rw [HRR.out, if_neg (fun h => h0 h.1)]
        have h0' : (k0t == 0) = false := by rw [beq_eq_false_iff_ne]; exact h0
        have q := HR.out
        have r0 : wr.cell? ⟨w.heap.size, 0, none⟩ = some (.int .i64 0) := by rw [Lib.cell_of_heap q]; rfl
        have r1 : wr.cell? ⟨w.heap.size, 1, none⟩ = some (.int .i64 0) := by rw [Lib.cell_of_heap q]; rfl
        have r2 : wr.cell? ⟨w.heap.size, 2, none⟩ = some (.int .i64 0) := by rw [Lib.cell_of_heap q]; rfl
        have rf : ∀ j, wr.frozen? ⟨w.heap.size, j, none⟩ = false := fun j => Lib.frozen_of_heap q j
        clear kf q h0
        go_wp2
        refine bodyPost_ret (v := .tuple #[.agg #[.int .i64 k0t, .int .i64 k0l, .int .i64 k0h], .int .i64 0]) (by simp [results, Tryz.results57, go_sem, *]) rfl ⟨⟨⟨k0t, k0l, k0h⟩, 0, rfl, ?_⟩, ?_⟩
        · unfold KOut; rw [HF.out]; exact ⟨rfl, rfl⟩
        · first
            | exact (set3 HB.out (Nat.le_refl _) _ _ _).alloc (by simp; omega) _
            | exact set3 (HB.out.alloc HB.out.size _) (Nat.le_refl _) _ _ _
end Go.Proofs.YtldjiieckddhkaaGreatDoor
