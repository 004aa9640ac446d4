import Derived.Test.YtldjiieckddhkaaGreatDoorMg39
import Derived.Test.YtldjiieckddhkaaGreatDoorMg40
import Derived.Test.YtldjiieckddhkaaGreatDoorKpW
import Derived.Deep.Cut
import Derived.Deep.CutRange
namespace Go.Proofs.YtldjiieckddhkaaGreatDoor
open Go.RowKit Go.Sort
theorem set2_heap {W : World} {R T : Nat} {a0 a1 : Value} (h : W.heap[R]? = some (.cells #[a0, a1] T (0, 0))) (x y : Value) : ((W.setCell ⟨R, 0, none⟩ x).setCell ⟨R, 1, none⟩ y).heap[R]? = some (.cells #[x, y] T (0, 0)) := by
  have h1 : (W.setCell ⟨R, 0, none⟩ x).heap[R]? = some (.cells #[x, a1] T (0, 0)) := by
    unfold World.setCell
    show (W.heap.modify R _)[R]? = _
    rw [Array.getElem?_modify, if_pos rfl, h]; rfl
  generalize W.setCell ⟨R, 0, none⟩ x = W1 at *
  unfold World.setCell
  show (W1.heap.modify R _)[R]? = _
  rw [Array.getElem?_modify, if_pos rfl, h1]; rfl
theorem own_one_dm {w : World} {E : Nat} {x : Dm} (h : w.heap[E]? = some (.cells #[.int .i64 x.d.t, x.v] 85 (0, 0))) : w.ownsRow E 85 2 (.slice (some ⟨E, 0, none⟩) 1 1) 1 (dmC [x]) :=
  ⟨rfl, .inr ⟨E, 1, _, rfl, Nat.le_refl _, h, Nat.le_refl _, by unfold maxLen; omega, rfl, rfl⟩⟩
theorem own_lower {w : World} {base base' e size n : Nat} {v : Value} {xs : List Value} (h : w.ownsRow base e size v n xs) (hb : base' ≤ base) : w.ownsRow base' e size v n xs := by
  refine ⟨h.1, ?_⟩
  rcases h.2 with h | ⟨g, cap, cur, h1, h2, h3⟩
  · exact .inl h
  · exact .inr ⟨g, cap, cur, h1, Nat.le_trans hb h2, h3⟩
structure RkR (w wr : World) (sv : Value) (st : List Dm) (k : Nat) (x : List Pt) : Prop where
  res : wr.heap[w.heap.size]? = some (.cells #[.int .i64 0, .slice none 0 0] 85)
  own : wr.ownsRow (w.heap.size + 1) 85 2 sv st.length (dmC st)
  len : st.length ≤ k
  ns : ∀ y ∈ st, NLst wr y.v y.d.nums
  tot : totD (st.map Dm.d) ≤ k
  run : mRun partD (x.take k) [] = .ok (st.map Dm.d)
  below : Below w.heap.size w wr
set_option maxRecDepth 100000 in
set_option maxHeartbeats 6400000 in
theorem reckN_any (v : Value) (x : List Pv) (w : World) (hX : PLst w v x) (hc : checkP (x.map ptV) = 0) (hs : ∀ p ∈ x.map ptV, p.s = []) : Calls Tryz.prog 46 #[.slice none 0 0, v] w (DOut (reckD (x.map ptV)) w) := by
  have HRD : Hid (reckD (x.map ptV) = match mRun partD (x.map ptV) [] with
    | .error e => .error e
    | .ok st => endD (st.headD (dT 0))) := rfl
  obtain ⟨e0, hwell, hflat, -, -, hlen⟩ := check_tree hc
  have HM : Hid (∀ p ∈ x.map ptV, mayP p = true) := by rw [← hflat]; exact may_flat hwell
  have HWf : Hid (Wf (x.map ptV) 0) := by rw [← hflat]; exact wf_tree hwell
  have HNE : Hid (x.map ptV ≠ []) := by
    rw [← hflat]; intro h
    have := flat_pos e0
    rw [h] at this; simp at this
  generalize reckD (x.map ptV) = R at *
  rw [List.length_map] at hlen
  have hlen4 : x.length ≤ 4398046510976 := by omega
  have mC : Hid (∀ W, Below w.heap.size w W → Calls Tryz.prog 55 #[v] W fun e w' => e = .returned (.int .i64 0) ∧ Below W.heap.size W w') := fun W hb => by
    have := qCheck_any v x W (hX.below hb (Nat.le_refl _)) hlen4
    rwa [hc] at this
  obtain ⟨a, b, off, cap, rfl, hA, hI⟩ := hX
  have HA := hide hA
  have HI := hide hI
  have HSN := hide hs
  obtain ⟨N, hN⟩ : ∃ N, N = x.length := ⟨_, rfl⟩
  have HN := hide hN
  rw [← hN] at hlen mC ⊢
  have n5 : (N : Int) ≤ 500 := by omega
  have n0 : (0 : Int) ≤ (N : Int) := by omega
  have m87 := fun W => wrong_nil W
  have B0 := hide ((Below.refl w.heap.size w).alloc (Nat.le_refl _) (.cells #[.int .i64 0, .slice none 0 0] 85))
  have m55 := mC.out _ B0.out
  clear hN hA hI hs hc hwell hflat mC hlen4
  go_enter Tryz.func46, Tryz.ntmps46
  go_wp2_with (first | (go_at_call 87; refine (m87 _).mono ?_; rintro e w' ⟨rfl, rfl⟩))
  refine m55.mono ?_
  rintro e wc ⟨rfl, hbc⟩
  have RC : Hid (wc.heap[w.heap.size]? = some (.cells #[.int .i64 0, .slice none 0 0] 85)) := (hbc.block _ (by simp)).trans (heap_alloc_new w _)
  have BC : Hid (Below w.heap.size w wc) := B0.out.trans (hbc.mono B0.out.size)
  clear m55 m87 hbc B0
  go_wp2_with fail
  go_loopw [8, 9] (fun dv i wr => ∃ (k : Nat) (st : List Dm) (dv' : Value), k ≤ N ∧ i = .int .i64 (k : Int) ∧ dv' = dv ∧ Hid (RkR w wr dv' st k (x.map ptV))) (fun _ i _ => N - (intOf i).toNat)
  case atStart => exact ⟨0, [], .slice none 0 0, by omega, rfl, rfl, RC.out, World.ownsRow_nil _ _ _ _, Nat.le_refl _, fun y hy => (by cases hy), Nat.le_refl _, rfl, BC.out⟩
  case round =>
    clear RC BC
    obtain ⟨k, st, dv, hk, rfl, rfl, hh⟩ := hrel
    obtain ⟨da, dcap, hdv, hdc⟩ := own_formD hh.out.own
    subst hdv
    have HB := hide hh.out.below
    have hdl := hh.out.len
    by_cases hlt : k < N
    · have j1 : (k : Int) < (N : Int) := by omega
      have j0 : (0 : Int) ≤ (k : Int) := by omega
      obtain ⟨y, hy⟩ : ∃ y, x[k]? = some y := ⟨_, List.getElem?_eq_getElem (by rw [← HN.out]; exact hlt)⟩
      have HY : Hid ((x.map ptV)[k]? = some (ptV y)) := by show _ = _; rw [List.getElem?_map, hy]; rfl
      obtain ⟨hbw, rfl⟩ := HA.out (by rw [← HN.out]; omega)
      obtain ⟨q0, q1, q2, q3, q4⟩ := HI.out k y hy
      have HQ : Hid (∀ W, Below w.heap.size w W → W.cell? ⟨b, off + k * 5, none⟩ = some (.int .i64 y.k) ∧ W.cell? ⟨b, off + k * 5 + 1, none⟩ = some (.int .i64 y.n) ∧ W.cell? ⟨b, off + k * 5 + 2, none⟩ = some (.int .i64 y.t) ∧ W.cell? ⟨b, off + k * 5 + 3, none⟩ = some (.string y.s) ∧ W.cell? ⟨b, off + k * 5 + 4, none⟩ = some (.string y.f)) := fun W hb =>
        ⟨(hb.cell (p := ⟨b, off + k * 5, none⟩) hbw).trans q0, (hb.cell (p := ⟨b, off + k * 5 + 1, none⟩) hbw).trans q1, (hb.cell (p := ⟨b, off + k * 5 + 2, none⟩) hbw).trans q2, (hb.cell (p := ⟨b, off + k * 5 + 3, none⟩) hbw).trans q3, (hb.cell (p := ⟨b, off + k * 5 + 4, none⟩) hbw).trans q4⟩
      obtain ⟨c0, c1, c2, c3, c4⟩ := HQ.out wr HB.out
      clear q0 q1 q2 q3 q4 hy
      have m1 := fun W => qTakes_v y W
      have htk : takes (ptV y) ≤ st.length := by
        have := wf_at (st := []) HWf.out hh.out.run HY.out
        rwa [List.length_map] at this
      obtain ⟨tk, htk2⟩ : ∃ tk, tk = takes (ptV y) := ⟨_, rfl⟩
      have HTK := hide htk2
      rw [← htk2] at m1 htk
      clear htk2
      obtain ⟨L, hLL⟩ : ∃ L, L = st.length := ⟨_, rfl⟩
      have HLL := hide hLL
      rw [← hLL] at hdl hdc htk hh ⊢
      clear hLL
      obtain ⟨F, hF⟩ : ∃ F, F = L - tk := ⟨_, rfl⟩
      have hF2 : (L : Int) - (tk : Int) = (F : Int) := by omega
      have hFl : F ≤ L := by omega
      have HF := hide hF
      have d5 : (L : Int) ≤ 500 := by omega
      have t0 : (0 : Int) ≤ (tk : Int) := by omega
      have l0 : (0 : Int) ≤ (L : Int) := by omega
      have t5 : (tk : Int) ≤ 500 := by omega
      clear hF
      go_wp2_with fail
      refine (m1 _).mono ?_
      rintro e w2 ⟨rfl, hb2⟩
      clear m1 c0 c1 c2 c3 c4
      have BW2 := hide (HB.out.trans (hb2.mono HB.out.size))
      have HB2 := hide hb2
      have HR2 : Hid (w2.heap[w.heap.size]? = some (.cells #[.int .i64 0, .slice none 0 0] 85)) := (hb2.block _ (Array.getElem?_eq_some_iff.1 hh.out.res).1).trans hh.out.res
      have O2 : Hid (w2.ownsRow (w.heap.size + 1) 85 2 (.slice da L dcap) L (dmC st)) := by have := own_on hh.out.own hb2; rwa [← HLL.out] at this
      have NS2 : Hid (∀ z ∈ st, NLst w2 z.v z.d.nums) := fun z hz => (hh.out.ns z hz).below hb2 (Nat.le_refl _)
      clear hb2
      obtain ⟨ov, hov, hKL⟩ := dm_from (st := st) (by have := O2.out; rwa [HLL.out] at this) F (by rw [← HLL.out]; exact hFl)
      have HKL := hide hKL
      obtain ⟨oa, ob, oo, ocp, rfl, -, -⟩ := hKL
      rw [← HLL.out] at hov
      go_wp2_with fail
      go_cut [11, 12] from 40 to 51 (fun p er' wx => ∃ (R : Nat) (t er : Int) (xa : Option Addr) (xn xc : Nat), p = .pointer (some ⟨R, 0, none⟩) ∧ er' = .int .i64 er ∧ Hid (wx.heap[R]? = some (.cells #[.int .i64 t, .slice xa xn xc] 85 (0, 0)) ∧ w2.heap.size ≤ R ∧ Below w2.heap.size w2 wx ∧ match partD (ptV y) ((st.map Dm.d).drop F) with
        | .error z => er = z ∧ z ≠ 0
        | .ok d => er = 0 ∧ t = d.t ∧ NLst wx (.slice xa xn xc) d.nums))
      case first =>
        have hw : Below w2.heap.size w2 w2.drew := (Below.refl _ _).drew
        have CP : Hid (∀ W, Below w2.heap.size w2 W → Calls Tryz.prog 88 #[.slice none 0 0, .agg #[.int .i64 y.k, .int .i64 y.n, .int .i64 y.t, .string y.s, .string y.f], .slice oa (st.drop F).length ocp] W (POut (partD (ptV y) ((st.map Dm.d).drop F)) W)) := fun W hW => by
          have := part9_any (.slice none 0 0) y (st.drop F) (.slice oa (st.drop F).length ocp) W (HM.out _ (List.mem_of_getElem? HY.out)) (HSN.out _ (List.mem_of_getElem? HY.out)) (by rw [List.length_drop, ← HLL.out, ← HTK.out, HF.out]; omega) (by
            obtain ⟨a', b', o', c', e, h1, h2⟩ := HKL.out
            exact ⟨a', b', o', c', e, fun h => ⟨Nat.lt_of_lt_of_le (h1 h).1 hW.size, (h1 h).2⟩, fun i z hz => by
              have h0 : 0 < (st.drop F).length := by have := (List.getElem?_eq_some_iff.1 hz).1; omega
              obtain ⟨k0, k1⟩ := h2 i z hz
              exact ⟨(hW.cell (p := ⟨b', o' + i * 2, none⟩) (h1 h0).1).trans k0, (hW.cell (p := ⟨b', o' + i * 2 + 1, none⟩) (h1 h0).1).trans k1⟩⟩) (fun z hz => by
            have hz' := List.mem_of_mem_drop hz
            refine ⟨(NS2.out z hz').below hW (Nat.le_refl _), ?_⟩
            have := tot_mem (List.mem_map.2 ⟨z, hz', rfl⟩ : z.d ∈ st.map Dm.d)
            have := hh.out.tot
            omega)
          rwa [dmap_drop] at this
        have HQ2 : Hid (∀ W, Below w2.heap.size w2 W → W.cell? ⟨b, off + k * 5, none⟩ = some (.int .i64 y.k) ∧ W.cell? ⟨b, off + k * 5 + 1, none⟩ = some (.int .i64 y.n) ∧ W.cell? ⟨b, off + k * 5 + 2, none⟩ = some (.int .i64 y.t) ∧ W.cell? ⟨b, off + k * 5 + 3, none⟩ = some (.string y.s) ∧ W.cell? ⟨b, off + k * 5 + 4, none⟩ = some (.string y.f)) := fun W hb => HQ.out W (BW2.out.trans (hb.mono BW2.out.size))
        generalize (st.drop F).length = on at *
        refine wp_region_held (S := fun W => W.cell? ⟨b, off + k * 5, none⟩ = some (.int .i64 y.k) ∧ W.cell? ⟨b, off + k * 5 + 1, none⟩ = some (.int .i64 y.n) ∧ W.cell? ⟨b, off + k * 5 + 2, none⟩ = some (.int .i64 y.t) ∧ W.cell? ⟨b, off + k * 5 + 3, none⟩ = some (.string y.s) ∧ W.cell? ⟨b, off + k * 5 + 4, none⟩ = some (.string y.f)) (by kernel_rfl) ?_
        show wpAnyH _ _ _ _ _ _ _ _ w2.drew
        refine tkH 0 (.slice none 0 0) (HQ2.out _ hw) ?_
        refine tkH 1 (.slice (some ⟨b, off, none⟩) N cap) (HQ2.out _ hw) ?_
        refine tkH 2 (.int .i64 (k : Int)) (HQ2.out _ hw) ?_
        refine tkH 3 (.pointer (some ⟨b, off + k * 5, none⟩)) (HQ2.out _ hw) ?_
        refine tkH 4 (.agg #[.int .i64 y.k, .int .i64 y.n, .int .i64 y.t, .string y.s, .string y.f]) (HQ2.out _ hw) ?_
        refine tkH 5 (.slice da L dcap) (HQ2.out _ hw) ?_
        refine tkH 6 (.int .i64 (F : Int)) (HQ2.out _ hw) ?_
        refine tkH 7 (.slice oa on ocp) (HQ2.out _ hw) ?_
        try simp only [Act.put, List.setIfInBounds_toArray, List.set_cons_zero, List.set_cons_succ]
        refine rd2 8 12 (fun K hK => ?_) (fun K hK => ?_)
        · go_simp
          go_at_call 88
          refine (CP.out _ hw).mono ?_
          rintro e w3 ⟨⟨t, er, xa, xn, xc, rfl, hm⟩, hb3⟩
          have h3 : Below w2.heap.size w2 w3 := hw.trans hb3
          refine hK.out _ _ (HQ2.out _ h3) (fun _ => ?_)
          clear hK K
          try simp only [Act.put, List.setIfInBounds_toArray, List.set_cons_zero, List.set_cons_succ]
          refine tkH 9 (.tuple #[.agg #[.int .i64 t, .slice xa xn xc], .int .i64 er]) (HQ2.out _ h3) ?_
          refine tkH 10 (.agg #[.int .i64 t, .slice xa xn xc]) (HQ2.out _ h3) ?_
          refine tkH 11 (.int .i64 er) (HQ2.out _ h3) ?_
          try simp only [Act.put, List.setIfInBounds_toArray, List.set_cons_zero, List.set_cons_succ]
          refine rdH 12 (fun K hK => ?_)
          go_simp
          have h4 : Below w2.heap.size w2 (w3.alloc (.cells #[.int .i64 0, .slice none 0 0] 85)) := h3.alloc h3.size _
          refine hK.out _ _ (HQ2.out _ h4) (fun _ => ?_)
          clear hK K
          have HMV : ∀ {l : List Int}, NLst w3 (.slice xa xn xc) l → NLst (w3.alloc (.cells #[.int .i64 t, .slice xa xn xc] 85)) (.slice xa xn xc) l := fun h => h.below ((Below.refl w3.heap.size w3).alloc (Nat.le_refl _) _) (Nat.le_refl _)
          have q1 := heap_alloc_new w3 (.cells #[.int .i64 0, .slice none 0 0] 85)
          have r0 : (w3.alloc (.cells #[.int .i64 0, .slice none 0 0] 85)).cell? ⟨w3.heap.size, 0, none⟩ = some (.int .i64 0) := by rw [Lib.cell_of_heap q1]; rfl
          have r1 : (w3.alloc (.cells #[.int .i64 0, .slice none 0 0] 85)).cell? ⟨w3.heap.size, 1, none⟩ = some (.slice none 0 0) := by rw [Lib.cell_of_heap q1]; rfl
          have rf : ∀ j, (w3.alloc (.cells #[.int .i64 0, .slice none 0 0] 85)).frozen? ⟨w3.heap.size, j, none⟩ = false := fun j => Lib.frozen_of_heap q1 j
          try simp only [Act.put, List.setIfInBounds_toArray, List.set_cons_zero, List.set_cons_succ]
          refine rdH 13 (fun K hK => ?_)
          go_simp
          refine hK.out _ _ (HQ2.out _ (h3.alloc h3.size _)) (fun _ => ?_)
          clear hK K
          try simp only [Act.put, List.setIfInBounds_toArray, List.set_cons_zero, List.set_cons_succ]
          refine rdH 14 (fun K hK => ?_)
          go_simp
          refine hK.out _ _ (HQ2.out _ (h3.alloc h3.size _)) (fun _ => ?_)
          clear hK K
          try simp only [Act.put, List.setIfInBounds_toArray, List.set_cons_zero, List.set_cons_succ]
          refine wpAnyH_done (by kernel_rfl) ?_ _
          have hrel : (w3.alloc (.cells #[.int .i64 t, .slice xa xn xc] 85)).heap[w3.heap.size]? = some (.cells #[.int .i64 t, .slice xa xn xc] 85 (0, 0)) ∧ w2.heap.size ≤ w3.heap.size ∧ Below w2.heap.size w2 (w3.alloc (.cells #[.int .i64 t, .slice xa xn xc] 85)) ∧ match partD (ptV y) ((st.map Dm.d).drop F) with
              | .error z => er = z ∧ z ≠ 0
              | .ok d => er = 0 ∧ t = d.t ∧ NLst (w3.alloc (.cells #[.int .i64 t, .slice xa xn xc] 85)) (.slice xa xn xc) d.nums := by
            refine ⟨heap_alloc_new w3 _, h3.size, h3.alloc h3.size _, ?_⟩
            revert hm
            cases partD (ptV y) ((st.map Dm.d).drop F) with
            | error z => exact fun hm => hm
            | ok d => exact fun hm => ⟨hm.1, hm.2.1, HMV hm.2.2⟩
          have HREL := hide hrel
          clear hrel hm CP HQ2 q1 r0 r1 rf
          go_wp2_with fail
          go_meet
          case rel => exact ⟨_, t, er, xa, xn, xc, rfl, rfl, HREL.out⟩
        · go_simp
          have h4 : Below w2.heap.size w2 (w2.drew.alloc (.cells #[.int .i64 0, .slice none 0 0] 85)) := hw.alloc (Nat.le_refl _) _
          refine hK.out _ _ (HQ2.out _ h4) (fun _ => ?_)
          clear hK K
          try simp only [Act.put, List.setIfInBounds_toArray, List.set_cons_zero, List.set_cons_succ]
          refine rdH 8 (fun K hK => ?_)
          go_simp
          go_at_call 88
          refine (CP.out _ h4).mono ?_
          rintro e w3 ⟨⟨t, er, xa, xn, xc, rfl, hm⟩, hb3⟩
          have h3 : Below w2.heap.size w2 w3 := h4.trans (hb3.mono h4.size)
          refine hK.out _ _ (HQ2.out _ h3) (fun _ => ?_)
          clear hK K
          try simp only [Act.put, List.setIfInBounds_toArray, List.set_cons_zero, List.set_cons_succ]
          refine tkH 9 (.tuple #[.agg #[.int .i64 t, .slice xa xn xc], .int .i64 er]) (HQ2.out _ h3) ?_
          refine tkH 10 (.agg #[.int .i64 t, .slice xa xn xc]) (HQ2.out _ h3) ?_
          refine tkH 11 (.int .i64 er) (HQ2.out _ h3) ?_
          have HMV : ∀ {l : List Int}, NLst w3 (.slice xa xn xc) l → NLst w3 (.slice xa xn xc) l := fun h => h
          have hnew : (w2.drew.alloc (.cells #[.int .i64 0, .slice none 0 0] 85)).heap[w2.heap.size]? = some (.cells #[.int .i64 0, .slice none 0 0] 85 (0, 0)) := heap_alloc_new w2.drew (.cells #[.int .i64 0, .slice none 0 0] 85)
          have q1 := (hb3.block w2.heap.size (Array.getElem?_eq_some_iff.1 hnew).1).trans hnew
          have r0 : w3.cell? ⟨w2.heap.size, 0, none⟩ = some (.int .i64 0) := by rw [Lib.cell_of_heap q1]; rfl
          have r1 : w3.cell? ⟨w2.heap.size, 1, none⟩ = some (.slice none 0 0) := by rw [Lib.cell_of_heap q1]; rfl
          have rf : ∀ j, w3.frozen? ⟨w2.heap.size, j, none⟩ = false := fun j => Lib.frozen_of_heap q1 j
          try simp only [Act.put, List.setIfInBounds_toArray, List.set_cons_zero, List.set_cons_succ]
          refine rdH 13 (fun K hK => ?_)
          go_simp
          refine hK.out _ _ (HQ2.out _ (set2 h3 (Nat.le_refl _) _ _)) (fun _ => ?_)
          clear hK K
          try simp only [Act.put, List.setIfInBounds_toArray, List.set_cons_zero, List.set_cons_succ]
          refine rdH 14 (fun K hK => ?_)
          go_simp
          refine hK.out _ _ (HQ2.out _ (set2 h3 (Nat.le_refl _) _ _)) (fun _ => ?_)
          clear hK K
          try simp only [Act.put, List.setIfInBounds_toArray, List.set_cons_zero, List.set_cons_succ]
          refine wpAnyH_done (by kernel_rfl) ?_ _
          have hrel : ((w3.setCell ⟨w2.heap.size, 0, none⟩ (.int .i64 t)).setCell ⟨w2.heap.size, 1, none⟩ (.slice xa xn xc)).heap[w2.heap.size]? = some (.cells #[.int .i64 t, .slice xa xn xc] 85 (0, 0)) ∧ w2.heap.size ≤ w2.heap.size ∧ Below w2.heap.size w2 ((w3.setCell ⟨w2.heap.size, 0, none⟩ (.int .i64 t)).setCell ⟨w2.heap.size, 1, none⟩ (.slice xa xn xc)) ∧ match partD (ptV y) ((st.map Dm.d).drop F) with
              | .error z => er = z ∧ z ≠ 0
              | .ok d => er = 0 ∧ t = d.t ∧ NLst ((w3.setCell ⟨w2.heap.size, 0, none⟩ (.int .i64 t)).setCell ⟨w2.heap.size, 1, none⟩ (.slice xa xn xc)) (.slice xa xn xc) d.nums := by
            refine ⟨set2_heap q1 _ _, (Nat.le_refl _), set2 h3 (Nat.le_refl _) _ _, ?_⟩
            revert hm
            cases partD (ptV y) ((st.map Dm.d).drop F) with
            | error z => exact fun hm => hm
            | ok d => exact fun hm => ⟨hm.1, hm.2.1, (HMV hm.2.2).set q1 (by decide) _ _⟩
          have HREL := hide hrel
          clear hrel hm CP HQ2 q1 r0 r1 rf
          go_wp2_with fail
          go_meet
          case rel => exact ⟨_, t, er, xa, xn, xc, rfl, rfl, HREL.out⟩
      case rest =>
        obtain ⟨Rr, t, er, xa, xn, xc, rfl, rfl, hcu⟩ := hcut
        have HRr := hide hcu.out.1
        have hRr := hcu.out.2.1
        have HBc := hide hcu.out.2.2.1
        have hm := hcu.out.2.2.2
        clear hcu
        have BWc := hide (BW2.out.trans (HBc.out.mono BW2.out.size))
        have HRc : Hid (wc.heap[w.heap.size]? = some (.cells #[.int .i64 0, .slice none 0 0] 85)) := (HBc.out.block _ (Array.getElem?_eq_some_iff.1 HR2.out).1).trans HR2.out
        have hst : mRun partD ((x.map ptV).take (k + 1)) [] = mStep partD (ptV y) (st.map Dm.d) := mrun_take hh.out.run HY.out
        have hms : mStep partD (ptV y) (st.map Dm.d) = match partD (ptV y) ((st.map Dm.d).drop F) with
            | .error e => Except.error e
            | .ok v => .ok ((st.map Dm.d).take F ++ [v]) := by
          unfold mStep
          rw [List.length_map, ← HLL.out, ← HTK.out, ← HF.out]
          cases partD (ptV y) ((st.map Dm.d).drop F) <;> rfl
        have HMT : Hid (∀ st', mStep partD (ptV y) (st.map Dm.d) = .ok st' → totD st' ≤ k + 1) := fun st' h => by
          have h1 := step_tot (by rw [List.length_map, ← HLL.out, ← HTK.out]; exact htk) h
          have := hh.out.tot
          omega
        by_cases he : er = 0
        · subst he
          obtain ⟨d, hpd, htd, hnd⟩ : ∃ d, partD (ptV y) ((st.map Dm.d).drop F) = .ok d ∧ t = d.t ∧ NLst wc (.slice xa xn xc) d.nums := by
            revert hm
            cases partD (ptV y) ((st.map Dm.d).drop F) with
            | error z => exact fun h => absurd h.1.symm h.2
            | ok d => exact fun h => ⟨d, rfl, h.2⟩
          subst htd
          obtain ⟨nw, hnw⟩ : ∃ nw : Dm, nw = ⟨d, xa, xn, xc⟩ := ⟨_, rfl⟩
          rw [hpd] at hms
          have hms : mStep partD (ptV y) (st.map Dm.d) = .ok ((st.take F ++ [nw]).map Dm.d) := by
            rw [hms, List.map_append, dmap_take, hnw]; rfl
          have HND := hide (hst.trans hms)
          have HNT := hide (HMT.out _ hms)
          have HNN : Hid (∀ z ∈ st.take F ++ [nw], NLst wc z.v z.d.nums) := fun z hz => by
            rcases List.mem_append.1 hz with h | h
            · exact (NS2.out z (List.mem_of_mem_take h)).below HBc.out (Nat.le_refl _)
            · rw [List.mem_singleton.1 h, hnw]; exact hnd
          have HFL : Hid ((st.take F ++ [nw]).length = F + 1) := by
            show _ = _
            rw [List.length_append, List.length_take, ← HLL.out, Nat.min_eq_left hFl]; rfl
          have HTL : Hid ((st.take F).length = F) := by show _ = _; rw [List.length_take, ← HLL.out, Nat.min_eq_left hFl]
          have OC : Hid (wc.ownsRow (w.heap.size + 1) 85 2 (.slice da L dcap) L (dmC st)) := own_on O2.out HBc.out
          obtain ⟨ta, tcap, htv, hOT⟩ := dm_to (st := st) (by have := OC.out; rwa [HLL.out] at this) F (by rw [← HLL.out]; exact hFl)
          rw [← HLL.out] at htv
          have OT : Hid (wc.ownsRow (w.heap.size + 1) 85 2 (.slice ta F tcap) F (dmC (st.take F))) := hOT
          have HNW := hide hnw
          clear hm hst hms hpd hnd hnw hOT HMT HM HSN HQ HKL hov O2 NS2 HR2
          go_wp2_with fail
          have b0 : Below wc.heap.size wc wc.drew := (Below.refl _ _).drew
          have HT : Hid (∀ W, Below wc.heap.size wc W → W.cell? ⟨Rr, 0, none⟩ = some (.int .i64 d.t) ∧ W.cell? ⟨Rr, 1, none⟩ = some (.slice xa xn xc)) := fun W hb => by
            have q := (hb.block _ (Array.getElem?_eq_some_iff.1 HRr.out).1).trans HRr.out
            exact ⟨by rw [Lib.cell_of_heap q]; rfl, by rw [Lib.cell_of_heap q]; rfl⟩
          refine wp_region_held (S := fun W => W.cell? ⟨Rr, 0, none⟩ = some (.int .i64 d.t) ∧ W.cell? ⟨Rr, 1, none⟩ = some (.slice xa xn xc)) (by kernel_rfl) ?_
          show wpAnyH _ _ _ _ _ _ _ _ wc.drew
          refine tkH 1 (.slice da L dcap) (HT.out _ b0) ?_
          refine tkH 2 (.int .i64 (F : Int)) (HT.out _ b0) ?_
          refine tkH 3 (.slice ta F tcap) (HT.out _ b0) ?_
          refine tkH 5 (.agg #[.int .i64 d.t, .slice xa xn xc]) (HT.out _ b0) ?_
          try simp only [Act.put, List.setIfInBounds_toArray, List.set_cons_zero, List.set_cons_succ]
          refine rd2 0 6 (fun K hK => ?_) (fun K hK => ?_)
          · go_simp
            have b1 : Below wc.heap.size wc (wc.drew.alloc (.cells #[] 85)) := b0.alloc b0.size _
            refine hK.out _ _ (HT.out _ b1) (fun _ => ?_)
            clear hK K
            have own0 : (wc.drew.alloc (.cells #[] 85)).ownsRow wc.heap.size 85 2 (.slice (some ⟨wc.drew.heap.size, 0, none⟩) 0 0) 0 [] := World.ownsRow_lit (e := 85) (size := 2) wc.drew #[] 0 (Nat.le_refl _) (by decide) rfl
            try simp only [Act.put, List.setIfInBounds_toArray, List.set_cons_zero, List.set_cons_succ]
            refine rd2 4 6 (fun K hK => ?_) (fun K hK => ?_)
            · obtain ⟨v1, w1, hr1, ho1, hg1⟩ := run_append_dms (wc.drew.alloc (.cells #[] 85)) wc.heap.size 110 0 (.slice (some ⟨wc.heap.size, 0, none⟩) 0 0) [] own0 (w.heap.size + 1) (.slice ta F tcap) (st.take F) (by rw [HTL.out]; exact own_on OT.out b1) (by rw [HTL.out]; omega) b1.size
              have b2 : Below wc.heap.size wc w1 := b1.grown hg1 b1.size (fun k hk => (own0.lt k hk).1)
              rw [HTL.out, Nat.zero_add, List.nil_append] at ho1
              refine wp_app _ _ 110 rfl _ _ v1 w1 (by rfl) (by rfl) hr1 ?_
              refine hK.out _ _ (HT.out _ b2) (fun _ => ?_)
              clear hK K
              try simp only [Act.put, List.setIfInBounds_toArray, List.set_cons_zero, List.set_cons_succ]
              refine rdH 6 (fun K hK => ?_)
              go_simp
              have b3 : Below wc.heap.size wc (w1.alloc (.cells #[.int .i64 d.t, .slice xa xn xc] 85)) := b2.alloc b2.size _
              refine hK.out _ _ (HT.out _ b3) (fun _ => ?_)
              clear hK K
              have own1 : (w1.alloc (.cells #[.int .i64 d.t, .slice xa xn xc] 85)).ownsRow wc.heap.size 85 2 v1 F (dmC (st.take F)) := ho1.alloc _
              have hEE := own_one_dm (x := nw) (w := (w1.alloc (.cells #[.int .i64 d.t, .slice xa xn xc] 85))) (E := w1.heap.size) (by rw [HNW.out]; exact heap_alloc_new w1 (.cells #[.int .i64 d.t, .slice xa xn xc] 85))
              obtain ⟨v2, w8, hr2, ho2, hg2⟩ := run_append_dms (w1.alloc (.cells #[.int .i64 d.t, .slice xa xn xc] 85)) wc.heap.size 110 F v1 (dmC (st.take F)) own1 w1.heap.size (.slice (some ⟨w1.heap.size, 0, none⟩) 1 1) [nw] hEE (by show F + 1 ≤ _; omega) b3.size
              have b8 : Below wc.heap.size wc w8 := b3.grown hg2 b3.size (fun k hk => (own1.lt k hk).1)
              try simp only [Act.put, List.setIfInBounds_toArray, List.set_cons_zero, List.set_cons_succ]
              refine rdH 7 (fun K hK => ?_)
              refine wp_app _ _ 110 rfl _ _ v2 w8 (by rfl) (by rfl) hr2 ?_
              refine hK.out _ _ (HT.out _ b8) (fun _ => ?_)
              clear hK K
              try simp only [Act.put, List.setIfInBounds_toArray, List.set_cons_zero, List.set_cons_succ]
              refine rdH 8 (fun K hK => ?_)
              go_simp
              refine hK.out _ _ (HT.out _ b8) (fun _ => ?_)
              clear hK K
              try simp only [Act.put, List.setIfInBounds_toArray, List.set_cons_zero, List.set_cons_succ]
              refine wpAnyH_done (by kernel_rfl) ?_ _
              have HFIN : Hid (RkR w w8 v2 (st.take F ++ [nw]) (k + 1) (x.map ptV)) := by
                refine ⟨(b8.block _ (Array.getElem?_eq_some_iff.1 HRc.out).1).trans HRc.out, ?_, ?_, fun z hz => (HNN.out z hz).below b8 (Nat.le_refl _), HNT.out, HND.out, BWc.out.trans (b8.mono BWc.out.size)⟩
                · rw [HFL.out, dmC_append]
                  exact own_lower ho2 (by have := (Array.getElem?_eq_some_iff.1 HRc.out).1; omega)
                · rw [HFL.out]; omega
              clear ho2 hg2 hr2 hEE own1 HT b8
              go_wp2
              go_roundw
              case rel => exact ⟨k + 1, st.take F ++ [nw], _, by omega, by go_num, rfl, HFIN.out⟩
              case measure => simp [intOf]; omega
            · go_simp
              have b2 : Below wc.heap.size wc ((wc.drew.alloc (.cells #[] 85)).alloc (.cells #[.int .i64 d.t, .slice xa xn xc] 85)) := b1.alloc b1.size _
              refine hK.out _ _ (HT.out _ b2) (fun _ => ?_)
              clear hK K
              have own9 : ((wc.drew.alloc (.cells #[] 85)).alloc (.cells #[.int .i64 d.t, .slice xa xn xc] 85)).ownsRow wc.heap.size 85 2 (.slice (some ⟨wc.heap.size, 0, none⟩) 0 0) 0 [] := own0.alloc _
              have hE : ((wc.drew.alloc (.cells #[] 85)).alloc (.cells #[.int .i64 d.t, .slice xa xn xc] 85)).heap[wc.heap.size + 1]? = some (.cells #[.int .i64 d.t, .slice xa xn xc] 85) := by have := heap_alloc_new (wc.drew.alloc (.cells #[] 85)) (.cells #[.int .i64 d.t, .slice xa xn xc] 85); rw [World.size_alloc] at this; exact this
              try simp only [Act.put, List.setIfInBounds_toArray, List.set_cons_zero, List.set_cons_succ]
              refine rdH 4 (fun K hK => ?_)
              obtain ⟨v1, w1, hr1, ho1, hg1⟩ := run_append_dms ((wc.drew.alloc (.cells #[] 85)).alloc (.cells #[.int .i64 d.t, .slice xa xn xc] 85)) wc.heap.size 110 0 (.slice (some ⟨wc.heap.size, 0, none⟩) 0 0) [] own9 (w.heap.size + 1) (.slice ta F tcap) (st.take F) (by rw [HTL.out]; exact own_on OT.out b2) (by rw [HTL.out]; omega) b2.size
              have b3 : Below wc.heap.size wc w1 := b2.grown hg1 b2.size (fun k hk => (own9.lt k hk).1)
              rw [HTL.out, Nat.zero_add, List.nil_append] at ho1
              refine wp_app _ _ 110 rfl _ _ v1 w1 (by rfl) (by rfl) hr1 ?_
              refine hK.out _ _ (HT.out _ b3) (fun _ => ?_)
              clear hK K
              have hE1 : w1.heap[wc.heap.size + 1]? = some (.cells #[.int .i64 d.t, .slice xa xn xc] 85) := (hg1.block (wc.heap.size + 1) (Array.getElem?_eq_some_iff.1 hE).1 (by simp [Value.ownBlock])).trans hE
              have hEE := own_one_dm (x := nw) (w := w1) (E := (wc.heap.size + 1)) (by rw [HNW.out]; exact hE1)
              obtain ⟨v2, w8, hr2, ho2, hg2⟩ := run_append_dms w1 wc.heap.size 110 F v1 (dmC (st.take F)) ho1 (wc.heap.size + 1) (.slice (some ⟨(wc.heap.size + 1), 0, none⟩) 1 1) [nw] hEE (by show F + 1 ≤ _; omega) b3.size
              have b8 : Below wc.heap.size wc w8 := b3.grown hg2 b3.size (fun k hk => (ho1.lt k hk).1)
              try simp only [Act.put, List.setIfInBounds_toArray, List.set_cons_zero, List.set_cons_succ]
              refine rdH 7 (fun K hK => ?_)
              refine wp_app _ _ 110 rfl _ _ v2 w8 (by rfl) (by rfl) hr2 ?_
              refine hK.out _ _ (HT.out _ b8) (fun _ => ?_)
              clear hK K
              try simp only [Act.put, List.setIfInBounds_toArray, List.set_cons_zero, List.set_cons_succ]
              refine rdH 8 (fun K hK => ?_)
              go_simp
              refine hK.out _ _ (HT.out _ b8) (fun _ => ?_)
              clear hK K
              try simp only [Act.put, List.setIfInBounds_toArray, List.set_cons_zero, List.set_cons_succ]
              refine wpAnyH_done (by kernel_rfl) ?_ _
              have HFIN : Hid (RkR w w8 v2 (st.take F ++ [nw]) (k + 1) (x.map ptV)) := by
                refine ⟨(b8.block _ (Array.getElem?_eq_some_iff.1 HRc.out).1).trans HRc.out, ?_, ?_, fun z hz => (HNN.out z hz).below b8 (Nat.le_refl _), HNT.out, HND.out, BWc.out.trans (b8.mono BWc.out.size)⟩
                · rw [HFL.out, dmC_append]
                  exact own_lower ho2 (by have := (Array.getElem?_eq_some_iff.1 HRc.out).1; omega)
                · rw [HFL.out]; omega
              clear ho2 hg2 hr2 hEE ho1 HT b8
              go_wp2
              go_roundw
              case rel => exact ⟨k + 1, st.take F ++ [nw], _, by omega, by go_num, rfl, HFIN.out⟩
              case measure => simp [intOf]; omega
          · go_simp
            have b1 : Below wc.heap.size wc (wc.drew.alloc (.cells #[.int .i64 d.t, .slice xa xn xc] 85)) := b0.alloc b0.size _
            refine hK.out _ _ (HT.out _ b1) (fun _ => ?_)
            clear hK K
            try simp only [Act.put, List.setIfInBounds_toArray, List.set_cons_zero, List.set_cons_succ]
            refine rdH 0 (fun K hK => ?_)
            go_simp
            have b2 : Below wc.heap.size wc ((wc.drew.alloc (.cells #[.int .i64 d.t, .slice xa xn xc] 85)).alloc (.cells #[] 85)) := b1.alloc b1.size _
            refine hK.out _ _ (HT.out _ b2) (fun _ => ?_)
            clear hK K
            have own0 : ((wc.drew.alloc (.cells #[.int .i64 d.t, .slice xa xn xc] 85)).alloc (.cells #[] 85)).ownsRow wc.heap.size 85 2 (.slice (some ⟨wc.heap.size + 1, 0, none⟩) 0 0) 0 [] := by
              have := World.ownsRow_lit (base := wc.heap.size) (e := 85) (size := 2) (wc.drew.alloc (.cells #[.int .i64 d.t, .slice xa xn xc] 85)) #[] 0 (by rw [World.size_alloc]; show wc.heap.size ≤ wc.heap.size + 1; omega) (by decide) rfl
              rw [World.size_alloc] at this; exact this
            have hE : ((wc.drew.alloc (.cells #[.int .i64 d.t, .slice xa xn xc] 85)).alloc (.cells #[] 85)).heap[wc.heap.size]? = some (.cells #[.int .i64 d.t, .slice xa xn xc] 85) := by rw [Lib.alloc_old _ _ _ (by rw [World.size_alloc]; show wc.heap.size < wc.heap.size + 1; omega)]; exact heap_alloc_new wc.drew (.cells #[.int .i64 d.t, .slice xa xn xc] 85)
            try simp only [Act.put, List.setIfInBounds_toArray, List.set_cons_zero, List.set_cons_succ]
            refine rdH 4 (fun K hK => ?_)
            obtain ⟨v1, w1, hr1, ho1, hg1⟩ := run_append_dms ((wc.drew.alloc (.cells #[.int .i64 d.t, .slice xa xn xc] 85)).alloc (.cells #[] 85)) wc.heap.size 110 0 (.slice (some ⟨(wc.heap.size + 1), 0, none⟩) 0 0) [] own0 (w.heap.size + 1) (.slice ta F tcap) (st.take F) (by rw [HTL.out]; exact own_on OT.out b2) (by rw [HTL.out]; omega) b2.size
            have b3 : Below wc.heap.size wc w1 := b2.grown hg1 b2.size (fun k hk => (own0.lt k hk).1)
            rw [HTL.out, Nat.zero_add, List.nil_append] at ho1
            refine wp_app _ _ 110 rfl _ _ v1 w1 (by rfl) (by rfl) hr1 ?_
            refine hK.out _ _ (HT.out _ b3) (fun _ => ?_)
            clear hK K
            have hE1 : w1.heap[wc.heap.size]? = some (.cells #[.int .i64 d.t, .slice xa xn xc] 85) := (hg1.block wc.heap.size (Array.getElem?_eq_some_iff.1 hE).1 (by simp [Value.ownBlock])).trans hE
            have hEE := own_one_dm (x := nw) (w := w1) (E := wc.heap.size) (by rw [HNW.out]; exact hE1)
            obtain ⟨v2, w8, hr2, ho2, hg2⟩ := run_append_dms w1 wc.heap.size 110 F v1 (dmC (st.take F)) ho1 wc.heap.size (.slice (some ⟨wc.heap.size, 0, none⟩) 1 1) [nw] hEE (by show F + 1 ≤ _; omega) b3.size
            have b8 : Below wc.heap.size wc w8 := b3.grown hg2 b3.size (fun k hk => (ho1.lt k hk).1)
            try simp only [Act.put, List.setIfInBounds_toArray, List.set_cons_zero, List.set_cons_succ]
            refine rdH 7 (fun K hK => ?_)
            refine wp_app _ _ 110 rfl _ _ v2 w8 (by rfl) (by rfl) hr2 ?_
            refine hK.out _ _ (HT.out _ b8) (fun _ => ?_)
            clear hK K
            try simp only [Act.put, List.setIfInBounds_toArray, List.set_cons_zero, List.set_cons_succ]
            refine rdH 8 (fun K hK => ?_)
            go_simp
            refine hK.out _ _ (HT.out _ b8) (fun _ => ?_)
            clear hK K
            try simp only [Act.put, List.setIfInBounds_toArray, List.set_cons_zero, List.set_cons_succ]
            refine wpAnyH_done (by kernel_rfl) ?_ _
            have HFIN : Hid (RkR w w8 v2 (st.take F ++ [nw]) (k + 1) (x.map ptV)) := by
              refine ⟨(b8.block _ (Array.getElem?_eq_some_iff.1 HRc.out).1).trans HRc.out, ?_, ?_, fun z hz => (HNN.out z hz).below b8 (Nat.le_refl _), HNT.out, HND.out, BWc.out.trans (b8.mono BWc.out.size)⟩
              · rw [HFL.out, dmC_append]
                exact own_lower ho2 (by have := (Array.getElem?_eq_some_iff.1 HRc.out).1; omega)
              · rw [HFL.out]; omega
            clear ho2 hg2 hr2 hEE ho1 HT b8
            go_wp2
            go_roundw
            case rel => exact ⟨k + 1, st.take F ++ [nw], _, by omega, by go_num, rfl, HFIN.out⟩
            case measure => simp [intOf]; omega
        · have HE : Hid (R = .error er ∧ er ≠ 0) := by
            refine ⟨?_, he⟩
            revert hm hms
            cases partD (ptV y) ((st.map Dm.d).drop F) with
            | ok d => exact fun h => absurd h.1 he
            | error z =>
              intro h hms
              rw [HRD.out, mrun_err (k := k + 1) (hst.trans hms), h.1]
          have he' : (er != 0) = true := by rw [bne_iff_ne]; exact he
          have r0 : wc.cell? ⟨w.heap.size, 0, none⟩ = some (.int .i64 0) := by rw [Lib.cell_of_heap HRc.out]; rfl
          have r1 : wc.cell? ⟨w.heap.size, 1, none⟩ = some (.slice none 0 0) := by rw [Lib.cell_of_heap HRc.out]; rfl
          have rf : ∀ j, wc.frozen? ⟨w.heap.size, j, none⟩ = false := fun j => Lib.frozen_of_heap HRc.out j
          clear hm hms hst he hov
          go_wp2
          refine bodyPost_ret (v := .tuple #[.agg #[.int .i64 0, .slice none 0 0], .int .i64 er]) (by simp [results, Tryz.results46, go_sem, *]) rfl ⟨⟨0, er, _, _, _, rfl, ?_⟩, ?_⟩
          · rw [HE.out.1]; exact ⟨rfl, HE.out.2, rfl, NLst.nil _⟩
          · exact set2 BWc.out (Nat.le_refl _) _ _
    · obtain rfl : k = N := by omega
      have HD2 : Hid (mRun partD (x.map ptV) [] = .ok (st.map Dm.d)) := by
        show _ = _
        have := hh.out.run
        rwa [List.take_of_length_le (by rw [List.length_map, ← HN.out]; omega)] at this
      obtain ⟨⟨⟨t0, l0⟩, a0, n0', c0⟩, sr, hst⟩ : ∃ k0 sr, st = k0 :: sr := by
        have := run_ne HD2.out (.inr HNE.out)
        match st, this with
        | [], h => exact absurd rfl h
        | k0 :: sr, _ => exact ⟨k0, sr, rfl⟩
      have HRR : Hid (R = endD ⟨t0, l0⟩) := by
        show _ = _
        rw [HRD.out, HD2.out, hst]; rfl
      have HO := hh.out.own
      have HNL : NLst wr (.slice a0 n0' c0) l0 := hh.out.ns ⟨⟨t0, l0⟩, a0, n0', c0⟩ (by rw [hst]; simp)
      have hl0 : l0.length ≤ 500 := by
        have := tot_mem (l := st.map Dm.d) (d := ⟨t0, l0⟩) (by rw [hst]; simp)
        have h2 := hh.out.tot
        have : l0.length ≤ totD (st.map Dm.d) := this
        omega
      have HRs : Hid (wr.heap[w.heap.size]? = some (.cells #[.int .i64 0, .slice none 0 0] 85)) := hh.out.res
      obtain ⟨g, hg⟩ : ∃ g, da = some ⟨g, 0, none⟩ := by
        rcases HO.2 with ⟨_, h0⟩ | ⟨g, _, _, h1, _⟩
        · rw [hst] at h0; cases h0
        · injection h1 with e1 e2 e3; exact ⟨g, e1⟩
      subst hg
      obtain ⟨c1', c2'⟩ := dm_at HO 0 ⟨⟨t0, l0⟩, a0, n0', c0⟩ (by rw [hst]; rfl)
      have c1 : wr.cell? ⟨g, 0, none⟩ = some (.int .i64 t0) := c1'
      have c2 : wr.cell? ⟨g, 1, none⟩ = some (.slice a0 n0' c0) := c2'
      clear c1' c2'
      have hL1 : 1 ≤ st.length := by rw [hst]; simp
      have HS5 : st.length ≤ 500 := by omega
      have zz : w.heap.size < wr.heap.size := (Array.getElem?_eq_some_iff.1 HRs.out).1
      obtain ⟨L, hLL⟩ : ∃ L, L = st.length := ⟨_, rfl⟩
      rw [← hLL] at hL1 HS5 ⊢
      have L1 : (0 : Int) < (L : Int) := by omega
      clear hLL hst HD2 hdc hdl hk HO hh HM HSN
      obtain ⟨X, hX⟩ : ∃ X, X = wr.alloc (.cells #[.int .i64 t0, .slice a0 n0' c0] 85) := ⟨_, rfl⟩
      have HBX : Hid (Below w.heap.size w X) := by rw [hX]; exact HB.out.alloc HB.out.size _
      have HRX : Hid (X.heap[w.heap.size]? = some (.cells #[.int .i64 0, .slice none 0 0] 85)) := by show _ = _; rw [hX, Lib.alloc_old wr _ _ zz]; exact HRs.out
      have HNX : Hid (NLst X (.slice a0 n0' c0) l0) := by rw [hX]; exact HNL.below ((Below.refl wr.heap.size wr).alloc (Nat.le_refl _) _) (Nat.le_refl _)
      have m48 := fit_any (.slice a0 n0' c0) l0 3 X HNX.out (by omega)
      have HX := hide hX
      have HGX : Hid (X.heap[wr.heap.size]? = some (.cells #[.int .i64 t0, .slice a0 n0' c0] 85)) := by show _ = _; rw [hX]; exact heap_alloc_new wr _
      have hne : Hid (wr.heap.size ≠ w.heap.size) := fun h => by omega
      have r0 : X.cell? ⟨w.heap.size, 0, none⟩ = some (.int .i64 0) := by rw [Lib.cell_of_heap HRX.out]; rfl
      have r1 : X.cell? ⟨w.heap.size, 1, none⟩ = some (.slice none 0 0) := by rw [Lib.cell_of_heap HRX.out]; rfl
      have rf : ∀ j, X.frozen? ⟨w.heap.size, j, none⟩ = false := fun j => Lib.frozen_of_heap HRX.out j
      have g0 : X.cell? ⟨wr.heap.size, 0, none⟩ = some (.int .i64 t0) := by rw [Lib.cell_of_heap HGX.out]; rfl
      have g1 : X.cell? ⟨wr.heap.size, 1, none⟩ = some (.slice a0 n0' c0) := by rw [Lib.cell_of_heap HGX.out]; rfl
      have HNR := hide HNL
      clear hX HNL
      by_cases h0 : t0 = 0
      · subst h0
        cases hf : fitN l0 3
        · rw [hf] at m48
          have HE : Hid (R = .error 1) := by show _ = _; rw [HRR.out]; unfold endD; rw [if_pos ⟨rfl, hf⟩]
          clear hf HRR
          go_wp2_with fail
          rw [← HX.out]
          refine m48.mono ?_
          rintro e X2 ⟨rfl, rfl⟩
          go_wp2
          refine bodyPost_ret (v := .tuple #[.agg #[.int .i64 0, .slice none 0 0], .int .i64 1]) (by simp [results, Tryz.results46, go_sem, *]) rfl ⟨⟨0, 1, _, _, _, rfl, ?_⟩, ?_⟩
          · rw [HE.out]; exact ⟨rfl, by decide, rfl, NLst.nil _⟩
          · exact set2 HBX.out (Nat.le_refl _) _ _
        · rw [hf] at m48
          have HE : Hid (R = .ok ⟨0, l0⟩) := by show _ = _; rw [HRR.out]; unfold endD; rw [if_neg (fun h => absurd (hf.symm.trans h.2) (by decide))]
          clear hf HRR
          go_wp2_with fail
          rw [← HX.out]
          refine m48.mono ?_
          rintro e X2 ⟨rfl, rfl⟩
          go_wp2
          refine bodyPost_ret (v := .tuple #[.agg #[.int .i64 0, .slice a0 n0' c0], .int .i64 0]) (by simp [results, Tryz.results46, go_sem, *]) rfl ⟨⟨0, 0, _, _, _, rfl, ?_⟩, ?_⟩
          · rw [HE.out]; exact ⟨rfl, rfl, HNX.out.set HRX.out (by decide) _ _⟩
          · exact set2 HBX.out (Nat.le_refl _) _ _
      · have HE : Hid (R = .ok ⟨t0, l0⟩) := by show _ = _; rw [HRR.out]; unfold endD; rw [if_neg (fun h => h0 h.1)]
        have h0' : (t0 == 0) = false := by rw [beq_eq_false_iff_ne]; exact h0
        clear HRR m48 h0 r0 r1 rf g0 g1
        have r0 : wr.cell? ⟨w.heap.size, 0, none⟩ = some (.int .i64 0) := by rw [Lib.cell_of_heap HRs.out]; rfl
        have r1 : wr.cell? ⟨w.heap.size, 1, none⟩ = some (.slice none 0 0) := by rw [Lib.cell_of_heap HRs.out]; rfl
        have rf : ∀ j, wr.frozen? ⟨w.heap.size, j, none⟩ = false := fun j => Lib.frozen_of_heap HRs.out j
        have zs : ∀ x y : Value, w.heap.size ≤ ((wr.setCell ⟨w.heap.size, 0, none⟩ x).setCell ⟨w.heap.size, 1, none⟩ y).heap.size := fun x y => by simp; omega
        go_wp2
        refine bodyPost_ret (v := .tuple #[.agg #[.int .i64 t0, .slice a0 n0' c0], .int .i64 0]) (by simp [results, Tryz.results46, go_sem, *]) rfl ⟨⟨t0, 0, _, _, _, rfl, ?_⟩, ?_⟩
        · rw [HE.out]; exact ⟨rfl, rfl, (HNR.out.set HRs.out (by decide) _ _).below ((Below.refl _ _).alloc (Nat.le_refl _) _) (Nat.le_refl _)⟩
        · exact (set2 HB.out (Nat.le_refl _) _ _).alloc (zs _ _) _
end Go.Proofs.YtldjiieckddhkaaGreatDoor
