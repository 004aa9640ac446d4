/- typed.asked, typed.Type, typed.Fits. | fold: for which type a value is asked; what an operation makes of numbers. | fold.asked, fold.operated. -/
import Derived.Test.YtldjiieckddhkaaGreatDoorMg31
namespace Go.Proofs.YtldjiieckddhkaaGreatDoor
open Go.RowKit
def CapOk (v : Value) : Prop := ∀ a n cp, v = .slice a n cp → n ≤ cp
theorem may_vOk {vs : List Vr} (h : mayV vs = 0) : vOk vs := fun v hv => by
  unfold mayV at h
  split at h
  · exact absurd h (by decide)
  · rename_i hn
    cases e : vs.all varB with
    | false => exact absurd e hn
    | true => exact List.all_eq_true.1 e v hv
set_option maxRecDepth 100000 in
set_option maxHeartbeats 1600000 in
theorem askedT_any (v xv : Value) (l : List Vv) (x : List Pv) (w : World) (hL : VLst w v l) (hlen : l.length ≤ 4398046510976) (hcp : CapOk v) (hX : PLst w xv x) (hxl : x.length ≤ 4398046510976) (hg : Glo w) :
    Calls Tryz.prog 31 #[v, xv] w fun e w' => (∃ k e', e = .returned (.tuple #[.agg #[.int .i64 k.typ, .int .i64 k.lo, .int .i64 k.hi], .int .i64 e']) ∧ KOut (askP (l.map vrV) (x.map ptV)) k e') ∧ Below w.heap.size w w' := by
  have HAP : Hid (askP (l.map vrV) (x.map ptV) = if mayV (l.map vrV) ≠ 0 then .error (mayV (l.map vrV)) else if checkP (x.map ptV) ≠ 0 then .error (checkP (x.map ptV)) else kindP (l.map vrV) (x.map ptV)) := rfl
  generalize askP (l.map vrV) (x.map ptV) = R at *
  obtain ⟨W0, hW0⟩ : ∃ W0, W0 = w.alloc (.cells #[.int .i64 0, .int .i64 0, .int .i64 0] 52) := ⟨_, rfl⟩
  have B0 : Below w.heap.size w W0 := by rw [hW0]; exact (Below.refl w.heap.size w).alloc (Nat.le_refl _) _
  have hz : W0.heap.size = w.heap.size + 1 := by rw [hW0]; simp
  have hb0 : W0.heap[w.heap.size]? = some (.cells #[.int .i64 0, .int .i64 0, .int .i64 0] 52) := by rw [hW0]; exact heap_alloc_new w _
  have cm := mayBe9_any v l W0 (hL.below B0 (Nat.le_refl _)) hlen hcp (hg.below B0 hg.lt)
  have G : Hid (∀ W, Below (w.heap.size + 1) W0 W → Below w.heap.size w W ∧ VLst W v l ∧ PLst W xv x ∧ Glo W ∧ W.cell? ⟨w.heap.size, 0, none⟩ = some (.int .i64 0) ∧ W.cell? ⟨w.heap.size, 1, none⟩ = some (.int .i64 0) ∧ W.cell? ⟨w.heap.size, 2, none⟩ = some (.int .i64 0) ∧ (∀ j, W.frozen? ⟨w.heap.size, j, none⟩ = false)) := fun W hW =>
    have hb := B0.trans (hW.mono (by omega))
    have q := (hW.block _ (show w.heap.size < _ by omega)).trans hb0
    ⟨hb, hL.below hb (Nat.le_refl _), hX.below hb (Nat.le_refl _), hg.below hb hg.lt, by rw [Lib.cell_of_heap q]; rfl, by rw [Lib.cell_of_heap q]; rfl, by rw [Lib.cell_of_heap q]; rfl, fun j => Lib.frozen_of_heap q j⟩
  obtain ⟨va, vn, vcp, rfl⟩ : ∃ a n cp, v = .slice a n cp := by obtain ⟨a, b, off, cap, h, -⟩ := hL; exact ⟨a, _, cap, h⟩
  obtain ⟨xa, xn, xcp, rfl⟩ : ∃ a n cp, xv = .slice a n cp := by obtain ⟨a, b, off, cap, h, -⟩ := hX; exact ⟨a, _, cap, h⟩
  have HW0 := hide hW0
  have HZ := hide hz
  have HLX := hide (And.intro hlen hxl)
  clear hL hX hg hcp B0 hz hb0 hW0 hlen hxl
  obtain ⟨M, hM⟩ : ∃ M, M = mayV (l.map vrV) := ⟨_, rfl⟩
  rw [← hM] at cm
  have HMV := hide hM
  clear hM
  go_enter Tryz.func31, Tryz.ntmps31
  go_wp2_with fail
  rw [← HW0.out]
  refine cm.mono ?_
  rintro e W1 ⟨rfl, hb⟩
  have B1 := hide (show Below (w.heap.size + 1) W0 W1 from HZ.out ▸ hb)
  clear cm hb HW0
  obtain ⟨b1, v1, x1, g1, r0, r1, r2, rf⟩ := G.out W1 B1.out
  have HB1 := hide b1
  have cc := check_any _ x W1 x1 HLX.out.2 g1
  clear v1 x1 g1 b1
  by_cases hm : M = 0
  · subst hm
    have hvok := hide (may_vOk HMV.out.symm)
    obtain ⟨C, hC⟩ : ∃ C, C = checkP (x.map ptV) := ⟨_, rfl⟩
    rw [← hC] at cc
    have HC := hide hC
    clear hC
    have HR : Hid (R = if C ≠ 0 then .error C else kindP (l.map vrV) (x.map ptV)) := by show _ = _; rw [HAP.out, ← HMV.out, if_neg (by simp), HC.out]
    go_wp2_with fail
    refine cc.mono ?_
    rintro e W2 ⟨rfl, hb⟩
    have B2 := hide (B1.out.trans (hb.mono (HZ.out ▸ B1.out.size)))
    clear cc hb r0 r1 r2 rf
    obtain ⟨b2, v2, x2, g2, r0, r1, r2, rf⟩ := G.out W2 B2.out
    have HB2 := hide b2
    by_cases hc : C = 0
    · subst hc
      obtain ⟨ex, hwell, hflat, -, -, hl5⟩ := check_tree HC.out.symm
      have hmay : ∀ p ∈ x.map ptV, mayP p = true := by
        have h := HC.out.symm
        unfold checkP at h
        rw [if_neg (by omega)] at h
        split at h
        · exact absurd h (by decide)
        · rename_i hn
          cases e : (x.map ptV).all mayP with
          | false => exact absurd e hn
          | true => exact List.all_eq_true.1 e
      have hwf : Wf (x.map ptV) 0 := by rw [← hflat]; exact wf_tree hwell
      have h1 : 1 ≤ x.length := by have := flat_pos ex; rw [hflat, List.length_map] at this; exact this
      rw [List.length_map] at hl5
      have ck := kindOf_any _ _ l x W2 v2 HLX.out.1 hvok.out x2 g2 hl5 hmay hwf h1
      have HR2 : Hid (R = kindP (l.map vrV) (x.map ptV)) := by show _ = _; rw [HR.out, if_neg (by simp)]
      generalize kindP (l.map vrV) (x.map ptV) = K at *
      clear v2 x2 g2 b2 r0 r1 r2 rf hwell hflat hl5 hmay hwf h1
      go_wp2_with fail
      refine ck.mono ?_
      rintro e W3 ⟨⟨k, e', rfl, hk⟩, hb⟩
      have B3 := hide (B2.out.trans (hb.mono (HZ.out ▸ B2.out.size)))
      have HK := hide hk
      clear ck hb hk
      obtain ⟨b3, -, -, -, r0, r1, r2, rf⟩ := G.out W3 B3.out
      have HB3 := hide b3
      clear b3
      go_wp2
      refine bodyPost_ret (v := .tuple #[.agg #[.int .i64 k.typ, .int .i64 k.lo, .int .i64 k.hi], .int .i64 e']) (by simp [results, Tryz.results31, go_sem, *]) rfl ⟨⟨k, e', rfl, by rw [HR2.out]; exact HK.out⟩, ?_⟩
      exact set3 HB3.out (Nat.le_refl _) _ _ _
    · have hc' : (C != 0) = true := by rw [bne_iff_ne]; exact hc
      have HR2 : Hid (R = .error C ∧ C ≠ 0) := ⟨by rw [HR.out, if_pos hc], hc⟩
      clear hc v2 x2 g2 b2
      go_wp2
      refine bodyPost_ret (v := .tuple #[.agg #[.int .i64 0, .int .i64 0, .int .i64 0], .int .i64 C]) (by simp [results, Tryz.results31, go_sem, *]) rfl ⟨⟨kT 0, C, rfl, ?_⟩, ?_⟩
      · unfold KOut; rw [HR2.out.1]; exact ⟨rfl, HR2.out.2⟩
      · exact set3 HB2.out (Nat.le_refl _) _ _ _
  · have hm' : (M != 0) = true := by rw [bne_iff_ne]; exact hm
    have HR2 : Hid (R = .error M ∧ M ≠ 0) := ⟨by rw [HAP.out, ← HMV.out, if_pos hm], hm⟩
    clear hm cc
    go_wp2
    refine bodyPost_ret (v := .tuple #[.agg #[.int .i64 0, .int .i64 0, .int .i64 0], .int .i64 M]) (by simp [results, Tryz.results31, go_sem, *]) rfl ⟨⟨kT 0, M, rfl, ?_⟩, ?_⟩
    · unfold KOut; rw [HR2.out.1]; exact ⟨rfl, HR2.out.2⟩
    · exact set3 HB1.out (Nat.le_refl _) _ _ _
set_option maxRecDepth 100000 in
theorem typeT_any (v xv : Value) (l : List Vv) (x : List Pv) (w : World) (hL : VLst w v l) (hlen : l.length ≤ 4398046510976) (hcp : CapOk v) (hX : PLst w xv x) (hxl : x.length ≤ 4398046510976) (hg : Glo w) :
    Calls Tryz.prog 18 #[v, xv] w fun e w' => (∃ t e', e = .returned (.tuple #[.int .i64 t, .int .i64 e']) ∧ ∃ k, t = k.typ ∧ KOut (askP (l.map vrV) (x.map ptV)) k e') ∧ Below w.heap.size w w' := by
  have c := askedT_any v xv l x w hL hlen hcp hX hxl hg
  obtain ⟨va, vn, vcp, rfl⟩ : ∃ a n cp, v = .slice a n cp := by obtain ⟨a, b, off, cap, h, -⟩ := hL; exact ⟨a, _, cap, h⟩
  obtain ⟨xa, xn, xcp, rfl⟩ : ∃ a n cp, xv = .slice a n cp := by obtain ⟨a, b, off, cap, h, -⟩ := hX; exact ⟨a, _, cap, h⟩
  clear hL hX hg hcp
  go_enter Tryz.func18, Tryz.ntmps18
  go_wp2_with fail
  refine c.mono ?_
  rintro e W1 ⟨⟨k, e', rfl, hk⟩, hb⟩
  have HK := hide hk
  have HB := hide (hb.alloc hb.size (.cells #[.int .i64 k.typ, .int .i64 k.lo, .int .i64 k.hi] 52))
  clear c hk hb
  go_wp2
  go_ret2
  exact ⟨⟨_, _, rfl, k, rfl, HK.out⟩, HB.out⟩
set_option maxRecDepth 100000 in
theorem fitsT_any (v xv : Value) (l : List Vv) (x : List Pv) (t : Int) (w : World) (hL : VLst w v l) (hlen : l.length ≤ 4398046510976) (hcp : CapOk v) (hX : PLst w xv x) (hxl : x.length ≤ 4398046510976) (hg : Glo w) :
    Calls Tryz.prog 23 #[v, xv, .int .i64 t] w fun e w' => e = .returned (.int .i64 (fitsP (l.map vrV) (x.map ptV) t)) ∧ Below w.heap.size w w' := by
  have c := askedT_any v xv l x w hL hlen hcp hX hxl hg
  have HFP : Hid (fitsP (l.map vrV) (x.map ptV) t = match askP (l.map vrV) (x.map ptV) with
    | .error e => e
    | .ok k => kFits k t) := rfl
  generalize fitsP (l.map vrV) (x.map ptV) t = R at *
  generalize askP (l.map vrV) (x.map ptV) = A at *
  obtain ⟨va, vn, vcp, rfl⟩ : ∃ a n cp, v = .slice a n cp := by obtain ⟨a, b, off, cap, h, -⟩ := hL; exact ⟨a, _, cap, h⟩
  obtain ⟨xa, xn, xcp, rfl⟩ : ∃ a n cp, xv = .slice a n cp := by obtain ⟨a, b, off, cap, h, -⟩ := hX; exact ⟨a, _, cap, h⟩
  have HG := hide hg
  clear hL hX hg hcp
  go_enter Tryz.func23, Tryz.ntmps23
  go_wp2_with fail
  refine c.mono ?_
  rintro e W1 ⟨⟨k, e', rfl, hk⟩, hb⟩
  have HK := hide hk
  have HB := hide (hb.alloc hb.size (.cells #[.int .i64 k.typ, .int .i64 k.lo, .int .i64 k.hi] 52))
  have cf := kfits_any k.typ k.lo k.hi t _ (HG.out.below HB.out HG.out.lt)
  clear c hk hb
  by_cases he : e' = 0
  · subst he
    have HR : Hid (R = kFits k t) := by
      show _ = _
      rw [HFP.out]
      have h := HK.out
      unfold KOut at h
      cases hA : A with
      | ok k' => rw [hA] at h; show kFits k' t = _; rw [h.2]
      | error er => rw [hA] at h; exact absurd rfl h.2
    go_wp2_with fail
    refine cf.mono ?_
    rintro e W2 ⟨rfl, hb⟩
    have HB2 := hide (HB.out.trans (hb.mono HB.out.size))
    clear cf hb
    go_wp2
    go_ret
    exact ⟨by rw [HR.out]; rfl, HB2.out⟩
  · have he' : (e' != 0) = true := by rw [bne_iff_ne]; exact he
    have HR : Hid (R = e') := by
      show _ = _
      rw [HFP.out]
      have h := HK.out
      unfold KOut at h
      cases hA : A with
      | ok k' => rw [hA] at h; exact absurd h.1 he
      | error er => rw [hA] at h; exact h.1.symm
    clear he cf
    go_wp2
    go_ret
    exact ⟨by rw [HR.out]; rfl, HB.out⟩
end Go.Proofs.YtldjiieckddhkaaGreatDoor
namespace Go.Proofs.YtldjiieckddhkaaGreatDoor
open Go.RowKit Go.Sort
/-- a slice that reads as a list of ints -/
def ILst (w : World) (v : Value) (l : List Int) : Prop :=
  ∃ (a : Option Addr) (b cap : Nat), v = .slice a l.length cap ∧ (0 < l.length → b < w.heap.size ∧ a = some ⟨b, 0, none⟩) ∧ ∀ i t, l[i]? = some t → w.cell? ⟨b, i, none⟩ = some (.int .i64 t)
theorem ILst.below {w w' : World} {v : Value} {l : List Int} (h : ILst w v l) (hb : Below w.heap.size w w') : ILst w' v l := by
  obtain ⟨a, b, cap, rfl, hb0, hI⟩ := h
  refine ⟨a, b, cap, rfl, fun h => ⟨Nat.lt_of_lt_of_le (hb0 h).1 hb.size, (hb0 h).2⟩, fun i x hx => ?_⟩
  have hlt : b < w.heap.size := (hb0 (by have := (List.getElem?_eq_some_iff.1 hx).1; omega)).1
  exact (hb.cell (p := ⟨b, _, none⟩) hlt).trans (hI i x hx)
set_option maxRecDepth 100000 in
set_option maxHeartbeats 1600000 in
theorem indexType_any (v : Value) (x : List Pv) (w : World) (hL : PLst w v x) (hlen : x.length ≤ 1000000) (hg : Glo w) : Calls Tryz.prog 84 #[v] w fun e w' => e = .returned (.int .i64 (idxT (x.map ptV))) ∧ Below w.heap.size w w' := by
  obtain ⟨a, b, off, cap, rfl, hA, hI⟩ := hL
  have HE : Hid (idxT (x.map ptV) = if (x.map ptV).all (fun p => !(decide (p.kind = 1)) || fit6 2 p.n) then 2 else 3) := rfl
  have HA := hide hA
  have HI := hide hI
  have HG := hide hg
  generalize idxT (x.map ptV) = R at *
  obtain ⟨N, hN⟩ : ∃ N, N = x.length := ⟨_, rfl⟩
  have HN := hide hN
  rw [← hN] at hlen ⊢
  have n5 : (N : Int) ≤ 1000000 := by omega
  have n0 : (0 : Int) ≤ (N : Int) := by omega
  clear hN hA hI hg hlen
  go_enter Tryz.func84, Tryz.ntmps84
  go_wp2_with fail
  go_loopw [7] (fun i wr => ∃ (k : Nat), k ≤ N ∧ i = .int .i64 (k : Int) ∧ Hid ((∀ p ∈ (x.map ptV).take k, (!(decide (p.kind = 1)) || fit6 2 p.n) = true) ∧ Below w.heap.size w wr)) (fun i _ => N - (intOf i).toNat)
  case atStart => exact ⟨0, by omega, rfl, fun p hp => by simp at hp, Below.refl _ _⟩
  case round =>
    obtain ⟨k, hk, rfl, hh⟩ := hrel
    have HM := hide hh.out.1
    have HB := hide hh.out.2
    clear hh
    by_cases hlt : k < N
    · have j1 : (k : Int) < (N : Int) := by omega
      have j0 : (0 : Int) ≤ (k : Int) := by omega
      obtain ⟨y, hy⟩ : ∃ y, x[k]? = some y := ⟨_, List.getElem?_eq_getElem (by rw [← HN.out]; exact hlt)⟩
      have HY : Hid ((x.map ptV)[k]? = some (ptV y)) := by show _ = _; rw [List.getElem?_map, hy]; rfl
      obtain ⟨hbw, rfl⟩ := HA.out (by rw [← HN.out]; omega)
      obtain ⟨q0, q1, q2, q3, q4⟩ := HI.out k y hy
      have c0 := (HB.out.cell (p := ⟨b, off + k * 5, none⟩) hbw).trans q0
      have c1 := (HB.out.cell (p := ⟨b, off + k * 5 + 1, none⟩) hbw).trans q1
      have c2 := (HB.out.cell (p := ⟨b, off + k * 5 + 2, none⟩) hbw).trans q2
      have c3 := (HB.out.cell (p := ⟨b, off + k * 5 + 3, none⟩) hbw).trans q3
      have c4 := (HB.out.cell (p := ⟨b, off + k * 5 + 4, none⟩) hbw).trans q4
      clear q0 q1 q2 q3 q4 hy
      have B1 := hide (HB.out.alloc HB.out.size (.cells #[.int .i64 y.k, .int .i64 y.n, .int .i64 y.t, .string y.s, .string y.f] 38))
      have m2 := fits_all 2 y.n _ (HG.out.below B1.out HG.out.lt).span
      have go : ∀ q : Bool, Hid ((!(decide (y.k = 1)) || fit6 2 y.n) = q) → q = true → Hid (∀ p ∈ (x.map ptV).take (k + 1), (!(decide (p.kind = 1)) || fit6 2 p.n) = true) := fun q hq e p hp => by
        rw [List.take_add_one, HY.out, List.mem_append] at hp
        rcases hp with hp | hp
        · exact HM.out p hp
        · rw [List.mem_singleton.1 hp]; exact hq.out.trans e
      have GO := hide go
      clear go
      by_cases h1 : y.k = 1
      · have h1' : (y.k == 1) = true := by rw [h1]; rfl
        have HQ : Hid ((!(decide (y.k = 1)) || fit6 2 y.n) = fit6 2 y.n) := by show _ = _; rw [decide_eq_true h1]; rfl
        clear h1
        obtain ⟨FB, hFB⟩ : ∃ FB, FB = fit6 2 y.n := ⟨_, rfl⟩
        rw [← hFB] at m2
        have HFB := hide hFB
        clear hFB
        go_wp2_with fail
        refine m2.mono ?_
        rintro e w2 ⟨rfl, rfl⟩
        clear m2 c0 c1 c2 c3 c4
        cases FB with
        | false =>
          have HF : Hid (R = 3) := by
            show _ = _
            rw [HE.out, if_neg]
            intro h
            have := List.all_eq_true.1 h _ (List.mem_of_getElem? HY.out)
            rw [show (!(decide ((ptV y).kind = 1)) || fit6 2 (ptV y).n) = false from HQ.out.trans HFB.out.symm] at this
            exact absurd this (by decide)
          go_wp2
          go_ret
          exact ⟨by rw [HF.out]; rfl, B1.out⟩
        | true =>
          have HM2 := GO.out _ HQ HFB.out.symm
          clear GO
          go_wp2
          go_roundw
          case rel => exact ⟨k + 1, by omega, by go_num, HM2.out, B1.out⟩
          case measure => simp [intOf]; omega
      · have h1' : (y.k == 1) = false := by rw [beq_eq_false_iff_ne]; exact h1
        have HM2 := GO.out true (by show _ = _; rw [decide_eq_false h1]; rfl) rfl
        clear h1 m2 GO
        go_wp2
        go_roundw
        case rel => exact ⟨k + 1, by omega, by go_num, HM2.out, B1.out⟩
        case measure => simp [intOf]; omega
    · obtain rfl : k = N := by omega
      have HF : Hid (R = 2) := by
        show _ = _
        rw [HE.out, if_pos]
        rw [List.all_eq_true]
        intro p hp
        exact HM.out p (by rw [List.take_of_length_le (by rw [List.length_map, ← HN.out]; omega)]; exact hp)
      go_wp2
      go_ret
      exact ⟨by rw [HF.out]; rfl, HB.out⟩
set_option maxRecDepth 100000 in
theorem or_two (m : Int) (g cap : Nat) (w : World) (h0 : w.cell? ⟨g, 0, none⟩ = some (.int .i64 m)) (h1 : w.cell? ⟨g, 1, none⟩ = some (.int .i64 3)) : Calls Tryz.prog 85 #[.slice (some ⟨g, 0, none⟩) 2 cap] w fun e w' => e = .returned (.int .i64 (if m = 0 then 3 else m)) ∧ w' = w := by
  obtain ⟨R, hR⟩ : ∃ R : Int, R = if m = 0 then 3 else m := ⟨_, rfl⟩
  rw [← hR]
  have HR := hide hR
  clear hR
  go_enter Tryz.func85, Tryz.ntmps85
  go_wp2
  go_loopw [8] (fun i wr => wr = w ∧ ((i = .int .i64 0) ∨ (i = .int .i64 1 ∧ Hid (m = 0)))) (fun i _ => 2 - (intOf i).toNat)
  case atStart => exact ⟨rfl, .inl rfl⟩
  case round =>
    obtain ⟨rfl, rfl | ⟨rfl, hm⟩⟩ := hrel
    · by_cases hm : m = 0
      · have HM := hide hm
        subst hm
        go_wp2
        go_roundw
        case rel => exact ⟨by simp, .inr ⟨by go_num, (by show True; trivial)⟩⟩
        case measure => simp [intOf]
      · have hm' : (m != 0) = true := by rw [bne_iff_ne]; exact hm
        have HF : Hid (R = m) := by show _ = _; rw [HR.out, if_neg hm]
        clear hm
        go_wp2
        go_ret
        exact ⟨by rw [HF.out]; rfl, rfl⟩
    · have HF : Hid (R = 3) := by show _ = _; rw [HR.out, if_pos hm.out]
      go_wp2
      go_ret
      exact ⟨by rw [HF.out]; rfl, rfl⟩
set_option maxRecDepth 100000 in
theorem max_any (v : Value) (l : List Int) (w : World) (hL : ILst w v l) (h12 : l.length = 1 ∨ l.length = 2) : Calls Tryz.prog 86 #[v] w fun e w' => e = .returned (.int .i64 (maxT l)) ∧ w' = w := by
  obtain ⟨a, b, cap, rfl, hA, hI⟩ := hL
  obtain ⟨-, rfl⟩ := hA (by omega)
  rcases h12 with h | h
  · obtain ⟨x, rfl⟩ : ∃ x, l = [x] := by match l, h with | [x], _ => exact ⟨x, rfl⟩
    have c0 := hI 0 x rfl
    show Calls Tryz.prog 86 #[.slice (some ⟨b, 0, none⟩) 1 cap] w _
    have HR : Hid (maxT [x] = x) := rfl
    generalize maxT [x] = R at *
    clear hI hA
    go_enter Tryz.func86, Tryz.ntmps86
    go_wp2
    go_loopw [3, 4] (fun m i wr => wr = w ∧ m = .int .i64 x ∧ i = .int .i64 1) (fun _ _ _ => 0)
    case atStart => exact ⟨rfl, rfl, rfl⟩
    case round =>
      obtain ⟨rfl, rfl, rfl⟩ := hrel
      go_wp2
      go_ret
      exact ⟨by rw [HR.out]; rfl, rfl⟩
  · obtain ⟨x, y, rfl⟩ : ∃ x y, l = [x, y] := by match l, h with | [x, y], _ => exact ⟨x, y, rfl⟩
    have c0 := hI 0 x rfl
    have c1 := hI 1 y rfl
    show Calls Tryz.prog 86 #[.slice (some ⟨b, 0, none⟩) 2 cap] w _
    obtain ⟨M, hM⟩ : ∃ M, M = max x y := ⟨_, rfl⟩
    have HR : Hid (maxT [x, y] = M) := by show max x y = M; exact hM.symm
    have hx : ∀ (ts : Array TypeId) (t : TypeId) (W' : World), (Builtin.max_ ts t #[.int .i64 x, .int .i64 y]).run Tryz.prog W' = .ok (.int .i64 M) W' := fun ts t W' => by
      rw [run_max_int2, show (if x < y then y else x) = M from by rw [hM]; split <;> omega]
    generalize maxT [x, y] = R at *
    clear hI hA hM
    go_enter Tryz.func86, Tryz.ntmps86
    go_wp2
    go_loopw [3, 4] (fun m i wr => wr = w ∧ ((m = .int .i64 x ∧ i = .int .i64 1) ∨ (m = .int .i64 M ∧ i = .int .i64 2))) (fun _ i _ => 2 - (intOf i).toNat)
    case atStart => exact ⟨rfl, .inl ⟨rfl, rfl⟩⟩
    case round =>
      obtain ⟨rfl, ⟨rfl, rfl⟩ | ⟨rfl, rfl⟩⟩ := hrel
      · go_wp2
        go_roundw
        case rel => exact ⟨by simp, .inr ⟨rfl, by go_num⟩⟩
        case measure => simp [intOf]
      · go_wp2
        go_ret
        exact ⟨by rw [HR.out]; rfl, rfl⟩
end Go.Proofs.YtldjiieckddhkaaGreatDoor
namespace Go.Proofs.YtldjiieckddhkaaGreatDoor
open Go.RowKit Go.Sort
set_option maxRecDepth 100000 in
set_option maxHeartbeats 1600000 in
theorem askF_any (y : Pv) (ov xv : Value) (of : List Int) (made : Int) (x : List Pv) (w : World) (hO : ILst w ov of) (h12 : of.length = 1 ∨ of.length = 2) (hX : PLst w xv x) (hlen : x.length ≤ 1000000) (hg : Glo w) :
    Calls Tryz.prog 45 #[.agg #[.int .i64 y.k, .int .i64 y.n, .int .i64 y.t, .string y.s, .string y.f], ov, .int .i64 made, xv] w fun e w' => e = .returned (.int .i64 (askT (ptV y) of made (x.map ptV))) ∧ Below w.heap.size w w' := by
  have HE : Hid (askT (ptV y) of made (x.map ptV) = if y.k = 3 then idxT (x.map ptV) else if y.k = 6 then 3 else if made = 0 then 0 else if maxT of = 0 then 3 else maxT of) := rfl
  generalize askT (ptV y) of made (x.map ptV) = R at *
  obtain ⟨W0, hW0⟩ : ∃ W0, W0 = w.alloc (.cells #[.int .i64 y.k, .int .i64 y.n, .int .i64 y.t, .string y.s, .string y.f] 38) := ⟨_, rfl⟩
  have B0 : Below w.heap.size w W0 := by rw [hW0]; exact (Below.refl w.heap.size w).alloc (Nat.le_refl _) _
  have ci := indexType_any xv x W0 (hX.below B0 (Nat.le_refl _)) hlen (hg.below B0 hg.lt)
  have cm := max_any ov of W0 (hO.below B0) h12
  obtain ⟨oa, on_, ocp, rfl⟩ : ∃ a n cp, ov = .slice a n cp := by obtain ⟨a, b, cap, h, -⟩ := hO; exact ⟨a, _, cap, h⟩
  obtain ⟨xa, xn, xcp, rfl⟩ : ∃ a n cp, xv = .slice a n cp := by obtain ⟨a, b, off, cap, h, -⟩ := hX; exact ⟨a, _, cap, h⟩
  have HW0 := hide hW0
  have HB0 := hide B0
  clear hO hX hg hW0 B0 h12
  by_cases h3 : y.k = 3
  · have k3 : (y.k == 3) = true := by rw [h3]; rfl
    rw [if_pos h3] at HE
    clear h3 cm
    go_enter Tryz.func45, Tryz.ntmps45
    go_wp2_with fail
    rw [← HW0.out]
    refine ci.mono ?_
    rintro e W1 ⟨rfl, hb⟩
    have HB := hide (HB0.out.trans (hb.mono HB0.out.size))
    clear ci hb
    go_wp2
    go_ret
    exact ⟨by rw [HE.out]; rfl, HB.out⟩
  · have k3 : (y.k == 3) = false := by rw [beq_eq_false_iff_ne]; exact h3
    rw [if_neg h3] at HE
    clear h3 ci
    by_cases h6 : y.k = 6
    · have k6 : (y.k == 6) = true := by rw [h6]; rfl
      rw [if_pos h6] at HE
      clear h6 cm
      have HB := hide (show Below w.heap.size w (w.alloc (.cells #[.int .i64 y.k, .int .i64 y.n, .int .i64 y.t, .string y.s, .string y.f] 38)) by rw [← HW0.out]; exact HB0.out)
      go_enter Tryz.func45, Tryz.ntmps45
      go_wp2
      go_ret
      exact ⟨by rw [HE.out]; rfl, HB.out⟩
    · have k6 : (y.k == 6) = false := by rw [beq_eq_false_iff_ne]; exact h6
      rw [if_neg h6] at HE
      clear h6
      by_cases hm : made = 0
      · subst hm
        rw [if_pos rfl] at HE
        clear cm
        have HB := hide (show Below w.heap.size w (w.alloc (.cells #[.int .i64 y.k, .int .i64 y.n, .int .i64 y.t, .string y.s, .string y.f] 38)) by rw [← HW0.out]; exact HB0.out)
        go_enter Tryz.func45, Tryz.ntmps45
        go_wp2
        go_ret
        exact ⟨by rw [HE.out]; rfl, HB.out⟩
      · have m0 : (made == 0) = false := by rw [beq_eq_false_iff_ne]; exact hm
        rw [if_neg hm] at HE
        clear hm
        obtain ⟨M, hM⟩ : ∃ M, M = maxT of := ⟨_, rfl⟩
        rw [← hM] at cm HE
        clear hM
        obtain ⟨W1, hW1⟩ : ∃ W1, W1 = W0.alloc (.cells #[.int .i64 M, .int .i64 3] 3) := ⟨_, rfl⟩
        have hh : W1.heap[W0.heap.size]? = some (.cells #[.int .i64 M, .int .i64 3] 3) := by rw [hW1]; exact heap_alloc_new W0 _
        have co := or_two M W0.heap.size 2 W1 (by rw [Lib.cell_of_heap hh]; rfl) (by rw [Lib.cell_of_heap hh]; rfl)
        rw [show W0.heap.size = w.heap.size + 1 by rw [HW0.out, World.size_alloc]] at co
        have HB1 := hide (show Below w.heap.size w W1 by rw [hW1]; exact HB0.out.alloc HB0.out.size _)
        have HW1 := hide hW1
        have zz : W0.heap.size = w.heap.size + 1 := by rw [HW0.out, World.size_alloc]
        clear hh hW1
        generalize (if M = 0 then (3 : Int) else M) = Q at *
        go_enter Tryz.func45, Tryz.ntmps45
        go_wp2_with fail
        rw [← HW0.out]
        refine cm.mono ?_
        rintro e W2 ⟨rfl, rfl⟩
        clear cm
        go_wp2_with fail
        rw [← HW1.out]
        refine co.mono ?_
        rintro e W2 ⟨rfl, rfl⟩
        clear co
        go_wp2
        go_ret
        exact ⟨by rw [HE.out]; rfl, HB1.out⟩
set_option maxRecDepth 100000 in
set_option maxHeartbeats 1600000 in
theorem operated_any (op : Int) (v : Value) (x : List Pv) (w : World) (hL : PLst w v x) (h12 : x.length = 1 ∨ x.length = 2) (hg : Glo w) :
    Calls Tryz.prog 93 #[.int .i64 op, v] w fun e w' => (∀ a, x = [a] → e = .returned (.tuple #[.int .i64 (Four.oneN op a.t a.n).1, .int .i64 (Four.oneN op a.t a.n).2])) ∧ (∀ a b, x = [a, b] → e = .returned (.tuple #[.int .i64 (Four.twoN op a.t a.n b.n).1, .int .i64 (Four.twoN op a.t a.n b.n).2])) ∧ Below w.heap.size w w' := by
  obtain ⟨a, b, off, cap, rfl, hA, hI⟩ := hL
  obtain ⟨hbw, rfl⟩ := hA (by omega)
  rcases h12 with h | h
  · obtain ⟨p, rfl⟩ : ∃ p, x = [p] := by match x, h with | [p], _ => exact ⟨p, rfl⟩
    obtain ⟨q0, q1, q2, q3, q4⟩ := hI 0 p rfl
    simp only [Nat.zero_mul, Nat.add_zero] at q0 q1 q2 q3 q4
    have y1 : ∀ dd os, (grow (redrawn w dd) os).cell? ⟨b, off + 1, none⟩ = some (.int .i64 p.n) := cell_regrown q1
    have y2 : ∀ dd os, (grow (redrawn w dd) os).cell? ⟨b, off + 2, none⟩ = some (.int .i64 p.t) := cell_regrown q2
    have c : ∀ dd os, Calls Tryz.prog 129 #[.int .i64 op, .int .i64 p.t, .int .i64 p.n] (grow (redrawn w dd) os) fun e w2 => e = .returned (.tuple #[.int .i64 (Four.oneN op p.t p.n).1, .int .i64 (Four.oneN op p.t p.n).2]) ∧ ∃ q : Regrown, w2 = grow (redrawn w q.d) q.os := fun dd os => Calls.regrown_of (Four.one_any _ _ _ _ (hg.below (below_regrown w dd os) hg.lt).four)
    have HB : Hid (∀ dd os, Below w.heap.size w (grow (redrawn w dd) os)) := fun dd os => below_regrown w dd os
    show Calls Tryz.prog 93 #[_, .slice (some ⟨b, off, none⟩) 1 cap] w _
    obtain ⟨⟨N1, N2⟩, hN⟩ : ∃ N, N = Four.oneN op p.t p.n := ⟨_, rfl⟩
    rw [← hN] at c
    have HN := hide hN
    clear hI hA hg q0 q1 q2 q3 q4 hbw h hN
    simp only [] at c
    go_enter Tryz.func93, Tryz.ntmps93
    go_wp2_with fail
    refine wp_region_quiet_below (by kernel_rfl) (by kernel_rfl) ?_
    repeat (go_big_quiet_step (first | (go_at_call 129; with_reducible exact c _ _)))
    refine wpQuiet_nil ?_
    intro _ hw'
    obtain ⟨⟨dq, osq⟩, hw''⟩ := hw'
    subst hw''
    go_wp2
    go_ret2
    exact ⟨fun a ha => by obtain ⟨rfl, -⟩ := List.cons.inj ha; rw [← HN.out]; rfl, fun a b ha => by exact absurd (congrArg List.length ha) (by simp), HB.out _ _⟩
  · obtain ⟨p, r, rfl⟩ : ∃ p r, x = [p, r] := by match x, h with | [p, r], _ => exact ⟨p, r, rfl⟩
    obtain ⟨q0, q1, q2, q3, q4⟩ := hI 0 p rfl
    obtain ⟨s0, s1, s2, s3, s4⟩ := hI 1 r rfl
    simp only [Nat.zero_mul, Nat.add_zero, Nat.one_mul] at q0 q1 q2 q3 q4 s0 s1 s2 s3 s4
    have y1 : ∀ dd os, (grow (redrawn w dd) os).cell? ⟨b, off + 1, none⟩ = some (.int .i64 p.n) := cell_regrown q1
    have y2 : ∀ dd os, (grow (redrawn w dd) os).cell? ⟨b, off + 2, none⟩ = some (.int .i64 p.t) := cell_regrown q2
    have y3 : ∀ dd os, (grow (redrawn w dd) os).cell? ⟨b, off + 5 + 1, none⟩ = some (.int .i64 r.n) := cell_regrown s1
    have c : ∀ dd os, Calls Tryz.prog 21 #[.int .i64 op, .int .i64 p.t, .int .i64 p.n, .int .i64 r.n] (grow (redrawn w dd) os) fun e w2 => e = .returned (.tuple #[.int .i64 (Four.twoN op p.t p.n r.n).1, .int .i64 (Four.twoN op p.t p.n r.n).2]) ∧ ∃ q : Regrown, w2 = grow (redrawn w q.d) q.os := fun dd os => Calls.regrown_of (Four.two_any _ _ _ _ _ (hg.below (below_regrown w dd os) hg.lt).four)
    have HB : Hid (∀ dd os, Below w.heap.size w (grow (redrawn w dd) os)) := fun dd os => below_regrown w dd os
    show Calls Tryz.prog 93 #[_, .slice (some ⟨b, off, none⟩) 2 cap] w _
    obtain ⟨⟨N1, N2⟩, hN⟩ : ∃ N, N = Four.twoN op p.t p.n r.n := ⟨_, rfl⟩
    rw [← hN] at c
    have HN := hide hN
    clear hI hA hg q0 q1 q2 q3 q4 s0 s1 s2 s3 s4 hbw h hN
    simp only [] at c
    go_enter Tryz.func93, Tryz.ntmps93
    go_wp2_with fail
    refine wp_region_quiet_below (by kernel_rfl) (by kernel_rfl) ?_
    repeat (go_big_quiet_step (first | (go_at_call 21; with_reducible exact c _ _)))
    refine wpQuiet_nil ?_
    intro _ hw'
    obtain ⟨⟨dq, osq⟩, hw''⟩ := hw'
    subst hw''
    go_wp2
    go_ret2
    exact ⟨fun a ha => by exact absurd (congrArg List.length ha) (by simp), fun a b ha => by obtain ⟨rfl, hb⟩ := List.cons.inj ha; obtain ⟨rfl, -⟩ := List.cons.inj hb; rw [← HN.out]; rfl, HB.out _ _⟩
end Go.Proofs.YtldjiieckddhkaaGreatDoor
