/- FaW | FbX | GvW | CloneW -/
import Derived.Test.YtldjiieckddhkaaGreatDoorMg21
import Derived.Lib.UnsafeStr
import Derived.Lib.BufferWrite
import Derived.OwnWalk
namespace Go.Proofs.YtldjiieckddhkaaGreatDoor
open Go.RowKit Go.Sort
def ILst (w : World) (v : Value) (l : List Int) : Prop :=
  ∃ (a : Option Addr) (b cap : Nat), v = .slice a l.length cap ∧ (0 < l.length → b < w.heap.size ∧ a = some ⟨b, 0, none⟩) ∧ ∀ i t, l[i]? = some t → w.cell? ⟨b, i, none⟩ = some (.int .i64 t)
theorem ILst.below {w w' : World} {v : Value} {l : List Int} (h : ILst w v l) (hb : Below w.heap.size w w') : ILst w' v l := by
  obtain ⟨a, b, cap, rfl, hb0, hI⟩ := h
  refine ⟨a, b, cap, rfl, fun h => ⟨Nat.lt_of_lt_of_le (hb0 h).1 hb.size, (hb0 h).2⟩, fun i x hx => ?_⟩
  have hlt : b < w.heap.size := (hb0 (by have := (List.getElem?_eq_some_iff.1 hx).1; omega)).1
  exact (hb.cell (p := ⟨b, _, none⟩) hlt).trans (hI i x hx)
set_option maxRecDepth 100000 in
set_option maxHeartbeats 1600000 in
theorem indexType_any (v : Value) (x : List Pv) (w : World) (hL : PLst w v x) (hlen : x.length ≤ 1000000) (hg : Glo w) : Calls Tryz.prog 84 #[v] w fun e w' => e = .returned (.int .i64 (idxT (x.map ptV))) ∧ Below w.heap.size w w' := by
  obtain ⟨a, b, off, cap, rfl, hA, hI⟩ := hL
  have HE : Hid (idxT (x.map ptV) = if (x.map ptV).all (fun p => !(decide (p.kind = 1)) || fit6 2 p.n) then 2 else 3) := rfl
  have HA := hide hA
  have HI := hide hI
  have HG := hide hg
  generalize idxT (x.map ptV) = R at *
  obtain ⟨N, hN⟩ : ∃ N, N = x.length := ⟨_, rfl⟩
  have HN := hide hN
  rw [← hN] at hlen ⊢
  have n5 : (N : Int) ≤ 1000000 := by omega
  have n0 : (0 : Int) ≤ (N : Int) := by omega
  clear hN hA hI hg hlen
  go_enter Tryz.func84, Tryz.ntmps84
  go_wp2_with fail
  go_loopw [7] (fun i wr => ∃ (k : Nat), k ≤ N ∧ i = .int .i64 (k : Int) ∧ Hid ((∀ p ∈ (x.map ptV).take k, (!(decide (p.kind = 1)) || fit6 2 p.n) = true) ∧ Below w.heap.size w wr)) (fun i _ => N - (intOf i).toNat)
  case atStart => exact ⟨0, by omega, rfl, fun p hp => by simp at hp, Below.refl _ _⟩
  case round =>
    obtain ⟨k, hk, rfl, hh⟩ := hrel
    have HM := hide hh.out.1
    have HB := hide hh.out.2
    clear hh
    by_cases hlt : k < N
    · have j1 : (k : Int) < (N : Int) := by omega
      have j0 : (0 : Int) ≤ (k : Int) := by omega
      obtain ⟨y, hy⟩ : ∃ y, x[k]? = some y := ⟨_, List.getElem?_eq_getElem (by rw [← HN.out]; exact hlt)⟩
      have HY : Hid ((x.map ptV)[k]? = some (ptV y)) := by show _ = _; rw [List.getElem?_map, hy]; rfl
      obtain ⟨hbw, rfl⟩ := HA.out (by rw [← HN.out]; omega)
      obtain ⟨q0, q1, q2, q3, q4⟩ := HI.out k y hy
      have c0 := (HB.out.cell (p := ⟨b, off + k * 5, none⟩) hbw).trans q0
      have c1 := (HB.out.cell (p := ⟨b, off + k * 5 + 1, none⟩) hbw).trans q1
      have c2 := (HB.out.cell (p := ⟨b, off + k * 5 + 2, none⟩) hbw).trans q2
      have c3 := (HB.out.cell (p := ⟨b, off + k * 5 + 3, none⟩) hbw).trans q3
      have c4 := (HB.out.cell (p := ⟨b, off + k * 5 + 4, none⟩) hbw).trans q4
      clear q0 q1 q2 q3 q4 hy
      have B1 := hide (HB.out.alloc HB.out.size (.cells #[.int .i64 y.k, .int .i64 y.n, .int .i64 y.t, .string y.s, .string y.f] 38))
      have m2 := fits_all 2 y.n _ (HG.out.below B1.out HG.out.lt).span
      have go : ∀ q : Bool, Hid ((!(decide (y.k = 1)) || fit6 2 y.n) = q) → q = true → Hid (∀ p ∈ (x.map ptV).take (k + 1), (!(decide (p.kind = 1)) || fit6 2 p.n) = true) := fun q hq e p hp => by
        rw [List.take_add_one, HY.out, List.mem_append] at hp
        rcases hp with hp | hp
        · exact HM.out p hp
        · rw [List.mem_singleton.1 hp]; exact hq.out.trans e
      have GO := hide go
      clear go
      by_cases h1 : y.k = 1
      · have h1' : (y.k == 1) = true := by rw [h1]; rfl
        have HQ : Hid ((!(decide (y.k = 1)) || fit6 2 y.n) = fit6 2 y.n) := by show _ = _; rw [decide_eq_true h1]; rfl
        clear h1
        obtain ⟨FB, hFB⟩ : ∃ FB, FB = fit6 2 y.n := ⟨_, rfl⟩
        rw [← hFB] at m2
        have HFB := hide hFB
        clear hFB
        go_wp2_with fail
        refine m2.mono ?_
        rintro e w2 ⟨rfl, rfl⟩
        clear m2 c0 c1 c2 c3 c4
        cases FB with
        | false =>
          have HF : Hid (R = 3) := by
            show _ = _
            rw [HE.out, if_neg]
            intro h
            have := List.all_eq_true.1 h _ (List.mem_of_getElem? HY.out)
            rw [show (!(decide ((ptV y).kind = 1)) || fit6 2 (ptV y).n) = false from HQ.out.trans HFB.out.symm] at this
            exact absurd this (by decide)
          go_wp2
          go_ret
          exact ⟨by rw [HF.out]; rfl, B1.out⟩
        | true =>
          have HM2 := GO.out _ HQ HFB.out.symm
          clear GO
          go_wp2
          go_roundw
          case rel => exact ⟨k + 1, by omega, by go_num, HM2.out, B1.out⟩
          case measure => simp [intOf]; omega
      · have h1' : (y.k == 1) = false := by rw [beq_eq_false_iff_ne]; exact h1
        have HM2 := GO.out true (by show _ = _; rw [decide_eq_false h1]; rfl) rfl
        clear h1 m2 GO
        go_wp2
        go_roundw
        case rel => exact ⟨k + 1, by omega, by go_num, HM2.out, B1.out⟩
        case measure => simp [intOf]; omega
    · obtain rfl : k = N := by omega
      have HF : Hid (R = 2) := by
        show _ = _
        rw [HE.out, if_pos]
        rw [List.all_eq_true]
        intro p hp
        exact HM.out p (by rw [List.take_of_length_le (by rw [List.length_map, ← HN.out]; omega)]; exact hp)
      go_wp2
      go_ret
      exact ⟨by rw [HF.out]; rfl, HB.out⟩
set_option maxRecDepth 100000 in
theorem or_two (m : Int) (g cap : Nat) (w : World) (h0 : w.cell? ⟨g, 0, none⟩ = some (.int .i64 m)) (h1 : w.cell? ⟨g, 1, none⟩ = some (.int .i64 3)) : Calls Tryz.prog 85 #[.slice (some ⟨g, 0, none⟩) 2 cap] w fun e w' => e = .returned (.int .i64 (if m = 0 then 3 else m)) ∧ w' = w := by
  obtain ⟨R, hR⟩ : ∃ R : Int, R = if m = 0 then 3 else m := ⟨_, rfl⟩
  rw [← hR]
  have HR := hide hR
  clear hR
  go_enter Tryz.func85, Tryz.ntmps85
  go_wp2
  go_loopw [8] (fun i wr => wr = w ∧ ((i = .int .i64 0) ∨ (i = .int .i64 1 ∧ Hid (m = 0)))) (fun i _ => 2 - (intOf i).toNat)
  case atStart => exact ⟨rfl, .inl rfl⟩
  case round =>
    obtain ⟨rfl, rfl | ⟨rfl, hm⟩⟩ := hrel
    · by_cases hm : m = 0
      · have HM := hide hm
        subst hm
        go_wp2
        go_roundw
        case rel => exact ⟨by simp, .inr ⟨by go_num, (by show True; trivial)⟩⟩
        case measure => simp [intOf]
      · have hm' : (m != 0) = true := by rw [bne_iff_ne]; exact hm
        have HF : Hid (R = m) := by show _ = _; rw [HR.out, if_neg hm]
        clear hm
        go_wp2
        go_ret
        exact ⟨by rw [HF.out]; rfl, rfl⟩
    · have HF : Hid (R = 3) := by show _ = _; rw [HR.out, if_pos hm.out]
      go_wp2
      go_ret
      exact ⟨by rw [HF.out]; rfl, rfl⟩
set_option maxRecDepth 100000 in
theorem max_any (v : Value) (l : List Int) (w : World) (hL : ILst w v l) (h12 : l.length = 1 ∨ l.length = 2) : Calls Tryz.prog 86 #[v] w fun e w' => e = .returned (.int .i64 (maxT l)) ∧ w' = w := by
  obtain ⟨a, b, cap, rfl, hA, hI⟩ := hL
  obtain ⟨-, rfl⟩ := hA (by omega)
  rcases h12 with h | h
  · obtain ⟨x, rfl⟩ : ∃ x, l = [x] := by match l, h with | [x], _ => exact ⟨x, rfl⟩
    have c0 := hI 0 x rfl
    show Calls Tryz.prog 86 #[.slice (some ⟨b, 0, none⟩) 1 cap] w _
    have HR : Hid (maxT [x] = x) := rfl
    generalize maxT [x] = R at *
    clear hI hA
    go_enter Tryz.func86, Tryz.ntmps86
    go_wp2
    go_loopw [3, 4] (fun m i wr => wr = w ∧ m = .int .i64 x ∧ i = .int .i64 1) (fun _ _ _ => 0)
    case atStart => exact ⟨rfl, rfl, rfl⟩
    case round =>
      obtain ⟨rfl, rfl, rfl⟩ := hrel
      go_wp2
      go_ret
      exact ⟨by rw [HR.out]; rfl, rfl⟩
  · obtain ⟨x, y, rfl⟩ : ∃ x y, l = [x, y] := by match l, h with | [x, y], _ => exact ⟨x, y, rfl⟩
    have c0 := hI 0 x rfl
    have c1 := hI 1 y rfl
    show Calls Tryz.prog 86 #[.slice (some ⟨b, 0, none⟩) 2 cap] w _
    obtain ⟨M, hM⟩ : ∃ M, M = max x y := ⟨_, rfl⟩
    have HR : Hid (maxT [x, y] = M) := by show max x y = M; exact hM.symm
    have hx : ∀ (ts : Array TypeId) (t : TypeId) (W' : World), (Builtin.max_ ts t #[.int .i64 x, .int .i64 y]).run Tryz.prog W' = .ok (.int .i64 M) W' := fun ts t W' => by
      rw [run_max_int2, show (if x < y then y else x) = M from by rw [hM]; split <;> omega]
    generalize maxT [x, y] = R at *
    clear hI hA hM
    go_enter Tryz.func86, Tryz.ntmps86
    go_wp2
    go_loopw [3, 4] (fun m i wr => wr = w ∧ ((m = .int .i64 x ∧ i = .int .i64 1) ∨ (m = .int .i64 M ∧ i = .int .i64 2))) (fun _ i _ => 2 - (intOf i).toNat)
    case atStart => exact ⟨rfl, .inl ⟨rfl, rfl⟩⟩
    case round =>
      obtain ⟨rfl, ⟨rfl, rfl⟩ | ⟨rfl, rfl⟩⟩ := hrel
      · go_wp2
        go_roundw
        case rel => exact ⟨by simp, .inr ⟨rfl, by go_num⟩⟩
        case measure => simp [intOf]
      · go_wp2
        go_ret
        exact ⟨by rw [HR.out]; rfl, rfl⟩
end Go.Proofs.YtldjiieckddhkaaGreatDoor
namespace Go.Proofs.YtldjiieckddhkaaGreatDoor
open Go.RowKit Go.Sort
set_option maxRecDepth 100000 in
set_option maxHeartbeats 1600000 in
theorem askF_any (y : Pv) (ov xv : Value) (of : List Int) (made : Int) (x : List Pv) (w : World) (hO : ILst w ov of) (h12 : of.length = 1 ∨ of.length = 2) (hX : PLst w xv x) (hlen : x.length ≤ 1000000) (hg : Glo w) :
    Calls Tryz.prog 45 #[.agg #[.int .i64 y.k, .int .i64 y.n, .int .i64 y.t, .string y.s, .string y.f], ov, .int .i64 made, xv] w fun e w' => e = .returned (.int .i64 (askT (ptV y) of made (x.map ptV))) ∧ Below w.heap.size w w' := by
  have HE : Hid (askT (ptV y) of made (x.map ptV) = if y.k = 3 then idxT (x.map ptV) else if y.k = 6 then 3 else if made = 0 then 0 else if maxT of = 0 then 3 else maxT of) := rfl
  generalize askT (ptV y) of made (x.map ptV) = R at *
  obtain ⟨W0, hW0⟩ : ∃ W0, W0 = w.alloc (.cells #[.int .i64 y.k, .int .i64 y.n, .int .i64 y.t, .string y.s, .string y.f] 38) := ⟨_, rfl⟩
  have B0 : Below w.heap.size w W0 := by rw [hW0]; exact (Below.refl w.heap.size w).alloc (Nat.le_refl _) _
  have ci := indexType_any xv x W0 (hX.below B0 (Nat.le_refl _)) hlen (hg.below B0 hg.lt)
  have cm := max_any ov of W0 (hO.below B0) h12
  obtain ⟨oa, on_, ocp, rfl⟩ : ∃ a n cp, ov = .slice a n cp := by obtain ⟨a, b, cap, h, -⟩ := hO; exact ⟨a, _, cap, h⟩
  obtain ⟨xa, xn, xcp, rfl⟩ : ∃ a n cp, xv = .slice a n cp := by obtain ⟨a, b, off, cap, h, -⟩ := hX; exact ⟨a, _, cap, h⟩
  have HW0 := hide hW0
  have HB0 := hide B0
  clear hO hX hg hW0 B0 h12
  by_cases h3 : y.k = 3
  · have k3 : (y.k == 3) = true := by rw [h3]; rfl
    rw [if_pos h3] at HE
    clear h3 cm
    go_enter Tryz.func45, Tryz.ntmps45
    go_wp2_with fail
    rw [← HW0.out]
    refine ci.mono ?_
    rintro e W1 ⟨rfl, hb⟩
    have HB := hide (HB0.out.trans (hb.mono HB0.out.size))
    clear ci hb
    go_wp2
    go_ret
    exact ⟨by rw [HE.out]; rfl, HB.out⟩
  · have k3 : (y.k == 3) = false := by rw [beq_eq_false_iff_ne]; exact h3
    rw [if_neg h3] at HE
    clear h3 ci
    by_cases h6 : y.k = 6
    · have k6 : (y.k == 6) = true := by rw [h6]; rfl
      rw [if_pos h6] at HE
      clear h6 cm
      have HB := hide (show Below w.heap.size w (w.alloc (.cells #[.int .i64 y.k, .int .i64 y.n, .int .i64 y.t, .string y.s, .string y.f] 38)) by rw [← HW0.out]; exact HB0.out)
      go_enter Tryz.func45, Tryz.ntmps45
      go_wp2
      go_ret
      exact ⟨by rw [HE.out]; rfl, HB.out⟩
    · have k6 : (y.k == 6) = false := by rw [beq_eq_false_iff_ne]; exact h6
      rw [if_neg h6] at HE
      clear h6
      by_cases hm : made = 0
      · subst hm
        rw [if_pos rfl] at HE
        clear cm
        have HB := hide (show Below w.heap.size w (w.alloc (.cells #[.int .i64 y.k, .int .i64 y.n, .int .i64 y.t, .string y.s, .string y.f] 38)) by rw [← HW0.out]; exact HB0.out)
        go_enter Tryz.func45, Tryz.ntmps45
        go_wp2
        go_ret
        exact ⟨by rw [HE.out]; rfl, HB.out⟩
      · have m0 : (made == 0) = false := by rw [beq_eq_false_iff_ne]; exact hm
        rw [if_neg hm] at HE
        clear hm
        obtain ⟨M, hM⟩ : ∃ M, M = maxT of := ⟨_, rfl⟩
        rw [← hM] at cm HE
        clear hM
        obtain ⟨W1, hW1⟩ : ∃ W1, W1 = W0.alloc (.cells #[.int .i64 M, .int .i64 3] 3) := ⟨_, rfl⟩
        have hh : W1.heap[W0.heap.size]? = some (.cells #[.int .i64 M, .int .i64 3] 3) := by rw [hW1]; exact heap_alloc_new W0 _
        have co := or_two M W0.heap.size 2 W1 (by rw [Lib.cell_of_heap hh]; rfl) (by rw [Lib.cell_of_heap hh]; rfl)
        rw [show W0.heap.size = w.heap.size + 1 by rw [HW0.out, World.size_alloc]] at co
        have HB1 := hide (show Below w.heap.size w W1 by rw [hW1]; exact HB0.out.alloc HB0.out.size _)
        have HW1 := hide hW1
        have zz : W0.heap.size = w.heap.size + 1 := by rw [HW0.out, World.size_alloc]
        clear hh hW1
        generalize (if M = 0 then (3 : Int) else M) = Q at *
        go_enter Tryz.func45, Tryz.ntmps45
        go_wp2_with fail
        rw [← HW0.out]
        refine cm.mono ?_
        rintro e W2 ⟨rfl, rfl⟩
        clear cm
        go_wp2_with fail
        rw [← HW1.out]
        refine co.mono ?_
        rintro e W2 ⟨rfl, rfl⟩
        clear co
        go_wp2
        go_ret
        exact ⟨by rw [HE.out]; rfl, HB1.out⟩
set_option maxRecDepth 100000 in
set_option maxHeartbeats 1600000 in
theorem operated_any (op : Int) (v : Value) (x : List Pv) (w : World) (hL : PLst w v x) (h12 : x.length = 1 ∨ x.length = 2) (hg : Glo w) :
    Calls Tryz.prog 93 #[.int .i64 op, v] w fun e w' => (∀ a, x = [a] → e = .returned (.tuple #[.int .i64 (Four.oneN op a.t a.n).1, .int .i64 (Four.oneN op a.t a.n).2])) ∧ (∀ a b, x = [a, b] → e = .returned (.tuple #[.int .i64 (Four.twoN op a.t a.n b.n).1, .int .i64 (Four.twoN op a.t a.n b.n).2])) ∧ Below w.heap.size w w' := by
  obtain ⟨a, b, off, cap, rfl, hA, hI⟩ := hL
  obtain ⟨hbw, rfl⟩ := hA (by omega)
  rcases h12 with h | h
  · obtain ⟨p, rfl⟩ : ∃ p, x = [p] := by match x, h with | [p], _ => exact ⟨p, rfl⟩
    obtain ⟨q0, q1, q2, q3, q4⟩ := hI 0 p rfl
    simp only [Nat.zero_mul, Nat.add_zero] at q0 q1 q2 q3 q4
    have y1 : ∀ dd os, (grow (redrawn w dd) os).cell? ⟨b, off + 1, none⟩ = some (.int .i64 p.n) := cell_regrown q1
    have y2 : ∀ dd os, (grow (redrawn w dd) os).cell? ⟨b, off + 2, none⟩ = some (.int .i64 p.t) := cell_regrown q2
    have c : ∀ dd os, Calls Tryz.prog 129 #[.int .i64 op, .int .i64 p.t, .int .i64 p.n] (grow (redrawn w dd) os) fun e w2 => e = .returned (.tuple #[.int .i64 (Four.oneN op p.t p.n).1, .int .i64 (Four.oneN op p.t p.n).2]) ∧ ∃ q : Regrown, w2 = grow (redrawn w q.d) q.os := fun dd os => Calls.regrown_of (Four.one_any _ _ _ _ (hg.below (below_regrown w dd os) hg.lt).four)
    have HB : Hid (∀ dd os, Below w.heap.size w (grow (redrawn w dd) os)) := fun dd os => below_regrown w dd os
    show Calls Tryz.prog 93 #[_, .slice (some ⟨b, off, none⟩) 1 cap] w _
    obtain ⟨⟨N1, N2⟩, hN⟩ : ∃ N, N = Four.oneN op p.t p.n := ⟨_, rfl⟩
    rw [← hN] at c
    have HN := hide hN
    clear hI hA hg q0 q1 q2 q3 q4 hbw h hN
    simp only [] at c
    go_enter Tryz.func93, Tryz.ntmps93
    go_wp2_with fail
    refine wp_region_quiet_below (by kernel_rfl) (by kernel_rfl) ?_
    repeat (go_big_quiet_step (first | (go_at_call 129; with_reducible exact c _ _)))
    refine wpQuiet_nil ?_
    intro _ hw'
    obtain ⟨⟨dq, osq⟩, hw''⟩ := hw'
    subst hw''
    go_wp2
    go_ret2
    exact ⟨fun a ha => by obtain ⟨rfl, -⟩ := List.cons.inj ha; rw [← HN.out]; rfl, fun a b ha => by exact absurd (congrArg List.length ha) (by simp), HB.out _ _⟩
  · obtain ⟨p, r, rfl⟩ : ∃ p r, x = [p, r] := by match x, h with | [p, r], _ => exact ⟨p, r, rfl⟩
    obtain ⟨q0, q1, q2, q3, q4⟩ := hI 0 p rfl
    obtain ⟨s0, s1, s2, s3, s4⟩ := hI 1 r rfl
    simp only [Nat.zero_mul, Nat.add_zero, Nat.one_mul] at q0 q1 q2 q3 q4 s0 s1 s2 s3 s4
    have y1 : ∀ dd os, (grow (redrawn w dd) os).cell? ⟨b, off + 1, none⟩ = some (.int .i64 p.n) := cell_regrown q1
    have y2 : ∀ dd os, (grow (redrawn w dd) os).cell? ⟨b, off + 2, none⟩ = some (.int .i64 p.t) := cell_regrown q2
    have y3 : ∀ dd os, (grow (redrawn w dd) os).cell? ⟨b, off + 5 + 1, none⟩ = some (.int .i64 r.n) := cell_regrown s1
    have c : ∀ dd os, Calls Tryz.prog 21 #[.int .i64 op, .int .i64 p.t, .int .i64 p.n, .int .i64 r.n] (grow (redrawn w dd) os) fun e w2 => e = .returned (.tuple #[.int .i64 (Four.twoN op p.t p.n r.n).1, .int .i64 (Four.twoN op p.t p.n r.n).2]) ∧ ∃ q : Regrown, w2 = grow (redrawn w q.d) q.os := fun dd os => Calls.regrown_of (Four.two_any _ _ _ _ _ (hg.below (below_regrown w dd os) hg.lt).four)
    have HB : Hid (∀ dd os, Below w.heap.size w (grow (redrawn w dd) os)) := fun dd os => below_regrown w dd os
    show Calls Tryz.prog 93 #[_, .slice (some ⟨b, off, none⟩) 2 cap] w _
    obtain ⟨⟨N1, N2⟩, hN⟩ : ∃ N, N = Four.twoN op p.t p.n r.n := ⟨_, rfl⟩
    rw [← hN] at c
    have HN := hide hN
    clear hI hA hg q0 q1 q2 q3 q4 s0 s1 s2 s3 s4 hbw h hN
    simp only [] at c
    go_enter Tryz.func93, Tryz.ntmps93
    go_wp2_with fail
    refine wp_region_quiet_below (by kernel_rfl) (by kernel_rfl) ?_
    repeat (go_big_quiet_step (first | (go_at_call 21; with_reducible exact c _ _)))
    refine wpQuiet_nil ?_
    intro _ hw'
    obtain ⟨⟨dq, osq⟩, hw''⟩ := hw'
    subst hw''
    go_wp2
    go_ret2
    exact ⟨fun a ha => by exact absurd (congrArg List.length ha) (by simp), fun a b ha => by obtain ⟨rfl, hb⟩ := List.cons.inj ha; obtain ⟨rfl, -⟩ := List.cons.inj hb; rw [← HN.out]; rfl, HB.out _ _⟩
end Go.Proofs.YtldjiieckddhkaaGreatDoor
namespace Go.Proofs.YtldjiieckddhkaaGreatDoor
open Go.RowKit Go.Sort
structure KeepX (O : List Nat) (w w' : World) : Prop where
  os : w'.os = w.os
  tape : w'.tape = w.tape
  output : w'.output = w.output
  size : w.heap.size ≤ w'.heap.size
  block : ∀ k, k < w.heap.size → k ∉ O → w'.heap[k]? = w.heap[k]?
theorem KeepX.refl (O : List Nat) (w : World) : KeepX O w w := ⟨rfl, rfl, rfl, Nat.le_refl _, fun _ _ _ => rfl⟩
theorem KeepX.trans {O : List Nat} {a b c : World} (h : KeepX O a b) (k : KeepX O b c) : KeepX O a c :=
  ⟨k.os.trans h.os, k.tape.trans h.tape, k.output.trans h.output, Nat.le_trans h.size k.size, fun j hj ho => (k.block j (Nat.lt_of_lt_of_le hj h.size) ho).trans (h.block j hj ho)⟩
theorem KeepX.of_below {O : List Nat} {w w' : World} (h : Below w.heap.size w w') : KeepX O w w' := ⟨h.os, h.tape, h.output, h.size, fun k hk _ => h.block k hk⟩
theorem KeepX.setCell {O : List Nat} {a w : World} (h : KeepX O a w) {p : Addr} (hp : p.block ∈ O ∨ a.heap.size ≤ p.block) (u : Value) : KeepX O a (w.setCell p u) :=
  ⟨h.os, h.tape, h.output, by rw [World.size_setCell]; exact h.size, fun k hk ho => (Below.heap_setCell w p u k (fun e => by subst e; rcases hp with hp | hp; exact ho hp; omega)).trans (h.block k hk ho)⟩
theorem KeepX.cell {O : List Nat} {w w' : World} (h : KeepX O w w') {b o : Nat} (hb : b < w.heap.size) (ho : b ∉ O) : w'.cell? ⟨b, o, none⟩ = w.cell? ⟨b, o, none⟩ := by
  have := h.block b hb ho
  unfold World.cell?
  simp only [this]
def gvP (t : Int) (y : Pv) : Pv := if y.k = 1 then ⟨y.k, y.n, t, y.s, y.f⟩ else y
theorem gvP_pt (t : Int) (y : Pv) : ptV (gvP t y) = give1 t (ptV y) := by
  unfold gvP give1
  by_cases h : y.k = 1
  · rw [if_pos h, if_pos (show (ptV y).kind = 1 from h)]; rfl
  · rw [if_neg h, if_neg (show ¬ (ptV y).kind = 1 from h)]
theorem pvsC_cons (y : Pv) (l : List Pv) : pvsC (y :: l) = pvC y ++ pvsC l := rfl
theorem set_t (P Q : List Value) (a b c d e x : Value) : (P ++ ([a, b, c, d, e] ++ Q)).set (P.length + 2) x = P ++ ([a, b, x, d, e] ++ Q) := by
  rw [List.set_append, if_neg (by omega), Nat.add_sub_cancel_left]; rfl
set_option maxRecDepth 100000 in
set_option maxHeartbeats 1600000 in
theorem give_any (g m cp : Nat) (t : Int) (A M : List Pv) (rest : List Value) (cs : Array Value) (w : World) (hblk : w.heap[g]? = some (.cells cs 38)) (hcs : cs.toList = pvsC A ++ (pvsC M ++ rest)) (hm : M.length = m) (hl : A.length + m ≤ 1000000) :
    Calls Tryz.prog 44 #[.slice (some ⟨g, A.length * 5, none⟩) m cp, .int .i64 t] w fun e w' => e = .returned (.tuple #[]) ∧ (∃ cs', w'.heap[g]? = some (.cells cs' 38) ∧ cs'.toList = pvsC A ++ (pvsC (M.map (gvP t)) ++ rest)) ∧ KeepX [g] w w' ∧ w'.heap.size = w.heap.size := by
  have HB0 := hide hblk
  have HC0 := hide hcs
  have HM := hide hm
  have n5 : (m : Int) ≤ 1000000 := by omega
  have n0 : (0 : Int) ≤ (m : Int) := by omega
  obtain ⟨o, ho⟩ : ∃ o, o = A.length * 5 := ⟨_, rfl⟩
  rw [← ho]
  have HO := hide ho
  clear hblk hcs hm hl ho
  go_enter Tryz.func44, Tryz.ntmps44
  go_wp2_with fail
  go_loopw [7] (fun i wr => ∃ (k : Nat), k ≤ m ∧ i = .int .i64 (k : Int) ∧ Hid ((∃ cs', wr.heap[g]? = some (.cells cs' 38) ∧ cs'.toList = pvsC A ++ (pvsC ((M.take k).map (gvP t)) ++ (pvsC (M.drop k) ++ rest))) ∧ KeepX [g] w wr ∧ wr.heap.size = w.heap.size)) (fun i _ => m - (intOf i).toNat)
  case atStart => exact ⟨0, by omega, rfl, ⟨cs, HB0.out, by rw [HC0.out]; rfl⟩, KeepX.refl _ _, rfl⟩
  case round =>
    obtain ⟨k, hk, rfl, hh⟩ := hrel
    obtain ⟨⟨cs', hb, hc⟩, hK, hsz⟩ := hh.out
    have HK := hide hK
    have HS := hide hsz
    clear hh hK hsz
    by_cases hlt : k < m
    · have j1 : (k : Int) < (m : Int) := by omega
      have j0 : (0 : Int) ≤ (k : Int) := by omega
      have hkm : k < M.length := by rw [HM.out]; exact hlt
      obtain ⟨y, hy⟩ : ∃ y, M[k]? = some y := ⟨_, List.getElem?_eq_getElem hkm⟩
      have hd : M.drop k = y :: M.drop (k + 1) := by
        rw [List.drop_eq_getElem_cons hkm]
        congr 1
        exact Option.some.inj ((List.getElem?_eq_getElem hkm).symm.trans hy)
      have ht : (M.take (k + 1)).map (gvP t) = (M.take k).map (gvP t) ++ [gvP t y] := by rw [List.take_add_one, hy, List.map_append]; rfl
      rw [hd, pvsC_cons] at hc
      have hP : (pvsC A ++ pvsC ((M.take k).map (gvP t))).length = o + k * 5 := by rw [List.length_append, pvsC_length, pvsC_length, List.length_map, List.length_take, HO.out]; omega
      have hc2 : cs'.toList = (pvsC A ++ pvsC ((M.take k).map (gvP t))) ++ ([.int .i64 y.k, .int .i64 y.n, .int .i64 y.t, .string y.s, .string y.f] ++ (pvsC (M.drop (k + 1)) ++ rest)) := by rw [hc, List.append_assoc, List.append_assoc]; rfl
      have gt : ∀ j u, ([.int .i64 y.k, .int .i64 y.n, .int .i64 y.t, .string y.s, .string y.f] : List Value)[j]? = some u → wr.cell? ⟨g, o + k * 5 + j, none⟩ = some u := fun j u hu => by
        rw [Lib.cell_of_heap hb, ← Array.getElem?_toList, hc2, List.getElem?_append_right (by omega), hP, Nat.add_sub_cancel_left, List.getElem?_append_left (List.getElem?_eq_some_iff.1 hu).1]; exact hu
      have c0 : wr.cell? ⟨g, o + k * 5, none⟩ = some (.int .i64 y.k) := gt 0 _ rfl
      have c2 : wr.cell? ⟨g, o + k * 5 + 2, none⟩ = some (.int .i64 y.t) := gt 2 _ rfl
      have fz : ∀ j, wr.frozen? ⟨g, j, none⟩ = false := fun j => Lib.frozen_of_heap hb j
      by_cases h1 : y.k = 1
      · have h1' : (y.k == 1) = true := by rw [h1]; rfl
        have N1 : Hid (∃ cs'', (wr.setCell ⟨g, o + k * 5 + 2, none⟩ (.int .i64 t)).heap[g]? = some (.cells cs'' 38) ∧ cs''.toList = pvsC A ++ (pvsC ((M.take (k + 1)).map (gvP t)) ++ (pvsC (M.drop (k + 1)) ++ rest))) := by
          refine ⟨_, heap_setCell_same wr g (o + k * 5 + 2) cs' 38 _ hb, ?_⟩
          rw [Array.toList_setIfInBounds, hc2, ← hP, set_t, ht, pvsC_append, List.append_assoc, List.append_assoc]
          have : pvsC [gvP t y] = [.int .i64 y.k, .int .i64 y.n, .int .i64 t, .string y.s, .string y.f] := by unfold gvP; rw [if_pos h1]; rfl
          rw [this]
        have K1 := hide (HK.out.setCell (p := ⟨g, o + k * 5 + 2, none⟩) (.inl (by simp)) (.int .i64 t))
        have S1 := hide (show (wr.setCell ⟨g, o + k * 5 + 2, none⟩ (.int .i64 t)).heap.size = w.heap.size by rw [World.size_setCell]; exact HS.out)
        clear h1 hb hc hc2 hP ht hd hy gt
        go_wp2
        go_roundw
        case rel => exact ⟨k + 1, by omega, by go_num, N1.out, K1.out, S1.out⟩
        case measure => simp [intOf]; omega
      · have h1' : (y.k == 1) = false := by rw [beq_eq_false_iff_ne]; exact h1
        have N1 : Hid (∃ cs'', wr.heap[g]? = some (.cells cs'' 38) ∧ cs''.toList = pvsC A ++ (pvsC ((M.take (k + 1)).map (gvP t)) ++ (pvsC (M.drop (k + 1)) ++ rest))) := by
          refine ⟨cs', hb, ?_⟩
          rw [hc2, ht, pvsC_append, List.append_assoc, List.append_assoc]
          have : pvsC [gvP t y] = [.int .i64 y.k, .int .i64 y.n, .int .i64 y.t, .string y.s, .string y.f] := by unfold gvP; rw [if_neg h1]; rfl
          rw [this]
        clear h1 hb hc hc2 hP ht hd hy gt
        go_wp2
        go_roundw
        case rel => exact ⟨k + 1, by omega, by go_num, N1.out, HK.out, HS.out⟩
        case measure => simp [intOf]; omega
    · obtain rfl : k = m := by omega
      have N1 : Hid (∃ cs'', wr.heap[g]? = some (.cells cs'' 38) ∧ cs''.toList = pvsC A ++ (pvsC (M.map (gvP t)) ++ rest)) := by
        refine ⟨cs', hb, ?_⟩
        rw [hc, List.take_of_length_le (by rw [HM.out]; omega), List.drop_of_length_le (by rw [HM.out]; omega)]; rfl
      clear hb hc
      go_wp2
      refine bodyPost_end (results_none rfl _ _ _) rfl ⟨rfl, N1.out, HK.out, HS.out⟩
end Go.Proofs.YtldjiieckddhkaaGreatDoor
namespace Go.Proofs.YtldjiieckddhkaaGreatDoor
open Go.RowKit
def encB (b : UInt8) : Value := .int .u8 (b.toNat : Int)
def encK (f : List UInt8) : Array Value := (f.map encB).toArray
theorem encK_size (f : List UInt8) : (encK f).size = f.length := by simp [encK]
theorem encK_get (f : List UInt8) (k : Nat) (x : UInt8) (h : f[k]? = some x) : (encK f)[k]? = some (.int .u8 (x.toNat : Int)) := by
  unfold encK
  rw [List.getElem?_toArray, List.getElem?_map, h]; rfl
theorem addr_add (g j : Nat) : (⟨g, 0, none⟩ : Addr).add j = ⟨g, j, none⟩ := by unfold Addr.add; split <;> simp_all
theorem in5 : (Tryz.prog.info? 5).map (fun i => (i.zero, i.size, i.bytes)) = some (some (.int .u8 0), 1, 1) := by kernel_rfl
theorem z5 : (Tryz.prog.info? 5).map (·.size) = some 1 := by kernel_rfl
theorem c5w : Tryz.prog.cellsOf 5 = 1 := by kernel_rfl
theorem heap_setRow_same (w : World) (g : Nat) (old cs : Array Value) (t : TypeId) (hg : w.heap[g]? = some (.cells old t (0, 0))) : (w.setRow g cs).heap[g]? = some (.cells cs t (0, 0)) := setRow_heap w g old cs t _ hg
theorem below_setRow1 (w : World) (B g : Nat) (cs : Array Value) (h : B ≤ g) : Below B w (w.setRow g cs) :=
  ⟨rfl, rfl, rfl, by simp, fun k hk => by
    simp only [World.setRow, Array.getElem?_modify]
    rw [if_neg (by omega)]⟩
set_option maxRecDepth 100000 in
set_option maxHeartbeats 1600000 in
theorem clone_any (s : ByteArray) (hn : s.size ≤ 140737488355000) (w : World) :
    Calls Tryz.prog 78 #[.string s] w fun e w' => e = .returned (.string s) ∧ Below w.heap.size w w' := by
  by_cases h0 : s.size = 0
  · obtain rfl : s = ⟨#[]⟩ := ByteArray.ext (Array.eq_empty_of_size_eq_zero h0)
    go_enter Tryz.func78, Tryz.ntmps78
    go_wp2
    go_ret
    exact ⟨rfl, Below.refl _ _⟩
  · obtain ⟨i0, hi, hz0, hz1, hz2⟩ := info_parts in5
    have hne : s.data.toList ≠ [] := fun e => h0 (by rw [← text_len, e]; rfl)
    have hmk : ∀ u : World, (Instr.makeSlice 133 (.int .i64 (s.size : Int)) (.int .i64 (s.size : Int))).run Tryz.prog u =
        .ok (.slice (some ⟨u.heap.size, 0, none⟩) s.size s.size) (u.alloc (.cells (madeCells #[.int .u8 0] s.size) 5)) := fun u => by
      have h := run_make (P := Tryz.prog) u 133 5 i0 (.int .u8 0) Tryz.underlying133 hi hz0 .i64 .i64 (s.size : Int) (s.size : Int) (by omega) (by omega) (by rw [hz2]; omega) (by omega)
      simpa [hz1, Value.cells] using h
    have hMs : (madeCells #[.int .u8 0] s.size).size = s.size := by simp [madeCells]
    generalize madeCells #[.int .u8 0] s.size = M at *
    have hcp := Lib.run_copy_row_string (P := Tryz.prog) (w.alloc (.cells M 5)) 133 9 3 5 w.heap.size 0 s.size s.size s M 5 Tryz.underlying133 z5 (heap_alloc_new w _) (Nat.le_refl _) (by omega)
    have hY : (M.toList.take 0 ++ Lib.byteCells s.data.toList ++ M.toList.drop (0 + s.size)).toArray = encK s.data.toList := by
      rw [List.drop_of_length_le (by rw [Array.length_toList]; omega)]
      unfold encK Lib.byteCells
      simp
      exact fun _ _ => rfl
    rw [hY] at hcp
    have hgY := heap_setRow_same (w.alloc (.cells M 5)) w.heap.size M (encK s.data.toList) 5 (heap_alloc_new w _)
    have hB : Below w.heap.size w ((w.alloc (.cells M 5)).setRow w.heap.size (encK s.data.toList)) := ((Below.refl _ _).alloc (Nat.le_refl _) _).trans (below_setRow1 _ _ _ _ (by omega))
    have hUS := Lib.run_unsafeString_row (P := Tryz.prog) ((w.alloc (.cells M 5)).setRow w.heap.size (encK s.data.toList)) 134 3 9 5 Tryz.underlying134 c5w w.heap.size (encK s.data.toList).size (by unfold World.shape?; rw [hgY]) s.data.toList hne (by rw [encK_size]; exact Nat.le_refl _) (by rw [text_len]; omega)
      (fun j x hx => by rw [addr_add, cell_of_row _ _ _ _ _ _ hgY]; exact encK_get _ _ _ hx)
    rw [text_len] at hUS
    have hF : Hid (Below w.heap.size w (((w.alloc (.cells M 5)).setRow w.heap.size (encK s.data.toList)).freeze ⟨w.heap.size, 0, none⟩ s.size)) := Lib.below_freeze hB (p := ⟨w.heap.size, 0, none⟩) (Nat.le_refl _) _
    clear hY hMs hB hi hne hgY
    have i1 : ((s.size : Int) == 0) = false := by rw [beq_eq_false_iff_ne]; omega
    have i2 : (0 : Int) < (s.size : Int) := by omega
    generalize (w.alloc (.cells M 5)).setRow w.heap.size (encK s.data.toList) = W2 at *
    go_enter Tryz.func78, Tryz.ntmps78
    go_wp2
    go_ret
    exact ⟨rfl, hF⟩
set_option maxHeartbeats 800000 in
theorem sclone_any (s : ByteArray) (hn : s.size ≤ 140737488355000) (w : World) :
    Calls Tryz.prog 37 #[.string s] w fun e w' => e = .returned (.string s) ∧ Below w.heap.size w w' := by
  go_enter Tryz.func37, Tryz.ntmps37
  go_wp2_with fail
  refine (clone_any s hn _).mono ?_
  rintro e w1 ⟨rfl, hb1⟩
  have b1 : Hid (Below w.heap.size w w1) := hb1
  clear hb1
  go_wp2
  go_ret
  exact ⟨rfl, b1⟩
end Go.Proofs.YtldjiieckddhkaaGreatDoor
