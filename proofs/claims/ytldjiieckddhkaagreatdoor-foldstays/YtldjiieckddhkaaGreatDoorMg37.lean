/- fold.asked, fold.operated. | fold.give: numbers take a type, where they lie. | The contract of strings.Clone. | fold.copied: parts that share no memory. -/
import Derived.Test.YtldjiieckddhkaaGreatDoorMg36
import Derived.Lib.UnsafeStr
import Derived.Lib.BufferWrite
import Derived.OwnWalk
namespace Go.Proofs.YtldjiieckddhkaaGreatDoor
open Go.RowKit Go.Sort
set_option maxRecDepth 100000 in
set_option maxHeartbeats 1600000 in
theorem askF_any (y : Pv) (ov xv : Value) (of : List Int) (made : Int) (x : List Pv) (w : World) (hO : ILst w ov of) (h12 : of.length = 1 ∨ of.length = 2) (hX : PLst w xv x) (hlen : x.length ≤ 1000000) (hg : Glo w) :
    Calls Tryz.prog 45 #[.agg #[.int .i64 y.k, .int .i64 y.n, .int .i64 y.t, .string y.s, .string y.f], ov, .int .i64 made, xv] w fun e w' => e = .returned (.int .i64 (askT (ptV y) of made (x.map ptV))) ∧ Below w.heap.size w w' := by
  have HE : Hid (askT (ptV y) of made (x.map ptV) = if y.k = 3 then idxT (x.map ptV) else if y.k = 6 then 3 else if made = 0 then 0 else if maxT of = 0 then 3 else maxT of) := rfl
  generalize askT (ptV y) of made (x.map ptV) = R at *
  obtain ⟨W0, hW0⟩ : ∃ W0, W0 = w.alloc (.cells #[.int .i64 y.k, .int .i64 y.n, .int .i64 y.t, .string y.s, .string y.f] 38) := ⟨_, rfl⟩
  have B0 : Below w.heap.size w W0 := by rw [hW0]; exact (Below.refl w.heap.size w).alloc (Nat.le_refl _) _
  have ci := indexType_any xv x W0 (hX.below B0 (Nat.le_refl _)) hlen (hg.below B0 hg.lt)
  have cm := max_any ov of W0 (hO.below B0) h12
  obtain ⟨oa, on_, ocp, rfl⟩ : ∃ a n cp, ov = .slice a n cp := by obtain ⟨a, b, cap, h, -⟩ := hO; exact ⟨a, _, cap, h⟩
  obtain ⟨xa, xn, xcp, rfl⟩ : ∃ a n cp, xv = .slice a n cp := by obtain ⟨a, b, off, cap, h, -⟩ := hX; exact ⟨a, _, cap, h⟩
  have HW0 := hide hW0
  have HB0 := hide B0
  clear hO hX hg hW0 B0 h12
  by_cases h3 : y.k = 3
  · have k3 : (y.k == 3) = true := by rw [h3]; rfl
    rw [if_pos h3] at HE
    clear h3 cm
    go_enter Tryz.func45, Tryz.ntmps45
    go_wp2_with fail
    rw [← HW0.out]
    refine ci.mono ?_
    rintro e W1 ⟨rfl, hb⟩
    have HB := hide (HB0.out.trans (hb.mono HB0.out.size))
    clear ci hb
    go_wp2
    go_ret
    exact ⟨by rw [HE.out]; rfl, HB.out⟩
  · have k3 : (y.k == 3) = false := by rw [beq_eq_false_iff_ne]; exact h3
    rw [if_neg h3] at HE
    clear h3 ci
    by_cases h6 : y.k = 6
    · have k6 : (y.k == 6) = true := by rw [h6]; rfl
      rw [if_pos h6] at HE
      clear h6 cm
      have HB := hide (show Below w.heap.size w (w.alloc (.cells #[.int .i64 y.k, .int .i64 y.n, .int .i64 y.t, .string y.s, .string y.f] 38)) by rw [← HW0.out]; exact HB0.out)
      go_enter Tryz.func45, Tryz.ntmps45
      go_wp2
      go_ret
      exact ⟨by rw [HE.out]; rfl, HB.out⟩
    · have k6 : (y.k == 6) = false := by rw [beq_eq_false_iff_ne]; exact h6
      rw [if_neg h6] at HE
      clear h6
      by_cases hm : made = 0
      · subst hm
        rw [if_pos rfl] at HE
        clear cm
        have HB := hide (show Below w.heap.size w (w.alloc (.cells #[.int .i64 y.k, .int .i64 y.n, .int .i64 y.t, .string y.s, .string y.f] 38)) by rw [← HW0.out]; exact HB0.out)
        go_enter Tryz.func45, Tryz.ntmps45
        go_wp2
        go_ret
        exact ⟨by rw [HE.out]; rfl, HB.out⟩
      · have m0 : (made == 0) = false := by rw [beq_eq_false_iff_ne]; exact hm
        rw [if_neg hm] at HE
        clear hm
        obtain ⟨M, hM⟩ : ∃ M, M = maxT of := ⟨_, rfl⟩
        rw [← hM] at cm HE
        clear hM
        obtain ⟨W1, hW1⟩ : ∃ W1, W1 = W0.alloc (.cells #[.int .i64 M, .int .i64 3] 3) := ⟨_, rfl⟩
        have hh : W1.heap[W0.heap.size]? = some (.cells #[.int .i64 M, .int .i64 3] 3) := by rw [hW1]; exact heap_alloc_new W0 _
        have co := or_two M W0.heap.size 2 W1 (by rw [Lib.cell_of_heap hh]; rfl) (by rw [Lib.cell_of_heap hh]; rfl)
        rw [show W0.heap.size = w.heap.size + 1 by rw [HW0.out, World.size_alloc]] at co
        have HB1 := hide (show Below w.heap.size w W1 by rw [hW1]; exact HB0.out.alloc HB0.out.size _)
        have HW1 := hide hW1
        have zz : W0.heap.size = w.heap.size + 1 := by rw [HW0.out, World.size_alloc]
        clear hh hW1
        generalize (if M = 0 then (3 : Int) else M) = Q at *
        go_enter Tryz.func45, Tryz.ntmps45
        go_wp2_with fail
        rw [← HW0.out]
        refine cm.mono ?_
        rintro e W2 ⟨rfl, rfl⟩
        clear cm
        go_wp2_with fail
        rw [← HW1.out]
        refine co.mono ?_
        rintro e W2 ⟨rfl, rfl⟩
        clear co
        go_wp2
        go_ret
        exact ⟨by rw [HE.out]; rfl, HB1.out⟩
set_option maxRecDepth 100000 in
set_option maxHeartbeats 1600000 in
theorem operated_any (op : Int) (v : Value) (x : List Pv) (w : World) (hL : PLst w v x) (h12 : x.length = 1 ∨ x.length = 2) (hg : Glo w) :
    Calls Tryz.prog 93 #[.int .i64 op, v] w fun e w' => (∀ a, x = [a] → e = .returned (.tuple #[.int .i64 (Four.oneN op a.t a.n).1, .int .i64 (Four.oneN op a.t a.n).2])) ∧ (∀ a b, x = [a, b] → e = .returned (.tuple #[.int .i64 (Four.twoN op a.t a.n b.n).1, .int .i64 (Four.twoN op a.t a.n b.n).2])) ∧ Below w.heap.size w w' := by
  obtain ⟨a, b, off, cap, rfl, hA, hI⟩ := hL
  obtain ⟨hbw, rfl⟩ := hA (by omega)
  rcases h12 with h | h
  · obtain ⟨p, rfl⟩ : ∃ p, x = [p] := by match x, h with | [p], _ => exact ⟨p, rfl⟩
    obtain ⟨q0, q1, q2, q3, q4⟩ := hI 0 p rfl
    simp only [Nat.zero_mul, Nat.add_zero] at q0 q1 q2 q3 q4
    have y1 : ∀ dd os, (grow (redrawn w dd) os).cell? ⟨b, off + 1, none⟩ = some (.int .i64 p.n) := cell_regrown q1
    have y2 : ∀ dd os, (grow (redrawn w dd) os).cell? ⟨b, off + 2, none⟩ = some (.int .i64 p.t) := cell_regrown q2
    have c : ∀ dd os, Calls Tryz.prog 129 #[.int .i64 op, .int .i64 p.t, .int .i64 p.n] (grow (redrawn w dd) os) fun e w2 => e = .returned (.tuple #[.int .i64 (Four.oneN op p.t p.n).1, .int .i64 (Four.oneN op p.t p.n).2]) ∧ ∃ q : Regrown, w2 = grow (redrawn w q.d) q.os := fun dd os => Calls.regrown_of (Four.one_any _ _ _ _ (hg.below (below_regrown w dd os) hg.lt).four)
    have HB : Hid (∀ dd os, Below w.heap.size w (grow (redrawn w dd) os)) := fun dd os => below_regrown w dd os
    show Calls Tryz.prog 93 #[_, .slice (some ⟨b, off, none⟩) 1 cap] w _
    obtain ⟨⟨N1, N2⟩, hN⟩ : ∃ N, N = Four.oneN op p.t p.n := ⟨_, rfl⟩
    rw [← hN] at c
    have HN := hide hN
    clear hI hA hg q0 q1 q2 q3 q4 hbw h hN
    simp only [] at c
    go_enter Tryz.func93, Tryz.ntmps93
    go_wp2_with fail
    refine wp_region_quiet_below (by kernel_rfl) (by kernel_rfl) ?_
    repeat (go_big_quiet_step (first | (go_at_call 129; with_reducible exact c _ _)))
    refine wpQuiet_nil ?_
    intro _ hw'
    obtain ⟨⟨dq, osq⟩, hw''⟩ := hw'
    subst hw''
    go_wp2
    go_ret2
    exact ⟨fun a ha => by obtain ⟨rfl, -⟩ := List.cons.inj ha; rw [← HN.out]; rfl, fun a b ha => by exact absurd (congrArg List.length ha) (by simp), HB.out _ _⟩
  · obtain ⟨p, r, rfl⟩ : ∃ p r, x = [p, r] := by match x, h with | [p, r], _ => exact ⟨p, r, rfl⟩
    obtain ⟨q0, q1, q2, q3, q4⟩ := hI 0 p rfl
    obtain ⟨s0, s1, s2, s3, s4⟩ := hI 1 r rfl
    simp only [Nat.zero_mul, Nat.add_zero, Nat.one_mul] at q0 q1 q2 q3 q4 s0 s1 s2 s3 s4
    have y1 : ∀ dd os, (grow (redrawn w dd) os).cell? ⟨b, off + 1, none⟩ = some (.int .i64 p.n) := cell_regrown q1
    have y2 : ∀ dd os, (grow (redrawn w dd) os).cell? ⟨b, off + 2, none⟩ = some (.int .i64 p.t) := cell_regrown q2
    have y3 : ∀ dd os, (grow (redrawn w dd) os).cell? ⟨b, off + 5 + 1, none⟩ = some (.int .i64 r.n) := cell_regrown s1
    have c : ∀ dd os, Calls Tryz.prog 21 #[.int .i64 op, .int .i64 p.t, .int .i64 p.n, .int .i64 r.n] (grow (redrawn w dd) os) fun e w2 => e = .returned (.tuple #[.int .i64 (Four.twoN op p.t p.n r.n).1, .int .i64 (Four.twoN op p.t p.n r.n).2]) ∧ ∃ q : Regrown, w2 = grow (redrawn w q.d) q.os := fun dd os => Calls.regrown_of (Four.two_any _ _ _ _ _ (hg.below (below_regrown w dd os) hg.lt).four)
    have HB : Hid (∀ dd os, Below w.heap.size w (grow (redrawn w dd) os)) := fun dd os => below_regrown w dd os
    show Calls Tryz.prog 93 #[_, .slice (some ⟨b, off, none⟩) 2 cap] w _
    obtain ⟨⟨N1, N2⟩, hN⟩ : ∃ N, N = Four.twoN op p.t p.n r.n := ⟨_, rfl⟩
    rw [← hN] at c
    have HN := hide hN
    clear hI hA hg q0 q1 q2 q3 q4 s0 s1 s2 s3 s4 hbw h hN
    simp only [] at c
    go_enter Tryz.func93, Tryz.ntmps93
    go_wp2_with fail
    refine wp_region_quiet_below (by kernel_rfl) (by kernel_rfl) ?_
    repeat (go_big_quiet_step (first | (go_at_call 21; with_reducible exact c _ _)))
    refine wpQuiet_nil ?_
    intro _ hw'
    obtain ⟨⟨dq, osq⟩, hw''⟩ := hw'
    subst hw''
    go_wp2
    go_ret2
    exact ⟨fun a ha => by exact absurd (congrArg List.length ha) (by simp), fun a b ha => by obtain ⟨rfl, hb⟩ := List.cons.inj ha; obtain ⟨rfl, -⟩ := List.cons.inj hb; rw [← HN.out]; rfl, HB.out _ _⟩
end Go.Proofs.YtldjiieckddhkaaGreatDoor
namespace Go.Proofs.YtldjiieckddhkaaGreatDoor
open Go.RowKit Go.Sort
/-- all blocks but these are kept -/
structure KeepX (O : List Nat) (w w' : World) : Prop where
  os : w'.os = w.os
  tape : w'.tape = w.tape
  output : w'.output = w.output
  size : w.heap.size ≤ w'.heap.size
  block : ∀ k, k < w.heap.size → k ∉ O → w'.heap[k]? = w.heap[k]?
theorem KeepX.refl (O : List Nat) (w : World) : KeepX O w w := ⟨rfl, rfl, rfl, Nat.le_refl _, fun _ _ _ => rfl⟩
theorem KeepX.trans {O : List Nat} {a b c : World} (h : KeepX O a b) (k : KeepX O b c) : KeepX O a c :=
  ⟨k.os.trans h.os, k.tape.trans h.tape, k.output.trans h.output, Nat.le_trans h.size k.size, fun j hj ho => (k.block j (Nat.lt_of_lt_of_le hj h.size) ho).trans (h.block j hj ho)⟩
theorem KeepX.of_below {O : List Nat} {w w' : World} (h : Below w.heap.size w w') : KeepX O w w' := ⟨h.os, h.tape, h.output, h.size, fun k hk _ => h.block k hk⟩
theorem KeepX.setCell {O : List Nat} {a w : World} (h : KeepX O a w) {p : Addr} (hp : p.block ∈ O ∨ a.heap.size ≤ p.block) (u : Value) : KeepX O a (w.setCell p u) :=
  ⟨h.os, h.tape, h.output, by rw [World.size_setCell]; exact h.size, fun k hk ho => (Below.heap_setCell w p u k (fun e => by subst e; rcases hp with hp | hp; exact ho hp; omega)).trans (h.block k hk ho)⟩
theorem KeepX.cell {O : List Nat} {w w' : World} (h : KeepX O w w') {b o : Nat} (hb : b < w.heap.size) (ho : b ∉ O) : w'.cell? ⟨b, o, none⟩ = w.cell? ⟨b, o, none⟩ := by
  have := h.block b hb ho
  unfold World.cell?
  simp only [this]
def gvP (t : Int) (y : Pv) : Pv := if y.k = 1 then ⟨y.k, y.n, t, y.s, y.f⟩ else y
theorem gvP_pt (t : Int) (y : Pv) : ptV (gvP t y) = give1 t (ptV y) := by
  unfold gvP give1
  by_cases h : y.k = 1
  · rw [if_pos h, if_pos (show (ptV y).kind = 1 from h)]; rfl
  · rw [if_neg h, if_neg (show ¬ (ptV y).kind = 1 from h)]
theorem pvsC_cons (y : Pv) (l : List Pv) : pvsC (y :: l) = pvC y ++ pvsC l := rfl
theorem set_t (P Q : List Value) (a b c d e x : Value) : (P ++ ([a, b, c, d, e] ++ Q)).set (P.length + 2) x = P ++ ([a, b, x, d, e] ++ Q) := by
  rw [List.set_append, if_neg (by omega), Nat.add_sub_cancel_left]; rfl
set_option maxRecDepth 100000 in
set_option maxHeartbeats 1600000 in
theorem give_any (g m cp : Nat) (t : Int) (A M : List Pv) (rest : List Value) (cs : Array Value) (w : World) (hblk : w.heap[g]? = some (.cells cs 38)) (hcs : cs.toList = pvsC A ++ (pvsC M ++ rest)) (hm : M.length = m) (hl : A.length + m ≤ 1000000) :
    Calls Tryz.prog 44 #[.slice (some ⟨g, A.length * 5, none⟩) m cp, .int .i64 t] w fun e w' => e = .returned (.tuple #[]) ∧ (∃ cs', w'.heap[g]? = some (.cells cs' 38) ∧ cs'.toList = pvsC A ++ (pvsC (M.map (gvP t)) ++ rest)) ∧ KeepX [g] w w' ∧ w'.heap.size = w.heap.size := by
  have HB0 := hide hblk
  have HC0 := hide hcs
  have HM := hide hm
  have n5 : (m : Int) ≤ 1000000 := by omega
  have n0 : (0 : Int) ≤ (m : Int) := by omega
  obtain ⟨o, ho⟩ : ∃ o, o = A.length * 5 := ⟨_, rfl⟩
  rw [← ho]
  have HO := hide ho
  clear hblk hcs hm hl ho
  go_enter Tryz.func44, Tryz.ntmps44
  go_wp2_with fail
  go_loopw [7] (fun i wr => ∃ (k : Nat), k ≤ m ∧ i = .int .i64 (k : Int) ∧ Hid ((∃ cs', wr.heap[g]? = some (.cells cs' 38) ∧ cs'.toList = pvsC A ++ (pvsC ((M.take k).map (gvP t)) ++ (pvsC (M.drop k) ++ rest))) ∧ KeepX [g] w wr ∧ wr.heap.size = w.heap.size)) (fun i _ => m - (intOf i).toNat)
  case atStart => exact ⟨0, by omega, rfl, ⟨cs, HB0.out, by rw [HC0.out]; rfl⟩, KeepX.refl _ _, rfl⟩
  case round =>
    obtain ⟨k, hk, rfl, hh⟩ := hrel
    obtain ⟨⟨cs', hb, hc⟩, hK, hsz⟩ := hh.out
    have HK := hide hK
    have HS := hide hsz
    clear hh hK hsz
    by_cases hlt : k < m
    · have j1 : (k : Int) < (m : Int) := by omega
      have j0 : (0 : Int) ≤ (k : Int) := by omega
      have hkm : k < M.length := by rw [HM.out]; exact hlt
      obtain ⟨y, hy⟩ : ∃ y, M[k]? = some y := ⟨_, List.getElem?_eq_getElem hkm⟩
      have hd : M.drop k = y :: M.drop (k + 1) := by
        rw [List.drop_eq_getElem_cons hkm]
        congr 1
        exact Option.some.inj ((List.getElem?_eq_getElem hkm).symm.trans hy)
      have ht : (M.take (k + 1)).map (gvP t) = (M.take k).map (gvP t) ++ [gvP t y] := by rw [List.take_add_one, hy, List.map_append]; rfl
      rw [hd, pvsC_cons] at hc
      have hP : (pvsC A ++ pvsC ((M.take k).map (gvP t))).length = o + k * 5 := by rw [List.length_append, pvsC_length, pvsC_length, List.length_map, List.length_take, HO.out]; omega
      have hc2 : cs'.toList = (pvsC A ++ pvsC ((M.take k).map (gvP t))) ++ ([.int .i64 y.k, .int .i64 y.n, .int .i64 y.t, .string y.s, .string y.f] ++ (pvsC (M.drop (k + 1)) ++ rest)) := by rw [hc, List.append_assoc, List.append_assoc]; rfl
      have gt : ∀ j u, ([.int .i64 y.k, .int .i64 y.n, .int .i64 y.t, .string y.s, .string y.f] : List Value)[j]? = some u → wr.cell? ⟨g, o + k * 5 + j, none⟩ = some u := fun j u hu => by
        rw [Lib.cell_of_heap hb, ← Array.getElem?_toList, hc2, List.getElem?_append_right (by omega), hP, Nat.add_sub_cancel_left, List.getElem?_append_left (List.getElem?_eq_some_iff.1 hu).1]; exact hu
      have c0 : wr.cell? ⟨g, o + k * 5, none⟩ = some (.int .i64 y.k) := gt 0 _ rfl
      have c2 : wr.cell? ⟨g, o + k * 5 + 2, none⟩ = some (.int .i64 y.t) := gt 2 _ rfl
      have fz : ∀ j, wr.frozen? ⟨g, j, none⟩ = false := fun j => Lib.frozen_of_heap hb j
      by_cases h1 : y.k = 1
      · have h1' : (y.k == 1) = true := by rw [h1]; rfl
        have N1 : Hid (∃ cs'', (wr.setCell ⟨g, o + k * 5 + 2, none⟩ (.int .i64 t)).heap[g]? = some (.cells cs'' 38) ∧ cs''.toList = pvsC A ++ (pvsC ((M.take (k + 1)).map (gvP t)) ++ (pvsC (M.drop (k + 1)) ++ rest))) := by
          refine ⟨_, heap_setCell_same wr g (o + k * 5 + 2) cs' 38 _ hb, ?_⟩
          rw [Array.toList_setIfInBounds, hc2, ← hP, set_t, ht, pvsC_append, List.append_assoc, List.append_assoc]
          have : pvsC [gvP t y] = [.int .i64 y.k, .int .i64 y.n, .int .i64 t, .string y.s, .string y.f] := by unfold gvP; rw [if_pos h1]; rfl
          rw [this]
        have K1 := hide (HK.out.setCell (p := ⟨g, o + k * 5 + 2, none⟩) (.inl (by simp)) (.int .i64 t))
        have S1 := hide (show (wr.setCell ⟨g, o + k * 5 + 2, none⟩ (.int .i64 t)).heap.size = w.heap.size by rw [World.size_setCell]; exact HS.out)
        clear h1 hb hc hc2 hP ht hd hy gt
        go_wp2
        go_roundw
        case rel => exact ⟨k + 1, by omega, by go_num, N1.out, K1.out, S1.out⟩
        case measure => simp [intOf]; omega
      · have h1' : (y.k == 1) = false := by rw [beq_eq_false_iff_ne]; exact h1
        have N1 : Hid (∃ cs'', wr.heap[g]? = some (.cells cs'' 38) ∧ cs''.toList = pvsC A ++ (pvsC ((M.take (k + 1)).map (gvP t)) ++ (pvsC (M.drop (k + 1)) ++ rest))) := by
          refine ⟨cs', hb, ?_⟩
          rw [hc2, ht, pvsC_append, List.append_assoc, List.append_assoc]
          have : pvsC [gvP t y] = [.int .i64 y.k, .int .i64 y.n, .int .i64 y.t, .string y.s, .string y.f] := by unfold gvP; rw [if_neg h1]; rfl
          rw [this]
        clear h1 hb hc hc2 hP ht hd hy gt
        go_wp2
        go_roundw
        case rel => exact ⟨k + 1, by omega, by go_num, N1.out, HK.out, HS.out⟩
        case measure => simp [intOf]; omega
    · obtain rfl : k = m := by omega
      have N1 : Hid (∃ cs'', wr.heap[g]? = some (.cells cs'' 38) ∧ cs''.toList = pvsC A ++ (pvsC (M.map (gvP t)) ++ rest)) := by
        refine ⟨cs', hb, ?_⟩
        rw [hc, List.take_of_length_le (by rw [HM.out]; omega), List.drop_of_length_le (by rw [HM.out]; omega)]; rfl
      clear hb hc
      go_wp2
      refine bodyPost_end (results_none rfl _ _ _) rfl ⟨rfl, N1.out, HK.out, HS.out⟩
end Go.Proofs.YtldjiieckddhkaaGreatDoor
namespace Go.Proofs.YtldjiieckddhkaaGreatDoor
open Go.RowKit
def encB (b : UInt8) : Value := .int .u8 (b.toNat : Int)
def encK (f : List UInt8) : Array Value := (f.map encB).toArray
theorem encK_size (f : List UInt8) : (encK f).size = f.length := by simp [encK]
theorem encK_get (f : List UInt8) (k : Nat) (x : UInt8) (h : f[k]? = some x) : (encK f)[k]? = some (.int .u8 (x.toNat : Int)) := by
  unfold encK
  rw [List.getElem?_toArray, List.getElem?_map, h]; rfl
theorem addr_add (g j : Nat) : (⟨g, 0, none⟩ : Addr).add j = ⟨g, j, none⟩ := by unfold Addr.add; split <;> simp_all
theorem in5 : (Tryz.prog.info? 5).map (fun i => (i.zero, i.size, i.bytes)) = some (some (.int .u8 0), 1, 1) := by kernel_rfl
theorem z5 : (Tryz.prog.info? 5).map (·.size) = some 1 := by kernel_rfl
theorem c5w : Tryz.prog.cellsOf 5 = 1 := by kernel_rfl
theorem heap_setRow_same (w : World) (g : Nat) (old cs : Array Value) (t : TypeId) (hg : w.heap[g]? = some (.cells old t (0, 0))) : (w.setRow g cs).heap[g]? = some (.cells cs t (0, 0)) := setRow_heap w g old cs t _ hg
theorem below_setRow1 (w : World) (B g : Nat) (cs : Array Value) (h : B ≤ g) : Below B w (w.setRow g cs) :=
  ⟨rfl, rfl, rfl, by simp, fun k hk => by
    simp only [World.setRow, Array.getElem?_modify]
    rw [if_neg (by omega)]⟩
set_option maxRecDepth 100000 in
set_option maxHeartbeats 1600000 in
theorem clone_any (s : ByteArray) (hn : s.size ≤ 140737488355000) (w : World) :
    Calls Tryz.prog 78 #[.string s] w fun e w' => e = .returned (.string s) ∧ Below w.heap.size w w' := by
  by_cases h0 : s.size = 0
  · obtain rfl : s = ⟨#[]⟩ := ByteArray.ext (Array.eq_empty_of_size_eq_zero h0)
    go_enter Tryz.func78, Tryz.ntmps78
    go_wp2
    go_ret
    exact ⟨rfl, Below.refl _ _⟩
  · obtain ⟨i0, hi, hz0, hz1, hz2⟩ := info_parts in5
    have hne : s.data.toList ≠ [] := fun e => h0 (by rw [← text_len, e]; rfl)
    have hmk : ∀ u : World, (Instr.makeSlice 133 (.int .i64 (s.size : Int)) (.int .i64 (s.size : Int))).run Tryz.prog u =
        .ok (.slice (some ⟨u.heap.size, 0, none⟩) s.size s.size) (u.alloc (.cells (madeCells #[.int .u8 0] s.size) 5)) := fun u => by
      have h := run_make (P := Tryz.prog) u 133 5 i0 (.int .u8 0) Tryz.underlying133 hi hz0 .i64 .i64 (s.size : Int) (s.size : Int) (by omega) (by omega) (by rw [hz2]; omega) (by omega)
      simpa [hz1, Value.cells] using h
    have hMs : (madeCells #[.int .u8 0] s.size).size = s.size := by simp [madeCells]
    generalize madeCells #[.int .u8 0] s.size = M at *
    have hcp := Lib.run_copy_row_string (P := Tryz.prog) (w.alloc (.cells M 5)) 133 9 3 5 w.heap.size 0 s.size s.size s M 5 Tryz.underlying133 z5 (heap_alloc_new w _) (Nat.le_refl _) (by omega)
    have hY : (M.toList.take 0 ++ Lib.byteCells s.data.toList ++ M.toList.drop (0 + s.size)).toArray = encK s.data.toList := by
      rw [List.drop_of_length_le (by rw [Array.length_toList]; omega)]
      unfold encK Lib.byteCells
      simp
      exact fun _ _ => rfl
    rw [hY] at hcp
    have hgY := heap_setRow_same (w.alloc (.cells M 5)) w.heap.size M (encK s.data.toList) 5 (heap_alloc_new w _)
    have hB : Below w.heap.size w ((w.alloc (.cells M 5)).setRow w.heap.size (encK s.data.toList)) := ((Below.refl _ _).alloc (Nat.le_refl _) _).trans (below_setRow1 _ _ _ _ (by omega))
    have hUS := Lib.run_unsafeString_row (P := Tryz.prog) ((w.alloc (.cells M 5)).setRow w.heap.size (encK s.data.toList)) 134 3 9 5 Tryz.underlying134 c5w w.heap.size (encK s.data.toList).size (by unfold World.shape?; rw [hgY]) s.data.toList hne (by rw [encK_size]; exact Nat.le_refl _) (by rw [text_len]; omega)
      (fun j x hx => by rw [addr_add, cell_of_row _ _ _ _ _ _ hgY]; exact encK_get _ _ _ hx)
    rw [text_len] at hUS
    have hF : Hid (Below w.heap.size w (((w.alloc (.cells M 5)).setRow w.heap.size (encK s.data.toList)).freeze ⟨w.heap.size, 0, none⟩ s.size)) := Lib.below_freeze hB (p := ⟨w.heap.size, 0, none⟩) (Nat.le_refl _) _
    clear hY hMs hB hi hne hgY
    have i1 : ((s.size : Int) == 0) = false := by rw [beq_eq_false_iff_ne]; omega
    have i2 : (0 : Int) < (s.size : Int) := by omega
    generalize (w.alloc (.cells M 5)).setRow w.heap.size (encK s.data.toList) = W2 at *
    go_enter Tryz.func78, Tryz.ntmps78
    go_wp2
    go_ret
    exact ⟨rfl, hF⟩
set_option maxHeartbeats 800000 in
theorem sclone_any (s : ByteArray) (hn : s.size ≤ 140737488355000) (w : World) :
    Calls Tryz.prog 37 #[.string s] w fun e w' => e = .returned (.string s) ∧ Below w.heap.size w w' := by
  go_enter Tryz.func37, Tryz.ntmps37
  go_wp2_with fail
  refine (clone_any s hn _).mono ?_
  rintro e w1 ⟨rfl, hb1⟩
  have b1 : Hid (Below w.heap.size w w1) := hb1
  clear hb1
  go_wp2
  go_ret
  exact ⟨rfl, b1⟩
end Go.Proofs.YtldjiieckddhkaaGreatDoor
namespace Go.Proofs.YtldjiieckddhkaaGreatDoor
open Go.RowKit Go.Sort
theorem in38 : (Tryz.prog.info? 38).map (fun i => (i.zero, i.size, i.bytes)) = some (some (.agg #[.int .i64 0, .int .i64 0, .int .i64 0, .string ⟨#[]⟩, .string ⟨#[]⟩]), 5, 56) := by kernel_rfl
set_option maxRecDepth 100000 in
theorem eq23 (a : Addr) (n cap : Nat) (W : World) : (binOp .eql 23 (.slice (some a) n cap) (.slice none 0 0)).run Tryz.prog W = .ok (.bool false) W := by rfl
set_option maxRecDepth 100000 in
set_option maxHeartbeats 1600000 in
theorem pclone_any (b off cap : Nat) (x : List Pv) (w : World) (hb : b < w.heap.size) (hI : PvAt w b off x) (h1 : 1 ≤ x.length) (hlen : x.length ≤ 1000000) :
    Calls Tryz.prog 81 #[.slice (some ⟨b, off, none⟩) x.length cap] w fun e w' => (∃ g c, e = .returned (.slice (some ⟨g, 0, none⟩) x.length c) ∧ w'.ownsRow w.heap.size 38 5 (.slice (some ⟨g, 0, none⟩) x.length c) x.length (pvsC x)) ∧ Below w.heap.size w w' := by
  have HP := hide (pv_cells hI)
  have H1 := hide (pvsC_one x)
  have HL := hide (pvsC_length x)
  obtain ⟨i0, hi, hz0, hz1, hz2⟩ := info_parts in38
  obtain ⟨n, hn⟩ : ∃ n, n = x.length := ⟨_, rfl⟩
  rw [← hn] at h1 hlen HL ⊢
  clear hI hn
  have e0 := eq23 ⟨b, off, none⟩ n cap
  have O0 : Hid ((w.alloc (.cells #[] 38)).ownsRow w.heap.size 38 5 (.slice (some ⟨w.heap.size, 0, none⟩) 0 0) 0 []) := by
    refine ⟨rfl, .inr ⟨w.heap.size, 0, #[], rfl, Nat.le_refl _, heap_alloc_new w _, Nat.le_refl _, ?_, ?_, ?_⟩⟩ <;> first | rfl | simp
  have HP1 : Hid (∀ j u, (pvsC x)[j]? = some u → (w.alloc (.cells #[] 38)).cell? ((⟨b, off, none⟩ : Addr).add j) = some u) := fun j u hu => by
    have h := HP.out j u hu
    rw [Addr.add_mid] at h ⊢
    exact (((Below.refl w.heap.size w).alloc (Nat.le_refl _) (.cells #[] 38)).cell (p := ⟨b, off + j, none⟩) hb).trans h
  have B0 := hide ((Below.refl w.heap.size w).alloc (Nat.le_refl _) (.cells #[] 38))
  go_enter Tryz.func81, Tryz.ntmps81
  go_wp2_with (at_builtin; go_must (refine wpList_append_lies _ rfl _ _ 23 rfl w.heap.size 38 i0 _ 5 56 Tryz.underlying23 hi hz0 hz1 hz2 rfl (by omega) (.slice (some ⟨w.heap.size, 0, none⟩) 0 0) 0 [] rfl O0.out ⟨b, off, none⟩ n cap (pvsC x) rfl HL.out HP1.out H1.out (by omega) (by unfold maxLen; omega) (by omega) (by simp) (w.heap.size + 1) (by simp) ?_; intro g c w1 hown hgrow hat hlt))
  have HO := hide hown
  have HB := hide (B0.out.grown hgrow (by simp) (fun r hr => by have := (O0.out.lt r hr).1; omega))
  clear hown hgrow hat hlt
  go_wp2
  go_ret
  exact ⟨⟨g, c, by simp, by have := HO.out; simpa using this⟩, HB.out⟩
end Go.Proofs.YtldjiieckddhkaaGreatDoor
