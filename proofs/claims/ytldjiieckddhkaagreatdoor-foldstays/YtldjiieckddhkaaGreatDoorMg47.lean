/- The walk of FoldNames. | The contract of the book's SameParts. -/
import Derived.Test.YtldjiieckddhkaaGreatDoorMg46
import Derived.Test.YtldjiieckddhkaaGreatDoorMg44
import Derived.BigQuiet
import Derived.Test.YtldjiieckddhkaaGreatDoorMg12
import Derived.Deep.RegionHeld3
import Derived.Deep.QuietTactic
namespace Go.Proofs.YtldjiieckddhkaaGreatDoor
open Go.RowKit Go.Sort Go.Lib
/-- a slice that reads as a list of texts -/
def SLst (w : World) (v : Value) (l : List Bs) : Prop :=
  ∃ (a : Option Addr) (b off cap : Nat), v = .slice a l.length cap ∧ (0 < l.length → b < w.heap.size ∧ a = some ⟨b, off, none⟩) ∧ ∀ i s, l[i]? = some s → w.cell? ⟨b, off + i, none⟩ = some (.string ⟨s.toArray⟩)
theorem SLst.below {w w' : World} {v : Value} {l : List Bs} {B : Nat} (h : SLst w v l) (hb : Below B w w') (hB : w.heap.size ≤ B) : SLst w' v l := by
  obtain ⟨a, b, off, cap, rfl, hA, hI⟩ := h
  refine ⟨a, b, off, cap, rfl, fun h => ⟨by have := hb.size; have := (hA h).1; omega, (hA h).2⟩, fun i s hs => ?_⟩
  have hlt : b < B := by have := (hA (by have := (List.getElem?_eq_some_iff.1 hs).1; omega)).1; omega
  exact (hb.cell (p := ⟨b, _, none⟩) hlt).trans (hI i s hs)
theorem SLst.of_owns {w : World} {base : Nat} {v : Value} {l : List Bs} (h : w.ownsRow base 9 1 v l.length (l.map encStr)) : SLst w v l := by
  rcases h.2 with ⟨rfl, h0⟩ | ⟨g, cap, cur, rfl, hb, hg, hn, hm, hc, ht⟩
  · have hl : l = [] := List.eq_nil_of_length_eq_zero h0
    subst hl
    exact ⟨none, 0, 0, 0, rfl, fun h => absurd h (Nat.lt_irrefl 0), fun i x hx => by cases hx⟩
  · refine ⟨some ⟨g, 0, none⟩, g, 0, cap, rfl, fun _ => ⟨(Array.getElem?_eq_some_iff.1 hg).1, rfl⟩, fun i s hs => ?_⟩
    obtain ⟨hi, he⟩ := List.getElem?_eq_some_iff.1 hs
    rw [Nat.zero_add, h.cellAt i (by omega), List.getElem?_map, hs]
    rfl
theorem neq_text (s : ByteArray) (W : World) : (binOp .neq 9 (.string s) (.string s)).run Tryz.prog W = .ok (.bool false) W := by
  simp [go_sem]
theorem eql_text (s : ByteArray) (W : World) : (binOp .eql 9 (.string s) (.string s)).run Tryz.prog W = .ok (.bool true) W := by
  simp [go_sem]
theorem nmL_is (x : List Pt) : nmL x = nmsL x := by
  unfold nmL nmsL
  congr 1
  funext s
  cases s <;> rfl
theorem nmsS_len (x : List Pt) (h : x.length ≤ 500) : (nmsS x).length ≤ 500 := by
  have h1 : (nmsL x).length ≤ 500 := by
    unfold nmsL
    exact Nat.le_trans (List.length_filter_le _ _) (by rw [List.length_map]; exact h)
  unfold nmsS compact compactUpTo
  rw [List.length_map]
  refine Nat.le_trans (List.length_filter_le _ _) ?_
  rw [List.length_range, List.length_mergeSort]
  exact h1
/-- names of parts that may be -/
theorem names_lst (v : Value) (x : List Pv) (w : World) (S : List Bs) (hL : PLst w v x) (hc : checkP (x.map ptV) = 0) (hS : nmsS (x.map ptV) = S) (hg : Glo w) : Calls Tryz.prog 22 #[v] w fun e w' => (∃ u, e = .returned (.tuple #[u, .int .i64 0]) ∧ SLst w' u S) ∧ Below w.heap.size w w' := by
  have h5 := (check_parts hc).1
  rw [List.length_map] at h5
  refine (names_any v x w hL (by omega) hg).mono fun e w' ⟨h, hb⟩ => ⟨?_, hb⟩
  rcases h with ⟨h0, rfl⟩ | ⟨h0, u, rfl, hown⟩
  · exact absurd hc h0
  · subst hS; exact ⟨u, rfl, SLst.of_owns hown⟩
/-- what is said of lists that fit -/
theorem stay_of {vs : List Vr} {x : List Pt} {t : Int} (h : (resolveP vs x t).2 = 0) : resolveP vs x t = (resP vs x t, 0) ∧ foldAll vs x t = (foldP (resP vs x t), 0) ∧ StayQ vs x (resP vs x t) (foldP (resP vs x t)) t := by
  have h0 : fitsP vs x t = 0 := by
    unfold resolveP at h
    by_cases h0 : fitsP vs x t = 0
    · exact h0
    · rw [if_pos h0] at h; exact absurd h h0
  have e1 : resolveP vs x t = (resP vs x t, 0) := by unfold resolveP; rw [if_neg (fun h => h h0)]
  have e2 : foldAll vs x t = (foldP (resP vs x t), 0) := by unfold foldAll; rw [e1, if_neg (fun h => h rfl)]
  obtain ⟨hm, hc, e, k, he1, he2, he3, he4, he5, he6⟩ := fits_tree h0
  refine ⟨e1, e2, ?_⟩
  rw [← he2]
  exact stay hm (may_vOk hm) he1 he3 (by rw [he2]; exact he4) he5 he6
set_option maxRecDepth 100000 in
set_option maxHeartbeats 3200000 in
theorem fnames_any (vv v : Value) (l : List Vv) (x : List Pv) (t : Int) (w : World) (hV : VLst w vv l) (hvl : l.length ≤ 4398046510976) (hcp : CapOk vv) (hX : PLst w v x) (hxl : x.length ≤ 4398046510976) (hs : StrOk x) (hg : Glo w) :
    Calls Tryz.prog 7 #[vv, v, .int .i64 t] w fun e w' => e = .returned (.bool true) ∧ Below w.heap.size w w' := by
  have m0 := works_any w hg
  have m1 : Hid (∀ W, Below w.heap.size w W → Calls Tryz.prog 9 #[vv, v, .int .i64 t] W (ResOut (l.map vrV) (x.map ptV) t W)) := fun W hb =>
    resolve_any vv v l x t W (hV.below hb (Nat.le_refl _)) hvl hcp (hX.below hb (Nat.le_refl _)) hxl hs (hg.below hb hg.lt)
  have m2 : Hid (∀ W, Below w.heap.size w W → Calls Tryz.prog 11 #[vv, v, .int .i64 t] W (FoldOut (l.map vrV) (x.map ptV) t W)) := fun W hb =>
    fold_any vv v l x t W (hV.below hb (Nat.le_refl _)) hvl hcp (hX.below hb (Nat.le_refl _)) hxl hs (hg.below hb hg.lt)
  unfold ResOut at m1
  unfold FoldOut at m2
  by_cases h0 : (resolveP (l.map vrV) (x.map ptV) t).2 = 0
  · obtain ⟨e1, e2, st⟩ := stay_of h0
    rw [e1] at m1
    rw [e2] at m2
    have nA : nmsS (resP (l.map vrV) (x.map ptV) t) = nmsS (x.map ptV) := by unfold nmsS; rw [← nmL_is, ← nmL_is, st.nm_a]
    have nB : nmsS (foldP (resP (l.map vrV) (x.map ptV) t)) = nmsS (x.map ptV) := by unfold nmsS; rw [← nmL_is, ← nmL_is, st.nm_b]
    have hSl := nmsS_len (x.map ptV) (check_parts st.chk_x).1
    obtain ⟨S, hS⟩ : ∃ S, S = nmsS (x.map ptV) := ⟨_, rfl⟩
    rw [← hS] at nA nB hSl
    have m3 : Hid (∀ W, Below w.heap.size w W → Calls Tryz.prog 22 #[v] W fun e w' => (∃ u, e = .returned (.tuple #[u, .int .i64 0]) ∧ SLst w' u S) ∧ Below W.heap.size W w') := fun W hb =>
      names_lst v x W S (hX.below hb (Nat.le_refl _)) st.chk_x hS.symm (hg.below hb hg.lt)
    have m4 : Hid (∀ W u (o : List Pv), Below w.heap.size w W → o.map ptV = resP (l.map vrV) (x.map ptV) t → PLst W u o → Calls Tryz.prog 22 #[u] W fun e w' => (∃ u, e = .returned (.tuple #[u, .int .i64 0]) ∧ SLst w' u S) ∧ Below W.heap.size W w') := fun W u o hb ho hP =>
      names_lst u o W S hP (by rw [ho]; exact st.chk_a) (by rw [ho]; exact nA) (hg.below hb hg.lt)
    have m5 : Hid (∀ W u (o : List Pv), Below w.heap.size w W → o.map ptV = foldP (resP (l.map vrV) (x.map ptV) t) → PLst W u o → Calls Tryz.prog 22 #[u] W fun e w' => (∃ u, e = .returned (.tuple #[u, .int .i64 0]) ∧ SLst w' u S) ∧ Below W.heap.size W w') := fun W u o hb ho hP =>
      names_lst u o W S hP (by rw [ho]; exact st.chk_b) (by rw [ho]; exact nB) (hg.below hb hg.lt)
    dsimp only at m1 m2
    clear nA nB st e1 e2 h0 hS
    generalize foldP (resP (l.map vrV) (x.map ptV) t) = PB at *
    generalize resP (l.map vrV) (x.map ptV) t = PA at *
    obtain ⟨N, hN⟩ : ∃ N, N = S.length := ⟨_, rfl⟩
    have n5 : (N : Int) ≤ 500 := by omega
    have HN := hide hN
    clear hV hX hg hs hvl hcp hxl hSl hN
    go_enter Tryz.func7, Tryz.ntmps7
    go_wp2_with fail
    refine m0.mono ?_
    rintro e w1 ⟨rfl, hb1⟩
    have B1 := hide hb1
    clear m0 hb1
    go_wp2_with fail
    refine (m1.out _ B1.out).mono ?_
    rintro e w2 ⟨⟨va, oa, rfl, ha1, ha2, -⟩, hb2⟩
    have B2 := hide (B1.out.trans (hb2.mono B1.out.size))
    have HA := hide ha1
    have PA2 := hide ha2
    clear m1 B1 hb2 ha1 ha2
    go_wp2_with fail
    refine (m2.out _ B2.out).mono ?_
    rintro e w3 ⟨⟨vb, ob, rfl, hb1, hb2⟩, hb3⟩
    have B3 := hide (B2.out.trans (hb3.mono B2.out.size))
    have HB := hide hb1
    have PB3 := hide hb2
    have PA3 := hide (PA2.out.below hb3 (Nat.le_refl _))
    clear m2 PA2 hb1 hb2 hb3
    go_wp2_with fail
    refine (m3.out _ B3.out).mono ?_
    rintro e w4 ⟨⟨vx, rfl, hs4⟩, hb4⟩
    have B4 := hide (B3.out.trans (hb4.mono B3.out.size))
    have X4 := hide hs4
    have PA4 := hide (PA3.out.below hb4 (Nat.le_refl _))
    have PB4 := hide (PB3.out.below hb4 (Nat.le_refl _))
    clear m3 hs4 hb4 PA3 PB3
    go_wp2_with fail
    refine (m4.out _ va oa B4.out HA.out PA4.out).mono ?_
    rintro e w5 ⟨⟨vi, rfl, hs5⟩, hb5⟩
    have B5 := hide (B4.out.trans (hb5.mono B4.out.size))
    have X5 := hide (X4.out.below hb5 (Nat.le_refl _))
    have I5 := hide hs5
    have PB5 := hide (PB4.out.below hb5 (Nat.le_refl _))
    clear m4 hs5 hb5 PA4 PB4 X4
    go_wp2_with fail
    refine (m5.out _ vb ob B5.out HB.out PB5.out).mono ?_
    rintro e w6 ⟨⟨vl, rfl, hs6⟩, hb6⟩
    have B6 := hide (B5.out.trans (hb6.mono B5.out.size))
    obtain ⟨a1, b1, o1, c1, rfl, hA1, hI1⟩ := X5.out.below hb6 (Nat.le_refl _)
    obtain ⟨a2, b2, o2, c2, rfl, hA2, hI2⟩ := I5.out.below hb6 (Nat.le_refl _)
    obtain ⟨a3, b3, o3, c3, rfl, hA3, hI3⟩ := hs6
    have HA1 := hide hA1
    have HA2 := hide hA2
    have HA3 := hide hA3
    have HI1 := hide hI1
    have HI2 := hide hI2
    have HI3 := hide hI3
    clear m5 hb6 X5 I5 hA1 hA2 hA3 hI1 hI2 hI3 PB5 HA HB B2 B3 B4 B5
    rw [← HN.out]
    go_wp2_with fail
    go_loopw [17, 81] (fun at' i wr => ∃ k : Nat, k ≤ N ∧ at' = .int .i64 (k : Int) ∧ i = .int .i64 (k : Int) ∧ Hid (Below w6.heap.size w6 wr)) (fun _ i _ => N - (intOf i).toNat)
    case atStart => exact ⟨0, by omega, rfl, rfl, Below.refl _ _⟩
    case round =>
      obtain ⟨k, hk, rfl, rfl, hh⟩ := hrel
      have HB := hide hh.out
      by_cases hlt : k < N
      · have j1 : (k : Int) < (N : Int) := by omega
        have j0 : (0 : Int) ≤ (k : Int) := by omega
        obtain ⟨s, hs⟩ : ∃ s, S[k]? = some s := ⟨_, List.getElem?_eq_getElem (by rw [← HN.out]; exact hlt)⟩
        obtain ⟨g1, rfl⟩ := HA1.out (by rw [← HN.out]; omega)
        obtain ⟨g2, rfl⟩ := HA2.out (by rw [← HN.out]; omega)
        obtain ⟨g3, rfl⟩ := HA3.out (by rw [← HN.out]; omega)
        have q1 := (HB.out.cell (p := ⟨b1, o1 + k, none⟩) g1).trans (HI1.out k s hs)
        have q2 := (HB.out.cell (p := ⟨b2, o2 + k, none⟩) g2).trans (HI2.out k s hs)
        have q3 := (HB.out.cell (p := ⟨b3, o3 + k, none⟩) g3).trans (HI3.out k s hs)
        generalize (⟨s.toArray⟩ : ByteArray) = T at *
        have hq := neq_text
        have he := eql_text
        have hd : decide ((k : Int) < (N : Int)) = true := decide_eq_true j1
        clear hs hh
        go_wp2
        go_quiet (fail)
        go_wp2
        go_quiet (fail)
        go_wp2
        go_roundw
        case rel => exact ⟨k + 1, by omega, by go_num, by go_num, below_drawn HB.out _⟩
        case measure => simp [intOf]; omega
      · clear hh
        obtain rfl : k = N := by omega
        go_wp2
        go_ret
        exact ⟨rfl, B6.out.trans (HB.out.mono B6.out.size)⟩
  · have e2 : (foldAll (l.map vrV) (x.map ptV) t).2 = (resolveP (l.map vrV) (x.map ptV) t).2 := by unfold foldAll; rw [if_pos h0]
    rw [e2] at m2
    obtain ⟨E, hE⟩ : ∃ E, E = (resolveP (l.map vrV) (x.map ptV) t).2 := ⟨_, rfl⟩
    rw [← hE] at m1 m2 h0
    have q1 : (E != 0) = true := by simp [h0]
    clear hV hX hg hs hvl hcp hxl e2 hE
    go_enter Tryz.func7, Tryz.ntmps7
    go_wp2_with (first | (go_at_call 15; refine m0.mono ?_; rintro e w1 ⟨rfl, hb1⟩) | (go_at_call 9; refine (m1.out _ hb1).mono ?_; rintro e w2 ⟨⟨va, oa, rfl, -, -, -⟩, hb2⟩; replace hb2 := hb1.trans (hb2.mono hb1.size)) | (go_at_call 11; refine (m2.out _ hb2).mono ?_; rintro e w3 ⟨⟨vb, ob, rfl, -, -⟩, hb3⟩; replace hb3 := hb2.trans (hb3.mono hb2.size)))
    go_ret
    exact ⟨rfl, hb3⟩
end Go.Proofs.YtldjiieckddhkaaGreatDoor
namespace Go.Proofs.YtldjiieckddhkaaGreatDoor
open Go.RowKit
theorem neq46 (k n t k' n' t' : Int) (s f s' f' : ByteArray) : ∃ b, (∀ W, (binOp .neq 38 (.agg #[.int .i64 k, .int .i64 n, .int .i64 t, .string s, .string f]) (.agg #[.int .i64 k', .int .i64 n', .int .i64 t', .string s', .string f'])).run Tryz.prog W = .ok (.bool b) W) ∧ b = !decide (k = k' ∧ n = n' ∧ t = t' ∧ s = s' ∧ f = f') := by
  refine ⟨!decide (k = k' ∧ n = n' ∧ t = t' ∧ s = s' ∧ f = f'), fun W => ?_, rfl⟩
  by_cases h1 : k = k'
  · by_cases h2 : n = n'
    · by_cases h3 : t = t'
      · by_cases h4 : s = s'
        · by_cases h5 : f = f'
          · subst h1 h2 h3 h4 h5; simp [go_sem]
          · subst h1 h2 h3 h4
            have hb : (f.toList == f'.toList) = false := by rw [beq_text]; exact decide_eq_false h5
            simp [go_sem, h5, hb]
        · subst h1 h2 h3
          have hb : (s.toList == s'.toList) = false := by rw [beq_text]; exact decide_eq_false h4
          simp [go_sem, h4, hb]
      · subst h1 h2; simp [go_sem, h3]
    · subst h1; simp [go_sem, h2]
  · simp [go_sem, h1]
theorem take_eq {α : Type} {x y : List α} {k : Nat} {a : α} (h : x.take k = y.take k) (hx : x[k]? = some a) (hy : y[k]? = some a) : x.take (k + 1) = y.take (k + 1) := by
  rw [List.take_add_one, List.take_add_one, h, hx, hy]
set_option maxRecDepth 100000 in
set_option maxHeartbeats 3200000 in
theorem sameParts_any (va vb : Value) (x y : List Pv) (w : World) (ha : PLst w va x) (hb : PLst w vb y) (hla : x.length ≤ 3000000000000) (hlb : y.length ≤ 3000000000000) :
    Calls Tryz.prog 13 #[va, vb] w fun e w' => (∃ bb, e = .returned (.bool bb) ∧ (bb = true ↔ x = y)) ∧ Below w.heap.size w w' := by
  obtain ⟨a, b, off, cap, rfl, hA, hI⟩ := ha
  obtain ⟨a2, b2, off2, cap2, rfl, hA2, hI2⟩ := hb
  by_cases hne : x.length = y.length
  · have HA := hide hA
    have HI := hide hI
    have HA2 := hide hA2
    have HI2 := hide hI2
    obtain ⟨N, hN⟩ : ∃ N, N = x.length := ⟨_, rfl⟩
    have HN := hide hN
    have HN2 : Hid (N = y.length) := hN.trans hne
    rw [← HN2.out, ← hN]
    have l0 : (N : Int) ≤ 3000000000000 := by omega
    clear hN hA hI hA2 hI2 hla hlb hne
    go_enter Tryz.func13, Tryz.ntmps13
    go_wp2_with fail
    go_loopw [5] (fun i wr => ∃ k : Nat, k ≤ N ∧ i = .int .i64 (k : Int) ∧ Hid (x.take k = y.take k ∧ Below w.heap.size w wr)) (fun i _ => N - (intOf i).toNat)
    case atStart => exact ⟨0, by omega, rfl, rfl, Below.refl _ _⟩
    case round =>
      obtain ⟨k, hk, rfl, hh⟩ := hrel
      have HT := hide hh.out.1
      have HB := hide hh.out.2
      clear hh
      by_cases hlt : k < N
      · have j1 : (k : Int) < (N : Int) := by omega
        have j0 : (0 : Int) ≤ (k : Int) := by omega
        obtain ⟨p, hp⟩ : ∃ p, x[k]? = some p := ⟨_, List.getElem?_eq_getElem (by rw [← HN.out]; exact hlt)⟩
        obtain ⟨q, hq⟩ : ∃ q, y[k]? = some q := ⟨_, List.getElem?_eq_getElem (by rw [← HN2.out]; exact hlt)⟩
        obtain ⟨hbw, rfl⟩ := HA.out (by rw [← HN.out]; omega)
        obtain ⟨hbw2, rfl⟩ := HA2.out (by rw [← HN2.out]; omega)
        obtain ⟨q0, q1, q2, q3, q4⟩ := HI.out k p hp
        obtain ⟨r0, r1, r2, r3, r4⟩ := HI2.out k q hq
        have c0 := (HB.out.cell (p := ⟨b, off + k * 5, none⟩) hbw).trans q0
        have c1 := (HB.out.cell (p := ⟨b, off + k * 5 + 1, none⟩) hbw).trans q1
        have c2 := (HB.out.cell (p := ⟨b, off + k * 5 + 2, none⟩) hbw).trans q2
        have c3 := (HB.out.cell (p := ⟨b, off + k * 5 + 3, none⟩) hbw).trans q3
        have c4 := (HB.out.cell (p := ⟨b, off + k * 5 + 4, none⟩) hbw).trans q4
        have d0 := (HB.out.cell (p := ⟨b2, off2 + k * 5, none⟩) hbw2).trans r0
        have d1 := (HB.out.cell (p := ⟨b2, off2 + k * 5 + 1, none⟩) hbw2).trans r1
        have d2 := (HB.out.cell (p := ⟨b2, off2 + k * 5 + 2, none⟩) hbw2).trans r2
        have d3 := (HB.out.cell (p := ⟨b2, off2 + k * 5 + 3, none⟩) hbw2).trans r3
        have d4 := (HB.out.cell (p := ⟨b2, off2 + k * 5 + 4, none⟩) hbw2).trans r4
        have HP := hide hp
        have HQ := hide hq
        obtain ⟨bb, hrun, hbb⟩ := neq46 p.k p.n p.t q.k q.n q.t p.s p.f q.s q.f
        have HBB := hide hbb
        clear q0 q1 q2 q3 q4 r0 r1 r2 r3 r4 hp hq hbb
        cases bb with
        | true =>
          have HNO : Hid (¬ x = y) := fun h => by
            have h1 := HP.out
            rw [h, HQ.out] at h1
            have h2 := Option.some.inj h1
            have h3 := HBB.out
            rw [h2] at h3
            simp at h3
          go_wp2
          go_quiet (fail)
          go_wp2
          go_ret
          exact ⟨⟨false, rfl, ⟨fun h => absurd h (by decide), fun h => absurd h HNO.out⟩⟩, below_drawn HB.out _⟩
        | false =>
          have HT2 : Hid (x.take (k + 1) = y.take (k + 1)) := by
            have h3 := HBB.out
            have h4 : p = q := by
              obtain ⟨p0, p1, p2, p3, p4⟩ := p
              obtain ⟨s0, s1, s2, s3, s4⟩ := q
              simp only [] at h3
              have h5 := of_decide_eq_true (by simpa using h3 : decide _ = true)
              obtain ⟨e1, e2, e3, e4, e5⟩ := h5
              subst e1 e2 e3 e4 e5
              rfl
            exact take_eq HT.out HP.out (by rw [h4]; exact HQ.out)
          go_wp2
          go_quiet (fail)
          go_wp2
          go_roundw
          case rel => exact ⟨k + 1, by omega, by go_num, HT2.out, below_drawn HB.out _⟩
          case measure => simp [intOf]; omega
      · have HE : Hid (x = y) := by
          have h1 := HT.out
          rw [List.take_of_length_le (by rw [← HN.out]; omega), List.take_of_length_le (by rw [← HN2.out]; omega)] at h1
          exact h1
        go_wp2
        go_ret
        exact ⟨⟨true, rfl, fun _ => HE.out, fun _ => rfl⟩, HB.out⟩
  · have i1 : ((x.length : Int) == (y.length : Int)) = false := by rw [beq_eq_false_iff_ne]; omega
    have HNO : Hid (¬ x = y) := fun h => hne (by rw [h])
    have l1 : (x.length : Int) ≤ 3000000000000 := by omega
    have l2 : (y.length : Int) ≤ 3000000000000 := by omega
    clear hA hI hA2 hI2 hne hla hlb
    generalize x.length = X at *
    generalize y.length = Y at *
    go_enter Tryz.func13, Tryz.ntmps13
    go_wp2
    go_ret
    exact ⟨⟨false, rfl, ⟨fun h => absurd h (by decide), fun h => absurd h HNO.out⟩⟩, Below.refl _ _⟩
end Go.Proofs.YtldjiieckddhkaaGreatDoor
