/- The document's Step, whole. | The book's SameNums, SpoilNums, LendNums, KeptNums. | The book's LendNums, KeptNums. | The walk of BlockSteps. -/
import Derived.Test.YthifgfhgkdjkfaaDoorEdM
import Derived.Test.YthifgfhgkdjkfaaDoorApW
import Derived.Deep.QuietTactic
namespace Go.Proofs.YthifgfhgkdjkfaaDoor
open Go.RowKit
theorem chk_of {k : Int} {c : List Int} {now : Int} (h : stepE k c now = 0) : chkE k c = 0 := by
  obtain ⟨hk, hl, hf, hn⟩ := stepE_zero.1 h
  unfold chkE
  rw [(kindOk_iff k).2 hk, if_pos rfl, if_pos hl, hf]; rfl
theorem rstep_ok (k : Int) (cv : Value) (c : List Int) (now : Int) (w : World) (hL : ILst w cv c) (h : stepE k c now = 0) : Calls Tryd.prog 11 #[.int .i64 k, cv, .int .i64 now] w fun e w' => ∃ g cap, e = .returned (.tuple #[.slice (some ⟨g, 0, none⟩) (stepL k c now).length cap, .int .i64 0]) ∧ Rw w' g (stepL k c now) ∧ w.heap.size ≤ g ∧ Below w.heap.size w w' := by
  obtain ⟨hk, hl, hf, hn⟩ := stepE_zero.1 h
  have hc := chk_of h
  obtain rfl | rfl | rfl | rfl | rfl | rfl | rfl | rfl | rfl | rfl : k = 1 ∨ k = 2 ∨ k = 3 ∨ k = 4 ∨ k = 5 ∨ k = 6 ∨ k = 7 ∨ k = 8 ∨ k = 9 ∨ k = 10 := by omega
  · obtain ⟨e1, e2⟩ := tm_of (by omega) hl hf
    have e : stepL 1 c now = (tonT now (tmL c)).ls := by unfold stepL; rw [if_pos rfl]
    rw [e]
    rw [e1] at hL hc
    exact (rstep_1 cv (tmL c) now w hL hc hn e2).mono fun e w' ⟨g, cap, h1, h2, h3, h4, h5⟩ => ⟨g, cap, h1, h2, h3, h5⟩
  · obtain ⟨e1, e2⟩ := tm_of (by omega) hl hf
    have e : stepL 2 c now = (tofT now (tmL c)).ls := by unfold stepL; rw [if_neg (by decide), if_pos rfl]
    rw [e]
    rw [e1] at hL hc
    exact (rstep_2 cv (tmL c) now w hL hc hn e2).mono fun e w' ⟨g, cap, h1, h2, h3, h4, h5⟩ => ⟨g, cap, h1, h2, h3, h5⟩
  · obtain ⟨e1, e2⟩ := tm_of (by omega) hl hf
    have e : stepL 3 c now = (tpT now (tmL c)).ls := by unfold stepL; rw [if_neg (by decide), if_neg (by decide), if_pos rfl]
    rw [e]
    rw [e1] at hL hc
    exact (rstep_3 cv (tmL c) now w hL hc hn e2).mono fun e w' ⟨g, cap, h1, h2, h3, h4, h5⟩ => ⟨g, cap, h1, h2, h3, h5⟩
  · obtain ⟨e1, e2⟩ := cn_of (by omega) hl hf
    have e : stepL 4 c now = (ctuT (cnL c)).ls := by unfold stepL; rw [if_neg (by decide), if_neg (by decide), if_neg (by decide), if_pos rfl]
    rw [e]
    rw [e1] at hL hc
    exact (rstep_4 cv (cnL c) now w hL hc hn e2).mono fun e w' ⟨g, cap, h1, h2, h3, h4, h5⟩ => ⟨g, cap, h1, h2, h3, h5⟩
  · obtain ⟨e1, e2⟩ := cn_of (by omega) hl hf
    have e : stepL 5 c now = (ctdT (cnL c)).ls := by unfold stepL; rw [if_neg (by decide), if_neg (by decide), if_neg (by decide), if_neg (by decide), if_pos rfl]
    rw [e]
    rw [e1] at hL hc
    exact (rstep_5 cv (cnL c) now w hL hc hn e2).mono fun e w' ⟨g, cap, h1, h2, h3, h4, h5⟩ => ⟨g, cap, h1, h2, h3, h5⟩
  · obtain ⟨a, b, d, e1, e2⟩ := tr_of (by omega) hl hf
    have e : stepL 6 c now = (rT ⟨a, b, d⟩).ls := by unfold stepL; rw [if_neg (by decide), if_neg (by decide), if_neg (by decide), if_neg (by decide), if_neg (by decide), if_pos rfl, e2]
    rw [e]
    rw [e1] at hL hc
    exact (rstep_6 cv a b d now w hL hc hn).mono fun e w' ⟨g, cap, h1, h2, h3, h4, h5⟩ => ⟨g, cap, h1, h2, h3, h5⟩
  · obtain ⟨a, b, d, e1, e2⟩ := tr_of (by omega) hl hf
    have e : stepL 7 c now = (fT ⟨a, b, d⟩).ls := by unfold stepL; rw [if_neg (by decide), if_neg (by decide), if_neg (by decide), if_neg (by decide), if_neg (by decide), if_neg (by decide), if_pos rfl, e2]
    rw [e]
    rw [e1] at hL hc
    exact (rstep_7 cv a b d now w hL hc hn).mono fun e w' ⟨g, cap, h1, h2, h3, h4, h5⟩ => ⟨g, cap, h1, h2, h3, h5⟩
  · obtain ⟨a, b, d, e1, e2⟩ := tr_of (by omega) hl hf
    have e : stepL 8 c now = (srT ⟨a, b, d⟩).ls := by unfold stepL; rw [if_neg (by decide), if_neg (by decide), if_neg (by decide), if_neg (by decide), if_neg (by decide), if_neg (by decide), if_neg (by decide), if_pos rfl, e2]
    rw [e]
    rw [e1] at hL hc
    exact (rstep_8 cv a b d now w hL hc hn).mono fun e w' ⟨g, cap, h1, h2, h3, h4, h5⟩ => ⟨g, cap, h1, h2, h3, h5⟩
  · obtain ⟨a, b, d, e1, e2⟩ := tr_of (by omega) hl hf
    have e : stepL 9 c now = (rsT ⟨a, b, d⟩).ls := by unfold stepL; rw [if_neg (by decide), if_neg (by decide), if_neg (by decide), if_neg (by decide), if_neg (by decide), if_neg (by decide), if_neg (by decide), if_neg (by decide), if_pos rfl, e2]
    rw [e]
    rw [e1] at hL hc
    exact (rstep_9 cv a b d now w hL hc hn).mono fun e w' ⟨g, cap, h1, h2, h3, h4, h5⟩ => ⟨g, cap, h1, h2, h3, h5⟩
  · obtain ⟨e1, e2⟩ := cd_of hl hf
    have e : stepL 10 c now = (cdT (cdL c)).ls := by unfold stepL; rw [if_neg (by decide), if_neg (by decide), if_neg (by decide), if_neg (by decide), if_neg (by decide), if_neg (by decide), if_neg (by decide), if_neg (by decide), if_neg (by decide)]
    rw [e]
    rw [e1] at hL hc
    exact (rstep_10 cv (cdL c) now w hL hc hn e2).mono fun e w' ⟨g, cap, h1, h2, h3, h4, h5⟩ => ⟨g, cap, h1, h2, h3, h5⟩
theorem now_no {now : Int} (h : nowOk now = false) (h0 : ¬ now < 0) : fitB 4 now = false := by
  unfold nowOk at h
  rw [fit_span]
  simp [tyB] at h ⊢
  intro _
  have := h (by omega)
  omega
set_option maxRecDepth 100000 in
set_option maxHeartbeats 1600000 in
theorem rstep_no (k : Int) (cv : Value) (c : List Int) (now : Int) (w : World) (hL : ILst w cv c) (h : stepE k c now ≠ 0) : Calls Tryd.prog 11 #[.int .i64 k, cv, .int .i64 now] w fun e w' => e = .returned (.tuple #[.slice none 0 0, .int .i64 (stepE k c now)]) ∧ Below w.heap.size w w' := by
  have m1 := rcheck_any k cv c w hL
  rw [chk_step] at h ⊢
  have hr : chkE k c = 0 ∨ chkE k c = 1 ∨ chkE k c = 4 ∨ chkE k c = 92 := by
    unfold chkE
    cases kindOk k
    · exact .inr (.inr (.inr rfl))
    · simp only [if_true]
      split
      · cases fitL (fldK k) c
        · exact .inr (.inl rfl)
        · exact .inl rfl
      · exact .inr (.inr (.inl rfl))
  clear hL
  generalize chkE k c = E at *
  rcases hr with rfl | rfl | rfl | rfl
  · cases hn : nowOk now
    · have mF := fun W => fitsR_any 4 now W
      have hno := now_no hn
      clear h
      by_cases h0 : now < 0
      · clear mF hno
        go_enter Tryd.func11, Tryd.ntmps11
        go_wp2_with (first | (go_at_call 23; refine m1.mono ?_; rintro e w1 ⟨rfl, b1⟩; have B1 := hide b1; clear b1))
        go_ret2
        exact ⟨rfl, B1.out⟩
      · rw [hno h0] at mF
        clear hno hn
        go_enter Tryd.func11, Tryd.ntmps11
        go_wp2_with (first | (go_at_call 23; refine m1.mono ?_; rintro e w1 ⟨rfl, b1⟩; have B1 := hide b1; clear b1) | (go_at_call 24; refine (mF _).mono ?_; rintro e w2 ⟨rfl, rfl⟩))
        go_ret2
        exact ⟨rfl, B1.out⟩
    · rw [hn] at h; exact absurd rfl h
  all_goals
    clear h
    go_enter Tryd.func11, Tryd.ntmps11
    go_wp2_with (first | (go_at_call 23; refine m1.mono ?_; rintro e w1 ⟨rfl, b1⟩; have B1 := hide b1; clear b1))
    go_ret2
    exact ⟨rfl, B1.out⟩
end Go.Proofs.YthifgfhgkdjkfaaDoor
namespace Go.Proofs.YthifgfhgkdjkfaaDoor
open Go.RowKit
set_option maxRecDepth 100000 in
set_option maxHeartbeats 1600000 in
theorem sameNums_one (va vb : Value) (l : List Int) (w : World) (hA : ILst w va l) (hB : ILst w vb l) (hlen : l.length ≤ 35184372088832) : Calls Tryd.prog 12 #[va, vb] w fun e w' => e = .returned (.bool true) ∧ Below w.heap.size w w' := by
  obtain ⟨aa, ab, aoff, acap, rfl, haA, haI⟩ := hA
  obtain ⟨ba, bb, boff, bcap, rfl, hbA, hbI⟩ := hB
  have HAA := hide haA
  have HAI := hide haI
  have HBA := hide hbA
  have HBI := hide hbI
  obtain ⟨n, hn⟩ : ∃ n, n = l.length := ⟨_, rfl⟩
  rw [← hn] at hlen ⊢
  have HN := hide hn
  have n0 : (0 : Int) ≤ (n : Int) := by omega
  have n5 : (n : Int) ≤ 35184372088832 := by omega
  clear hn haA haI hbA hbI
  go_enter Tryd.func12, Tryd.ntmps12
  go_wp2_with fail
  go_loopw [5] (fun i wr => ∃ k : Nat, k ≤ n ∧ i = .int .i64 (k : Int) ∧ Hid (Below w.heap.size w wr)) (fun i _ => n - (intOf i).toNat)
  case atStart => exact ⟨0, by omega, rfl, Below.refl _ _⟩
  case round =>
    obtain ⟨k, hk, rfl, HB⟩ := hrel
    by_cases hlt : k < n
    · have j1 : (k : Int) < (n : Int) := by omega
      have j0 : (0 : Int) ≤ (k : Int) := by omega
      obtain ⟨x, hx⟩ : ∃ x, l[k]? = some x := ⟨_, List.getElem?_eq_getElem (by rw [← HN.out]; exact hlt)⟩
      obtain ⟨hab, rfl⟩ := HAA.out (by rw [← HN.out]; omega)
      obtain ⟨hbb, rfl⟩ := HBA.out (by rw [← HN.out]; omega)
      have c1 := (HB.out.cell (p := ⟨ab, aoff + k, none⟩) hab).trans (HAI.out k x hx)
      have c2 := (HB.out.cell (p := ⟨bb, boff + k, none⟩) hbb).trans (HBI.out k x hx)
      clear hx
      go_wp2_with fail
      go_quiet (fail)
      go_wp2
      go_roundw
      case rel => exact ⟨k + 1, by omega, by go_num, below_drewN HB.out _⟩
      case measure => simp [intOf]; omega
    · have j1 : ¬ (k : Int) < (n : Int) := by omega
      go_wp2
      go_ret
      exact ⟨rfl, HB.out⟩
set_option maxRecDepth 100000 in
set_option maxHeartbeats 1600000 in
theorem spoil_some (g n : Nat) (m : Int) (cs : Array Value) (w : World) (h : Ob w g 2 cs) (hn : cs.size = n) (h6 : n ≤ 6) : Calls Tryd.prog 13 #[.slice (some ⟨g, 0, none⟩) n n, .int .i64 m] w fun e w' => e = .returned (.tuple #[]) ∧ Below g w w' := by
  have n0 : (0 : Int) ≤ (n : Int) := by omega
  have n6 : (n : Int) ≤ 6 := by omega
  have HO := hide h
  have HN := hide hn
  clear h hn
  go_enter Tryd.func13, Tryd.ntmps13
  go_wp2_with fail
  go_loopw [4] (fun i wr => ∃ k : Nat, k ≤ n ∧ i = .int .i64 (k : Int) ∧ Hid ((∃ ds : Array Value, Ob wr g 2 ds ∧ ds.size = n) ∧ Below g w wr)) (fun i _ => n - (intOf i).toNat)
  case atStart => exact ⟨0, by omega, rfl, ⟨cs, HO.out, HN.out⟩, Below.refl _ _⟩
  case round =>
    obtain ⟨k, hk, rfl, hh⟩ := hrel
    obtain ⟨⟨ds, ho, hs⟩, hb⟩ := hh.out
    have HB := hide hb
    have HO2 := hide ho
    have HS := hide hs
    clear hh hb
    by_cases hlt : k < n
    · have j1 : (k : Int) < (n : Int) := by omega
      have j0 : (0 : Int) ≤ (k : Int) := by omega
      have hk2 : k < ds.size := by rw [hs]; exact hlt
      obtain ⟨u, hu⟩ : ∃ u, ds[k]? = some u := ⟨_, Array.getElem?_eq_getElem hk2⟩
      have c1 := ho.cell k hu
      have f1 := ho.fr k
      clear hu hk2 ho hs
      go_wp2
      go_roundw
      case rel => exact ⟨k + 1, by omega, by go_num, ⟨_, HO2.out.set k _ rfl, by rw [Array.size_setIfInBounds]; exact HS.out⟩, HB.out.setCell (Nat.le_refl g) _⟩
      case measure => simp [intOf]; omega
    · have j1 : ¬ (k : Int) < (n : Int) := by omega
      clear ho hs
      go_wp2
      first | exact bodyPost_end (results_none rfl _ _ _) rfl ⟨rfl, HB.out⟩ | exact bodyPost_ret (results_none rfl _ _ _) rfl ⟨rfl, HB.out⟩
set_option maxRecDepth 100000 in
set_option maxHeartbeats 1600000 in
theorem spoil_none (m : Int) (w : World) : Calls Tryd.prog 13 #[.slice none 0 0, .int .i64 m] w fun e w' => e = .returned (.tuple #[]) ∧ w' = w := by
  go_enter Tryd.func13, Tryd.ntmps13
  go_wp2_with fail
  go_loopw [4] (fun i wr => i = .int .i64 0 ∧ wr = w) (fun i _ => 0)
  case atStart => exact ⟨rfl, rfl⟩
  case round =>
    obtain ⟨rfl, rfl⟩ := hrel
    go_wp2
    first | exact bodyPost_end (results_none rfl _ _ _) rfl ⟨rfl, rfl⟩ | exact bodyPost_ret (results_none rfl _ _ _) rfl ⟨rfl, rfl⟩
end Go.Proofs.YthifgfhgkdjkfaaDoor
namespace Go.Proofs.YthifgfhgkdjkfaaDoor
open Go.RowKit
theorem own_seven2 (w : World) (x : Int) : ILst (w.alloc (.cells #[.int .i64 x] 2)) (.slice (some ⟨w.heap.size, 0, none⟩) 1 1) [x] :=
  (Rw.of_ob (l := [x]) (Ob.new w 2 #[.int .i64 x])).ilst 1 1 rfl
set_option maxRecDepth 100000 in
set_option maxHeartbeats 1600000 in
theorem lend_any (cv : Value) (l : List Int) (w : World) (hL : ILst w cv l) (hlen : l.length * 8 ≤ 140737488351232) : Calls Tryd.prog 9 #[cv] w fun e w' => ∃ g cap, e = .returned (.slice (some ⟨g, 0, none⟩) l.length cap) ∧ l.length + 1 ≤ cap ∧ Rw w' g (l ++ [-77]) ∧ w.heap.size ≤ g ∧ Below w.heap.size w w' := by
  have HL := hide hL
  obtain ⟨ca, cb, coff, ccap, hcv, -, -⟩ := hL
  obtain ⟨n, hn⟩ : ∃ n, n = l.length := ⟨_, rfl⟩
  rw [← hn] at hcv hlen ⊢
  subst hcv
  have HN := hide hn
  have n0 : (0 : Int) ≤ (n : Int) := by omega
  have n5 : (n : Int) ≤ 17592186043904 := by omega
  clear hn
  go_enter Tryd.func9, Tryd.ntmps9
  go_wp2_with (first | (at_builtin; first | (refine wpList_append_nums (by rfl) _ _ (by rfl) w.heap.size 0 _ _ (by rfl) (own_none2 _ _ (Nat.le_refl _)) _ l (by rfl) (HL.out.on (blw_alloc (Below.refl _ _) _)) (by rw [← HN.out]; omega) (by simp) ?_; intro v' w2 hown hgr; have HB2 := hide (below_app2 (blw_alloc (Below.refl _ _) (.cells #[] 2)) (by simp) (own_none2 _ _ (Nat.le_refl _)) hgr); have hown2 : w2.ownsRow w.heap.size 2 1 v' n (intC l) := (by rw [← HN.out, Nat.zero_add] at hown; exact hown); have HO2 := hide hown2; obtain ⟨a2, cap2, rfl, hc2⟩ := owns_slice hown2; clear hown hgr hown2) | (refine wpList_append_nums (by rfl) _ _ (by rfl) w.heap.size n _ _ (by rfl) (HO2.out.alloc _) _ [-77] (by rfl) (own_seven2 _ _) (by simp only [List.length_cons, List.length_nil]; omega) (Nat.le_trans HB2.out.size (by simp)) ?_; intro v3 w3 hown3 hgr3; have HB3 := hide (below_app2 (blw_alloc HB2.out (.cells #[.int .i64 (-77)] 2)) (Nat.le_trans HB2.out.size (by simp)) (HO2.out.alloc _) hgr3); have hw3 : ∃ g cap, v3 = .slice (some ⟨g, 0, none⟩) (n + 1) cap ∧ w.heap.size ≤ g ∧ n + 1 ≤ cap ∧ Rw w3 g (l ++ [-77]) := (Rw.of_owns (n := n + 1) (l := l ++ [-77]) (by rw [intC_append]; exact hown3) (by omega) (by rw [HN.out]; simp)); obtain ⟨g, cap, rfl, hg3, hc3, hrw3⟩ := hw3; have HG3 := hide hg3; have HR3 := hide hrw3; have HC3 := hide hc3; have cc : (n : Int) ≤ (cap : Int) := (by omega); clear hown3 hgr3 hg3 hrw3)))
  go_ret
  exact ⟨g, cap, rfl, HC3.out, HR3.out, HG3.out, HB3.out⟩
set_option maxRecDepth 100000 in
set_option maxHeartbeats 1600000 in
theorem kept_any (g cap : Nat) (cv : Value) (l : List Int) (w : World) (hL : ILst w cv l) (hlen : l.length * 8 ≤ 140737488351232) (hr : Rw w g (l ++ [-77])) (hc : l.length + 1 ≤ cap) : Calls Tryd.prog 14 #[.slice (some ⟨g, 0, none⟩) l.length cap, cv] w fun e w' => e = .returned (.bool true) ∧ Below w.heap.size w w' := by
  have hI : ILst w (.slice (some ⟨g, 0, none⟩) l.length cap) l := by
    refine ⟨_, g, 0, cap, rfl, fun _ => ⟨hr.lt, rfl⟩, fun i x hx => ?_⟩
    rw [Nat.zero_add]
    exact hr.cell i (by rw [List.getElem?_append_left (List.getElem?_eq_some_iff.1 hx).1]; exact hx)
  have m1 := sameNums_one _ cv l w hI hL (by omega)
  have HK : Hid (∀ w1, Below w.heap.size w w1 → w1.cell? ⟨g, l.length, none⟩ = some (.int .i64 (-77))) := fun w1 hb => (hr.on hb hr.lt).cell l.length (by rw [List.getElem?_append_right (Nat.le_refl _), Nat.sub_self]; rfl)
  obtain ⟨ca, cb, coff, ccap, rfl, -, -⟩ := hL
  clear hI hr
  generalize l.length = n at *
  have n0 : (0 : Int) ≤ (n : Int) := by omega
  have n5 : (n : Int) ≤ 17592186043904 := by omega
  have cc : (n : Int) + 1 ≤ (cap : Int) := by omega
  go_enter Tryd.func14, Tryd.ntmps14
  go_wp2_with (first | (go_at_call 12; refine m1.mono ?_; rintro e w1 ⟨rfl, b1⟩; have B1 := hide b1; clear b1; have k1 := HK.out w1 B1.out))
  go_ret
  exact ⟨rfl, B1.out⟩
end Go.Proofs.YthifgfhgkdjkfaaDoor
namespace Go.Proofs.YthifgfhgkdjkfaaDoor
open Go.RowKit
theorem stepL_len (k : Int) (c : List Int) (now : Int) : (stepL k c now).length ≤ 6 := by
  unfold stepL
  repeat' split
  all_goals exact (by simp [Tm.ls, Cn.ls, Tr.ls, Cd.ls])
theorem Rw.front {w : World} {g : Nat} {l m : List Int} (h : Rw w g (l ++ m)) (cap : Nat) : ILst w (.slice (some ⟨g, 0, none⟩) l.length cap) l := by
  refine ⟨_, g, 0, cap, rfl, fun _ => ⟨h.lt, rfl⟩, fun i x hx => ?_⟩
  rw [Nat.zero_add]
  exact h.cell i (by rw [List.getElem?_append_left (List.getElem?_eq_some_iff.1 hx).1]; exact hx)
set_option maxRecDepth 100000 in
set_option maxHeartbeats 3200000 in
theorem steps_row (k : Int) (cv : Value) (l : List Int) (now : Int) (w : World) (hL : ILst w cv l) (hlen : l.length * 8 ≤ 140737488351232) (hg : Glo w) :
    Calls Tryd.prog 3 #[.int .i64 k, cv, .int .i64 now] w fun e w' => e = .returned (.bool true) ∧ Below w.heap.size w w' := by
  have HG : Hid (∀ W, Below w.heap.size w W → Glo W) := fun W h => hg.below h hg.lt
  have HL := hide hL
  have m9 := lend_any cv l w hL hlen
  have mw : Hid (∀ W, Below w.heap.size w W → Calls Tryd.prog 15 #[] W fun e w' => e = .returned (.bool true) ∧ Below W.heap.size W w') := fun W h => works_any W (HG.out W h)
  have mK : Hid (∀ W g cap, Below w.heap.size w W → Rw W g (l ++ [-77]) → l.length + 1 ≤ cap → Calls Tryd.prog 14 #[.slice (some ⟨g, 0, none⟩) l.length cap, cv] W fun e w' => e = .returned (.bool true) ∧ Below W.heap.size W w') := fun W g cap hb hr hc => kept_any g cap cv l W (HL.out.on hb) hlen hr hc
  by_cases h : stepE k l now = 0
  · have mS : Hid (∀ W g cap, Below w.heap.size w W → Rw W g (l ++ [-77]) → Calls Tryd.prog 10 #[.int .i64 k, .slice (some ⟨g, 0, none⟩) l.length cap, .int .i64 now] W fun e w' => ∃ g2, e = .returned (.tuple #[.slice (some ⟨g2, 0, none⟩) (stepL k l now).length (stepL k l now).length, .int .i64 0]) ∧ Ob w' g2 2 (intC (stepL k l now)).toArray ∧ W.heap.size ≤ g2 ∧ Below W.heap.size W w') := fun W g cap hb hr => step12_ok k _ l now W (hr.front cap) (HG.out W hb) h
    have mR : Hid (∀ W, Below w.heap.size w W → Calls Tryd.prog 11 #[.int .i64 k, cv, .int .i64 now] W fun e w' => ∃ g cap, e = .returned (.tuple #[.slice (some ⟨g, 0, none⟩) (stepL k l now).length cap, .int .i64 0]) ∧ Rw w' g (stepL k l now) ∧ W.heap.size ≤ g ∧ Below W.heap.size W w') := fun W hb => rstep_ok k cv l now W (HL.out.on hb) h
    have h6 := stepL_len k l now
    generalize stepL k l now = m at *
    have mQ : Hid (∀ W g2 g3 cap, Ob W g2 2 (intC m).toArray → Rw W g3 m → Calls Tryd.prog 12 #[.slice (some ⟨g2, 0, none⟩) m.length m.length, .slice (some ⟨g3, 0, none⟩) m.length cap] W fun e w' => e = .returned (.bool true) ∧ Below W.heap.size W w') := fun W g2 g3 cap ho hr => sameNums_one _ _ m W (ILst.of_ob ho _ _ rfl) (hr.ilst _ cap rfl) (by omega)
    have mP : Hid (∀ W g2, Ob W g2 2 (intC m).toArray → Calls Tryd.prog 13 #[.slice (some ⟨g2, 0, none⟩) m.length m.length, .int .i64 (-99)] W fun e w' => e = .returned (.tuple #[]) ∧ Below g2 W w') := fun W g2 ho => spoil_some g2 m.length (-99) _ W ho (by simp [intC_length]) h6
    obtain ⟨ca, cb, coff, ccap, rfl, -, -⟩ := hL
    clear hg h hlen h6
    generalize l.length = n at *
    generalize m.length = M at *
    go_enter Tryd.func3, Tryd.ntmps3
    go_wp2_with (first | (go_at_call 9; refine m9.mono ?_; rintro e w1 ⟨g, cap, rfl, c1, r1, l1, b1⟩; have C1 := hide c1; have R1 := hide r1; have L1 := hide l1; have B1 := hide b1; clear c1 r1 l1 b1) | (go_at_call 10; refine (mS.out _ g cap B1.out R1.out).mono ?_; rintro e w2 ⟨g2, rfl, o2, l2, b2⟩; have O2 := hide o2; have L2 := hide l2; have B2 := hide b2; have BB2 := hide (B1.out.trans (b2.mono B1.out.size)); clear o2 l2 b2) | (go_at_call 11; refine (mR.out _ BB2.out).mono ?_; rintro e w3 ⟨g3, cap3, rfl, r3, l3, b3⟩; have R3 := hide r3; have B3 := hide b3; have BB3 := hide (BB2.out.trans (b3.mono BB2.out.size)); have O3 := hide (O2.out.on b3 O2.out.lt); clear r3 l3 b3) | (go_at_call 12; refine (mQ.out _ g2 g3 cap3 O3.out R3.out).mono ?_; rintro e w4 ⟨rfl, b4⟩; have B4 := hide b4; have BB4 := hide (BB3.out.trans (b4.mono BB3.out.size)); have O4 := hide (O3.out.on b4 O3.out.lt); have R4 := hide (((R1.out.on B2.out R1.out.lt).on B3.out (R1.out.on B2.out R1.out.lt).lt).on b4 ((R1.out.on B2.out R1.out.lt).on B3.out (R1.out.on B2.out R1.out.lt).lt).lt); clear b4) | (go_at_call 13; refine (mP.out _ g2 O4.out).mono ?_; rintro e w5 ⟨rfl, b5⟩; have BB5 := hide (BB4.out.trans (b5.mono (Nat.le_trans B1.out.size L2.out))); have R5 := hide (R4.out.on b5 (Nat.lt_of_lt_of_le R1.out.lt L2.out)); clear b5) | (go_at_call 14; refine (mK.out _ g cap BB5.out R5.out C1.out).mono ?_; rintro e w6 ⟨rfl, b6⟩; have BB6 := hide (BB5.out.trans (b6.mono BB5.out.size)); clear b6) | (go_at_call 15; refine (mw.out _ BB6.out).mono ?_; rintro e w7 ⟨rfl, b7⟩; have BB7 := hide (BB6.out.trans (b7.mono BB6.out.size)); clear b7))
    go_ret
    exact ⟨rfl, BB7.out⟩
  · have mS : Hid (∀ W g cap, Below w.heap.size w W → Rw W g (l ++ [-77]) → Calls Tryd.prog 10 #[.int .i64 k, .slice (some ⟨g, 0, none⟩) l.length cap, .int .i64 now] W fun e w' => e = .returned (.tuple #[.slice none 0 0, .int .i64 (stepE k l now)]) ∧ Below W.heap.size W w') := fun W g cap hb hr => step12_no k _ l now W (hr.front cap) (HG.out W hb) h
    have mR : Hid (∀ W, Below w.heap.size w W → Calls Tryd.prog 11 #[.int .i64 k, cv, .int .i64 now] W fun e w' => e = .returned (.tuple #[.slice none 0 0, .int .i64 (stepE k l now)]) ∧ Below W.heap.size W w') := fun W hb => rstep_no k cv l now W (HL.out.on hb) h
    generalize stepE k l now = E at *
    have mQ : Hid (∀ W, Calls Tryd.prog 12 #[.slice none 0 0, .slice none 0 0] W fun e w' => e = .returned (.bool true) ∧ Below W.heap.size W w') := fun W => sameNums_one _ _ [] W (ILst.nil _ _) (ILst.nil _ _) (by simp)
    have mP := spoil_none (-99)
    obtain ⟨ca, cb, coff, ccap, rfl, -, -⟩ := hL
    clear hg h hlen
    generalize l.length = n at *
    go_enter Tryd.func3, Tryd.ntmps3
    go_wp2_with (first | (go_at_call 9; refine m9.mono ?_; rintro e w1 ⟨g, cap, rfl, c1, r1, l1, b1⟩; have C1 := hide c1; have R1 := hide r1; have L1 := hide l1; have B1 := hide b1; clear c1 r1 l1 b1) | (go_at_call 10; refine (mS.out _ g cap B1.out R1.out).mono ?_; rintro e w2 ⟨rfl, b2⟩; have B2 := hide b2; have BB2 := hide (B1.out.trans (b2.mono B1.out.size)); clear b2) | (go_at_call 11; refine (mR.out _ BB2.out).mono ?_; rintro e w3 ⟨rfl, b3⟩; have B3 := hide b3; have BB3 := hide (BB2.out.trans (b3.mono BB2.out.size)); clear b3) | (go_at_call 12; refine (mQ.out _).mono ?_; rintro e w4 ⟨rfl, b4⟩; have BB4 := hide (BB3.out.trans (b4.mono BB3.out.size)); have R4 := hide (((R1.out.on B2.out R1.out.lt).on B3.out (R1.out.on B2.out R1.out.lt).lt).on b4 ((R1.out.on B2.out R1.out.lt).on B3.out (R1.out.on B2.out R1.out.lt).lt).lt); clear b4) | (go_at_call 13; refine (mP _).mono ?_; rintro e w5 ⟨rfl, hw5⟩; subst hw5) | (go_at_call 14; refine (mK.out _ g cap BB4.out R4.out C1.out).mono ?_; rintro e w6 ⟨rfl, b6⟩; have BB6 := hide (BB4.out.trans (b6.mono BB4.out.size)); clear b6) | (go_at_call 15; refine (mw.out _ BB6.out).mono ?_; rintro e w7 ⟨rfl, b7⟩; have BB7 := hide (BB6.out.trans (b7.mono BB6.out.size)); clear b7))
    go_ret
    exact ⟨rfl, BB7.out⟩
end Go.Proofs.YthifgfhgkdjkfaaDoor
