/- FoldOne: both have a value, the whole has none for its size or its types. | FoldOne: both have a value, and the whole what the operation makes of them. | FoldOne's contract, whole. | Slices of tokens and of parts among the arguments, opened. -/
import Derived.Test.YtldjiieckddhkaaGreatDoorMg44
import Derived.Test.YtldjiieckddhkaaGreatDoorMg33
import Derived.Test.YtldjiieckddhkaaGreatDoorFrame
import Derived.Deep.Slices
import Derived.LaidLaws
import Derived.SizedLaws
namespace Go.Proofs.YtldjiieckddhkaaGreatDoor
open Go.RowKit Go.Sort
theorem val_len {x : List Pt} {t : Int} (h : (valQ x t).2 = 0) : 1 ≤ x.length ∧ x.length ≤ 500 := by
  unfold valQ at h
  split at h
  · rename_i hc; exact absurd h hc
  · rename_i hc
    obtain ⟨e, -, he, -, -, h5⟩ := check_tree (Classical.byContradiction hc)
    exact ⟨by rw [← he]; exact flat_pos e, h5⟩
set_option maxRecDepth 100000 in
set_option maxHeartbeats 3200000 in
theorem one_deep (k C G kk : Int) (hkk : kk = wrap64 (1 + wrap64 ((IntKind.u64.wrap k).tmod 8))) (bx ox cx byy oy cy : Nat) (x y : List Pv) (w : World) (hbx : bx < w.heap.size) (hX : PvAt w bx ox x) (hx1 : 1 ≤ x.length) (hx5 : x.length ≤ 500) (hsx : StrOk x) (hby : byy < w.heap.size) (hY : PvAt w byy oy y) (hy1 : 1 ≤ y.length) (hy5 : y.length ≤ 500) (hsy : StrOk y) (hg : Glo w)
    (hx : (valQ (x.map ptV) 3).2 = 0) (hy : (valQ (y.map ptV) 3).2 = 0)
    (mx : Hid (∀ W, Below w.heap.size w W → Calls Tryz.prog 16 #[.slice (some ⟨bx, ox, none⟩) x.length cx, .int .i64 3] W fun e w' => e = .returned (.tuple #[.int .i64 (valQ (x.map ptV) 3).1, .int .i64 0]) ∧ Below W.heap.size W w'))
    (my : Hid (∀ W, Below w.heap.size w W → Calls Tryz.prog 16 #[.slice (some ⟨byy, oy, none⟩) y.length cy, .int .i64 3] W fun e w' => e = .returned (.tuple #[.int .i64 (valQ (y.map ptV) 3).1, .int .i64 0]) ∧ Below W.heap.size W w'))
    (mz : Hid (∀ W v, Below w.heap.size w W → PLst W v (x ++ (y ++ [oqV kk])) → Calls Tryz.prog 16 #[v, .int .i64 3] W fun e w' => e = .returned (.tuple #[.int .i64 C, .int .i64 G]) ∧ Below W.heap.size W w'))
    (hno : G ≠ 0) (hn1 : G ≠ 41) (hC : C = 0) :
    Calls Tryz.prog 6 #[.slice (some ⟨bx, ox, none⟩) x.length cx, .slice (some ⟨byy, oy, none⟩) y.length cy, .int .i64 k] w fun e w' => e = .returned (.bool true) ∧ Below w.heap.size w w' := by
  have m0 := works_any w hg
  generalize hA : (valQ (x.map ptV) 3).1 = A at *
  generalize hB : (valQ (y.map ptV) 3).1 = B at *
  have HP : Hid (∀ W, Below w.heap.size w W → ∀ j u, (pvsC x)[j]? = some u → W.cell? ((⟨bx, ox, none⟩ : Addr).add j) = some u) := fun W hb j u hu => by
    have h := pv_cells hX j u hu
    rw [Addr.add_mid] at h ⊢
    exact (hb.cell (p := ⟨bx, ox + j, none⟩) hbx).trans h
  have HQ : Hid (∀ W, Below w.heap.size w W → ∀ j u, (pvsC y)[j]? = some u → W.cell? ((⟨byy, oy, none⟩ : Addr).add j) = some u) := fun W hb j u hu => by
    have h := pv_cells hY j u hu
    rw [Addr.add_mid] at h ⊢
    exact (hb.cell (p := ⟨byy, oy + j, none⟩) hby).trans h
  have O0 : Hid (∀ W : World, w.heap.size ≤ W.heap.size → (W.alloc (.cells #[] 38)).ownsRow w.heap.size 38 5 (.slice (some ⟨W.heap.size, 0, none⟩) 0 0) 0 []) := fun W hW => by
    refine ⟨rfl, .inr ⟨W.heap.size, 0, #[], rfl, hW, heap_alloc_new W _, Nat.le_refl _, ?_, ?_, ?_⟩⟩ <;> first | rfl | simp
  have H1x := hide (pvsC_one x)
  have HLx := hide (pvsC_length x)
  have H1y := hide (pvsC_one y)
  have HLy := hide (pvsC_length y)
  obtain ⟨i0, hi, hz0, hz1, hz2⟩ := info_parts in38
  subst hC
  have HPZ : Hid (∀ (W : World) v, W.ownsRow w.heap.size 38 5 v (x.length + y.length + 1) (pvsC x ++ pvsC y ++ [.int .i64 5, .int .i64 kk, .int .i64 0, .string ⟨#[]⟩, .string ⟨#[]⟩]) → PLst W v (x ++ (y ++ [oqV kk]))) := fun W v h => by
    rw [← List.append_assoc]
    refine plst_own (base := w.heap.size) ?_
    rw [pvsC_append, pvsC_append, List.length_append, List.length_append]
    exact h
  have HK := hide hkk
  obtain ⟨nx, hnx⟩ : ∃ n, n = x.length := ⟨_, rfl⟩
  obtain ⟨ny, hny⟩ : ∃ n, n = y.length := ⟨_, rfl⟩
  rw [← hnx] at hx1 hx5 HLx mx HPZ ⊢
  rw [← hny] at hy1 hy5 HLy my HPZ ⊢
  have HNX := hide hnx
  have HNY := hide hny
  have HVX := hide hx
  have HVY := hide hy
  have HA := hide hA
  have HBB := hide hB
  have HG := hide hg
  have HSX := hide hsx
  have HSY := hide hsy
  clear hX hY hkk hnx hny hx hy hA hB hg hsx hsy
  go_enter Tryz.func6, Tryz.ntmps6
  go_wp2_with (first | (go_at_call 21; exfalso; first | omega | (rename_i hh; simp_all)) | (go_at_call 15; refine m0.mono ?_; rintro e w0 ⟨rfl, hb0⟩) | (go_at_call 16; have hAgain := HO4; clear hAgain; refine (mz.out _ _ HB4.out (HPZ.out _ _ HO4.out)).mono ?_; rintro e w5 ⟨rfl, hb5⟩; have HB5 := hide (HB4.out.trans (hb5.mono HB4.out.size)); clear hb5) | (go_at_call 16; have hAgain := hb1; clear hAgain; refine (my.out _ hb1).mono ?_; rintro e wy ⟨rfl, hb2⟩; replace hb2 := hb1.trans (hb2.mono hb1.size)) | (go_at_call 16; refine (mx.out _ hb0).mono ?_; rintro e wx ⟨rfl, hb1⟩; replace hb1 := hb0.trans (hb1.mono hb0.size)) | (at_builtin; have hAgain := HO3; clear hAgain; go_must (refine wpList_append_lies _ rfl _ _ 23 rfl w.heap.size 38 i0 _ 5 56 Tryz.underlying23 hi hz0 hz1 hz2 rfl (by omega) (.slice (some ⟨g2, 0, none⟩) (nx + ny) c2) (nx + ny) (pvsC x ++ pvsC y) rfl (HO3.out.alloc _) ⟨w3.heap.size, 0, none⟩ 1 1 [.int .i64 5, .int .i64 kk, .int .i64 0, .string ⟨#[]⟩, .string ⟨#[]⟩] rfl rfl (five_news (heap_alloc_new w3 _)) (by simp [Value.oneCell']) (by omega) (by unfold maxLen; omega) (by omega) (HB3.out.alloc HB3.out.size _).size _ rfl ?_; intro g3 c3 w4 hown4 hgrow4 hat4 hlt4; have HB4 := hide ((HB3.out.alloc HB3.out.size _).grown hgrow4 (HB3.out.alloc HB3.out.size _).size (fun r hr => by have := (HO3.out.lt r hr).1; omega)); have HO4 := hide hown4; clear hown4 hgrow4 hat4 hlt4)) | (at_builtin; have hAgain := HO1; clear hAgain; refine wpList_append_lies _ rfl _ _ 23 rfl w.heap.size 38 i0 _ 5 56 Tryz.underlying23 hi hz0 hz1 hz2 rfl (by omega) (.slice (some ⟨g1, 0, none⟩) nx c1) nx (pvsC x) rfl HO1.out ⟨byy, oy, none⟩ ny cy (pvsC y) rfl HLy.out (HQ.out _ HB1.out) H1y.out (by omega) (by unfold maxLen; omega) (by omega) HB1.out.size _ rfl ?_; intro g2 c2 w2 hown2 hgrow2 hat2 hlt2; have HB2 := hide (HB1.out.grown hgrow2 HB1.out.size (fun r hr => by have := (HO1.out.lt r hr).1; omega)); have HO2 := hide hown2; clear hown2 hgrow2 hat2 hlt2) | (at_builtin; go_must (refine wpList_append_lies _ rfl _ _ 23 rfl w.heap.size 38 i0 _ 5 56 Tryz.underlying23 hi hz0 hz1 hz2 rfl (by omega) (.slice (some ⟨wy.heap.size, 0, none⟩) 0 0) 0 [] rfl (O0.out wy hb2.size) ⟨bx, ox, none⟩ nx cx (pvsC x) rfl HLx.out (HP.out _ (hb2.alloc hb2.size _)) H1x.out (by omega) (by unfold maxLen; omega) (by omega) (hb2.alloc hb2.size _).size (wy.heap.size + 1) (by simp) ?_; intro g1 c1 w1 hown1 hgrow1 hat1 hlt1; rw [show 0 + nx = nx from Nat.zero_add nx] at hown1 ⊢; rw [List.nil_append] at hown1; have HB1 := hide ((hb2.alloc hb2.size (.cells #[] 38)).grown hgrow1 (hb2.alloc hb2.size _).size (fun r hr => by have := ((O0.out wy hb2.size).lt r hr).1; omega)); have HO1 := hide hown1; clear hown1 hgrow1 hat1 hlt1)) | (go_at_call 20; refine (op_any _ _).mono ?_; rintro e w3 ⟨rfl, hb3⟩; have HB3 := hide (HB2.out.trans (hb3.mono HB2.out.size)); have HO3 := hide (own_on HO2.out hb3); rw [← HK.out]; clear hb3))
  go_ret
  exact ⟨rfl, HB5.out⟩
end Go.Proofs.YtldjiieckddhkaaGreatDoor
namespace Go.Proofs.YtldjiieckddhkaaGreatDoor
open Go.RowKit Go.Sort
set_option maxRecDepth 100000 in
set_option maxHeartbeats 3200000 in
theorem one_yes (k C G kk : Int) (hkk : kk = wrap64 (1 + wrap64 ((IntKind.u64.wrap k).tmod 8))) (bx ox cx byy oy cy : Nat) (x y : List Pv) (w : World) (hbx : bx < w.heap.size) (hX : PvAt w bx ox x) (hx1 : 1 ≤ x.length) (hx5 : x.length ≤ 500) (hsx : StrOk x) (hby : byy < w.heap.size) (hY : PvAt w byy oy y) (hy1 : 1 ≤ y.length) (hy5 : y.length ≤ 500) (hsy : StrOk y) (hg : Glo w)
    (hx : (valQ (x.map ptV) 3).2 = 0) (hy : (valQ (y.map ptV) 3).2 = 0)
    (mx : Hid (∀ W, Below w.heap.size w W → Calls Tryz.prog 16 #[.slice (some ⟨bx, ox, none⟩) x.length cx, .int .i64 3] W fun e w' => e = .returned (.tuple #[.int .i64 (valQ (x.map ptV) 3).1, .int .i64 0]) ∧ Below W.heap.size W w'))
    (my : Hid (∀ W, Below w.heap.size w W → Calls Tryz.prog 16 #[.slice (some ⟨byy, oy, none⟩) y.length cy, .int .i64 3] W fun e w' => e = .returned (.tuple #[.int .i64 (valQ (y.map ptV) 3).1, .int .i64 0]) ∧ Below W.heap.size W w'))
    (mz : Hid (∀ W v, Below w.heap.size w W → PLst W v (x ++ (y ++ [oqV kk])) → Calls Tryz.prog 16 #[v, .int .i64 3] W fun e w' => e = .returned (.tuple #[.int .i64 C, .int .i64 G]) ∧ Below W.heap.size W w'))
    (hGG : G = 0 ∨ G = 41) (m2 : Hid (∀ W, Below w.heap.size w W → Calls Tryz.prog 21 #[.int .i64 kk, .int .i64 3, .int .i64 (valQ (x.map ptV) 3).1, .int .i64 (valQ (y.map ptV) 3).1] W fun e w' => e = .returned (.tuple #[.int .i64 C, .int .i64 G]) ∧ Below W.heap.size W w')) (mf : Hid (∀ W, Below w.heap.size w W → Calls Tryz.prog 19 #[.int .i64 3, .int .i64 (valQ (x.map ptV) 3).1] W fun e w' => e = .returned (.bool true) ∧ w' = W)) :
    Calls Tryz.prog 6 #[.slice (some ⟨bx, ox, none⟩) x.length cx, .slice (some ⟨byy, oy, none⟩) y.length cy, .int .i64 k] w fun e w' => e = .returned (.bool true) ∧ Below w.heap.size w w' := by
  have m0 := works_any w hg
  generalize hA : (valQ (x.map ptV) 3).1 = A at *
  generalize hB : (valQ (y.map ptV) 3).1 = B at *
  have HP : Hid (∀ W, Below w.heap.size w W → ∀ j u, (pvsC x)[j]? = some u → W.cell? ((⟨bx, ox, none⟩ : Addr).add j) = some u) := fun W hb j u hu => by
    have h := pv_cells hX j u hu
    rw [Addr.add_mid] at h ⊢
    exact (hb.cell (p := ⟨bx, ox + j, none⟩) hbx).trans h
  have HQ : Hid (∀ W, Below w.heap.size w W → ∀ j u, (pvsC y)[j]? = some u → W.cell? ((⟨byy, oy, none⟩ : Addr).add j) = some u) := fun W hb j u hu => by
    have h := pv_cells hY j u hu
    rw [Addr.add_mid] at h ⊢
    exact (hb.cell (p := ⟨byy, oy + j, none⟩) hby).trans h
  have O0 : Hid (∀ W : World, w.heap.size ≤ W.heap.size → (W.alloc (.cells #[] 38)).ownsRow w.heap.size 38 5 (.slice (some ⟨W.heap.size, 0, none⟩) 0 0) 0 []) := fun W hW => by
    refine ⟨rfl, .inr ⟨W.heap.size, 0, #[], rfl, hW, heap_alloc_new W _, Nat.le_refl _, ?_, ?_, ?_⟩⟩ <;> first | rfl | simp
  have H1x := hide (pvsC_one x)
  have HLx := hide (pvsC_length x)
  have H1y := hide (pvsC_one y)
  have HLy := hide (pvsC_length y)
  obtain ⟨i0, hi, hz0, hz1, hz2⟩ := info_parts in38
  have HPZ : Hid (∀ (W : World) v, W.ownsRow w.heap.size 38 5 v (x.length + y.length + 1) (pvsC x ++ pvsC y ++ [.int .i64 5, .int .i64 kk, .int .i64 0, .string ⟨#[]⟩, .string ⟨#[]⟩]) → PLst W v (x ++ (y ++ [oqV kk]))) := fun W v h => by
    rw [← List.append_assoc]
    refine plst_own (base := w.heap.size) ?_
    rw [pvsC_append, pvsC_append, List.length_append, List.length_append]
    exact h
  have HK := hide hkk
  obtain ⟨nx, hnx⟩ : ∃ n, n = x.length := ⟨_, rfl⟩
  obtain ⟨ny, hny⟩ : ∃ n, n = y.length := ⟨_, rfl⟩
  rw [← hnx] at hx1 hx5 HLx mx HPZ ⊢
  rw [← hny] at hy1 hy5 HLy my HPZ ⊢
  have HNX := hide hnx
  have HNY := hide hny
  have HVX := hide hx
  have HVY := hide hy
  have HA := hide hA
  have HBB := hide hB
  have HG := hide hg
  have HSX := hide hsx
  have HSY := hide hsy
  clear hX hY hkk hnx hny hx hy hA hB hg hsx hsy
  rcases hGG with rfl | rfl
  all_goals go_enter Tryz.func6, Tryz.ntmps6
  all_goals go_wp2_with (first | (go_at_call 21; refine (m2.out _ HB5.out).mono ?_; rintro e w6 ⟨rfl, hb6⟩; have HB6 := hide (HB5.out.trans (hb6.mono HB5.out.size)); clear hb6) | (go_at_call 19; refine (mf.out _ HB6.out).mono ?_; rintro e w7 ⟨rfl, rfl⟩) | (go_at_call 15; refine m0.mono ?_; rintro e w0 ⟨rfl, hb0⟩) | (go_at_call 16; have hAgain := HO4; clear hAgain; refine (mz.out _ _ HB4.out (HPZ.out _ _ HO4.out)).mono ?_; rintro e w5 ⟨rfl, hb5⟩; have HB5 := hide (HB4.out.trans (hb5.mono HB4.out.size)); clear hb5) | (go_at_call 16; have hAgain := hb1; clear hAgain; refine (my.out _ hb1).mono ?_; rintro e wy ⟨rfl, hb2⟩; replace hb2 := hb1.trans (hb2.mono hb1.size)) | (go_at_call 16; refine (mx.out _ hb0).mono ?_; rintro e wx ⟨rfl, hb1⟩; replace hb1 := hb0.trans (hb1.mono hb0.size)) | (at_builtin; have hAgain := HO3; clear hAgain; go_must (refine wpList_append_lies _ rfl _ _ 23 rfl w.heap.size 38 i0 _ 5 56 Tryz.underlying23 hi hz0 hz1 hz2 rfl (by omega) (.slice (some ⟨g2, 0, none⟩) (nx + ny) c2) (nx + ny) (pvsC x ++ pvsC y) rfl (HO3.out.alloc _) ⟨w3.heap.size, 0, none⟩ 1 1 [.int .i64 5, .int .i64 kk, .int .i64 0, .string ⟨#[]⟩, .string ⟨#[]⟩] rfl rfl (five_news (heap_alloc_new w3 _)) (by simp [Value.oneCell']) (by omega) (by unfold maxLen; omega) (by omega) (HB3.out.alloc HB3.out.size _).size _ rfl ?_; intro g3 c3 w4 hown4 hgrow4 hat4 hlt4; have HB4 := hide ((HB3.out.alloc HB3.out.size _).grown hgrow4 (HB3.out.alloc HB3.out.size _).size (fun r hr => by have := (HO3.out.lt r hr).1; omega)); have HO4 := hide hown4; clear hown4 hgrow4 hat4 hlt4)) | (at_builtin; have hAgain := HO1; clear hAgain; refine wpList_append_lies _ rfl _ _ 23 rfl w.heap.size 38 i0 _ 5 56 Tryz.underlying23 hi hz0 hz1 hz2 rfl (by omega) (.slice (some ⟨g1, 0, none⟩) nx c1) nx (pvsC x) rfl HO1.out ⟨byy, oy, none⟩ ny cy (pvsC y) rfl HLy.out (HQ.out _ HB1.out) H1y.out (by omega) (by unfold maxLen; omega) (by omega) HB1.out.size _ rfl ?_; intro g2 c2 w2 hown2 hgrow2 hat2 hlt2; have HB2 := hide (HB1.out.grown hgrow2 HB1.out.size (fun r hr => by have := (HO1.out.lt r hr).1; omega)); have HO2 := hide hown2; clear hown2 hgrow2 hat2 hlt2) | (at_builtin; go_must (refine wpList_append_lies _ rfl _ _ 23 rfl w.heap.size 38 i0 _ 5 56 Tryz.underlying23 hi hz0 hz1 hz2 rfl (by omega) (.slice (some ⟨wy.heap.size, 0, none⟩) 0 0) 0 [] rfl (O0.out wy hb2.size) ⟨bx, ox, none⟩ nx cx (pvsC x) rfl HLx.out (HP.out _ (hb2.alloc hb2.size _)) H1x.out (by omega) (by unfold maxLen; omega) (by omega) (hb2.alloc hb2.size _).size (wy.heap.size + 1) (by simp) ?_; intro g1 c1 w1 hown1 hgrow1 hat1 hlt1; rw [show 0 + nx = nx from Nat.zero_add nx] at hown1 ⊢; rw [List.nil_append] at hown1; have HB1 := hide ((hb2.alloc hb2.size (.cells #[] 38)).grown hgrow1 (hb2.alloc hb2.size _).size (fun r hr => by have := ((O0.out wy hb2.size).lt r hr).1; omega)); have HO1 := hide hown1; clear hown1 hgrow1 hat1 hlt1)) | (go_at_call 20; refine (op_any _ _).mono ?_; rintro e w3 ⟨rfl, hb3⟩; have HB3 := hide (HB2.out.trans (hb3.mono HB2.out.size)); have HO3 := hide (own_on HO2.out hb3); rw [← HK.out]; clear hb3))
  all_goals go_ret
  all_goals exact ⟨rfl, HB6.out⟩
end Go.Proofs.YtldjiieckddhkaaGreatDoor
namespace Go.Proofs.YtldjiieckddhkaaGreatDoor
open Go.RowKit Go.Sort
theorem kk_from (k : Int) : 1 ≤ wrap64 (1 + wrap64 ((IntKind.u64.wrap k).tmod 8)) ∧ wrap64 (1 + wrap64 ((IntKind.u64.wrap k).tmod 8)) ≤ 8 := by
  have h0 : 0 ≤ IntKind.u64.wrap k := by
    show 0 ≤ k % 18446744073709551616
    exact Int.emod_nonneg _ (by decide)
  have h1 : (IntKind.u64.wrap k).tmod 8 = IntKind.u64.wrap k % 8 := Int.tmod_eq_emod_of_nonneg h0
  rw [h1]
  generalize IntKind.u64.wrap k = u at *
  have e1 : wrap64 (u % 8) = u % 8 := by unfold wrap64; omega
  rw [e1]
  have e2 : wrap64 (1 + u % 8) = 1 + u % 8 := by unfold wrap64; omega
  rw [e2]
  omega
theorem two_zero (op t a b : Int) (h0 : (Four.twoN op t a b).2 ≠ 0) : (Four.twoN op t a b).1 = 0 := by
  unfold Four.twoN at h0 ⊢
  repeat' split at h0
  all_goals first | exact absurd rfl h0 | (simp_all)
theorem foldOne_any (vx vy : Value) (x y : List Pv) (k : Int) (w : World) (hX : PLst w vx x) (hxl : x.length ≤ 4398046510976) (hsx : StrOk x) (hY : PLst w vy y) (hyl : y.length ≤ 4398046510976) (hsy : StrOk y) (hg : Glo w) :
    Calls Tryz.prog 6 #[vx, vy, .int .i64 k] w fun e w' => e = .returned (.bool true) ∧ Below w.heap.size w w' := by
  by_cases h : (valQ (x.map ptV) 3).2 ≠ 0 ∨ (valQ (y.map ptV) 3).2 ≠ 0
  · exact one_no vx vy x y k w hX hxl hsx hY hyl hsy hg h
  have hx : (valQ (x.map ptV) 3).2 = 0 := Classical.byContradiction fun h1 => h (.inl h1)
  have hy : (valQ (y.map ptV) 3).2 = 0 := Classical.byContradiction fun h1 => h (.inr h1)
  obtain ⟨x1, x5⟩ := val_len hx
  obtain ⟨y1, y5⟩ := val_len hy
  rw [List.length_map] at x1 x5 y1 y5
  obtain ⟨k1, k8⟩ := kk_from k
  obtain ⟨kk, hkk⟩ : ∃ kk, kk = wrap64 (1 + wrap64 ((IntKind.u64.wrap k).tmod 8)) := ⟨_, rfl⟩
  rw [← hkk] at k1 k8
  have hs : StrOk (x ++ (y ++ [oqV kk])) := fun q hq => by
    rcases List.mem_append.1 hq with h | h
    · exact hsx q h
    · rcases List.mem_append.1 h with h | h
      · exact hsy q h
      · obtain rfl := List.mem_singleton.1 h
        exact ⟨by show 0 ≤ _; omega, by show 0 ≤ _; omega⟩
  have hzm : (x ++ (y ++ [oqV kk])).map ptV = x.map ptV ++ (y.map ptV ++ [opQ kk]) := by rw [List.map_append, List.map_append]; rfl
  have mx : Hid (∀ W, Below w.heap.size w W → Calls Tryz.prog 16 #[vx, .int .i64 3] W fun e w' => e = .returned (.tuple #[.int .i64 (valQ (x.map ptV) 3).1, .int .i64 0]) ∧ Below W.heap.size W w') := fun W hb => by
    have := value_any vx x 3 W (hX.below hb (Nat.le_refl _)) hxl hsx (hg.below hb hg.lt)
    rw [hx] at this; exact this
  have my : Hid (∀ W, Below w.heap.size w W → Calls Tryz.prog 16 #[vy, .int .i64 3] W fun e w' => e = .returned (.tuple #[.int .i64 (valQ (y.map ptV) 3).1, .int .i64 0]) ∧ Below W.heap.size W w') := fun W hb => by
    have := value_any vy y 3 W (hY.below hb (Nat.le_refl _)) hyl hsy (hg.below hb hg.lt)
    rw [hy] at this; exact this
  have mz : Hid (∀ W v, Below w.heap.size w W → PLst W v (x ++ (y ++ [oqV kk])) → Calls Tryz.prog 16 #[v, .int .i64 3] W fun e w' => e = .returned (.tuple #[.int .i64 (valQ (x.map ptV ++ (y.map ptV ++ [opQ kk])) 3).1, .int .i64 (valQ (x.map ptV ++ (y.map ptV ++ [opQ kk])) 3).2]) ∧ Below W.heap.size W w') := fun W v hb hP => by
    have := value_any v _ 3 W hP (by rw [List.length_append, List.length_append, List.length_singleton]; omega) hs (hg.below hb hg.lt)
    rw [hzm] at this; exact this
  obtain ⟨hfit, hv⟩ := val_two (x := x.map ptV) (y := y.map ptV) (a := (valQ (x.map ptV) 3).1) (b := (valQ (y.map ptV) 3).1) (k := kk) (by rw [← hx]) (by rw [← hy]) k1 k8
  have hX0 := hX
  have hY0 := hY
  obtain ⟨ax, bx, ox, cx, rfl, hax, hIx⟩ := hX
  obtain ⟨ay, byy, oy, cy, rfl, hay, hIy⟩ := hY
  obtain ⟨hbx, rfl⟩ := hax (by omega)
  obtain ⟨hby, rfl⟩ := hay (by omega)
  by_cases hG : (valQ (x.map ptV ++ (y.map ptV ++ [opQ kk])) 3).2 = 0 ∨ (valQ (x.map ptV ++ (y.map ptV ++ [opQ kk])) 3).2 = 41
  · have hE : valQ (x.map ptV ++ (y.map ptV ++ [opQ kk])) 3 = Four.twoN kk 3 (valQ (x.map ptV) 3).1 (valQ (y.map ptV) 3).1 := by
      rcases hv with ⟨-, h1, h2⟩ | h
      · exact (hG.elim h1 h2).elim
      · exact h
    refine one_yes k _ _ kk hkk bx ox cx byy oy cy x y w hbx hIx x1 x5 hsx hby hIy y1 y5 hsy hg hx hy mx my mz hG (fun W hb => ?_) (fun W hb => ?_)
    · rw [hE]; exact Four.two_any kk 3 _ _ W (hg.below hb hg.lt).four
    · have := Four.fits_any 3 (valQ (x.map ptV) 3).1 W (hg.below hb hg.lt).four
      rw [fit_same, hfit] at this
      exact this
  · have hC : (valQ (x.map ptV ++ (y.map ptV ++ [opQ kk])) 3).1 = 0 := by
      rcases hv with ⟨h0, -, -⟩ | h
      · exact h0
      · rw [h] at hG ⊢
        exact two_zero _ _ _ _ fun h0 => hG (.inl h0)
    exact one_deep k _ _ kk hkk bx ox cx byy oy cy x y w hbx hIx x1 x5 hsx hby hIy y1 y5 hsy hg hx hy mx my mz (fun h => hG (.inl h)) (fun h => hG (.inr h)) hC
end Go.Proofs.YtldjiieckddhkaaGreatDoor
namespace Go.Proofs.YtldjiieckddhkaaGreatDoor
open Go.ChangeShapes Go.WideShapes Go.ChangeAt Go.RowKit
theorem laidOut : laidOutB Tryz.prog = true := by kernel_rfl
theorem five {α : Type} {l : List α} (h : l.length = 5) : ∃ a b c d e, l = [a, b, c, d, e] := by
  match l, h with
  | [a, b, c, d, e], _ => exact ⟨a, b, c, d, e, rfl⟩
theorem wf_int {n : Int} (hw : (Lit.int .i64 n).wf = true) : -9223372036854775808 ≤ n ∧ n ≤ 9223372036854775807 := by
  have h : (decide (IntKind.i64.min ≤ n) && decide (n ≤ IntKind.i64.max)) = true := hw
  rw [Bool.and_eq_true] at h
  exact ⟨of_decide_eq_true h.1, of_decide_eq_true h.2⟩
/-- a list of tokens that can come in -/
def OkP (l : List Pv) : Prop := l.length * 56 ≤ 140737488351232 ∧ ∀ x ∈ l, x.s.size ≤ 140737488351232 ∧ x.f.size ≤ 140737488351232 ∧ (-9223372036854775808 ≤ x.n ∧ x.n ≤ 9223372036854775807)
theorem cells46 : Tryz.prog.cellsOf 38 = 5 := by kernel_rfl
theorem bytes46 : Tryz.prog.bytesOf 38 = 56 := by kernel_rfl
/-- a part's data -/
def pvD {H : Type} (y : Pv) : DataW H := .agg [.lit (.int .i64 y.k), .lit (.int .i64 y.n), .lit (.int .i64 y.t), .lit (.string y.s.data.toList), .lit (.string y.f.data.toList)]
theorem open_parts {H : Type} {enc : TypeId × Value → H} {W : World} {fuel len cap : Nat} {a : Option Addr} {x : DataW H × List MemPlace} {cs : List Value} (h : DataW.trod enc Tryz.prog W 0 (fun _ => true) true fuel 23 cs = some x) (hcs0 : cs = [.slice a len cap]) :
    ∃ l : List Pv, l.length = len ∧ len ≤ cap ∧ PLst W (.slice a len cap) l ∧ (∀ y ∈ l, -9223372036854775808 ≤ y.n ∧ y.n ≤ 9223372036854775807) ∧ ((x.1 = .nil ∧ len = 0) ∨ ∃ el sp, x.1 = .slice el sp ∧ el = l.map pvD) := by
  subst hcs0
  rcases Deep.open_slice Tryz.underlying23 h with ⟨hcs, rfl⟩ | ⟨a', len', cap', m, n, D, Pl, hcs, hb, hl, hm, hmm, rfl, hx⟩
  · simp at hcs
    obtain ⟨rfl, rfl, rfl⟩ := hcs
    exact ⟨[], rfl, Nat.le_refl _, ⟨none, 0, 0, 0, rfl, fun h => absurd h (Nat.lt_irrefl 0), fun i x hx => (by cases hx)⟩, fun y hy => (by cases hy), .inl ⟨rfl, rfl⟩⟩
  · simp at hcs
    obtain ⟨rfl, rfl, rfl⟩ := hcs
    simp only [if_true] at hmm
    subst hmm
    rw [cells46] at hx
    have each : ∀ i, i < len → ∃ y : Pv, W.cell? (a'.add (i * 5)) = some (.int .i64 y.k) ∧ W.cell? (a'.add (i * 5 + 1)) = some (.int .i64 y.n) ∧ W.cell? (a'.add (i * 5 + 2)) = some (.int .i64 y.t) ∧ W.cell? (a'.add (i * 5 + 3)) = some (.string y.s) ∧ W.cell? (a'.add (i * 5 + 4)) = some (.string y.f) ∧ (-9223372036854775808 ≤ y.n ∧ y.n ≤ 9223372036854775807) ∧ D i = pvD y := fun i hi => by
      obtain ⟨cs', h1, h2⟩ := hx i (by omega)
      obtain ⟨_, hlen, hcell⟩ := World.cells?_some h1
      obtain ⟨xs, k, hk, hxy, _, hxl, hf⟩ := DataW.trod_struct Tryz.underlying38 h2
      obtain ⟨v0, v1, v2, v3, v4, rfl⟩ := five hlen
      obtain ⟨y0, y1, y2, y3, y4, rfl⟩ := five hxl
      have g0 := hf 0 _ rfl
      have g1 := hf 1 _ rfl
      have g2 := hf 2 _ rfl
      have g3 := hf 3 _ rfl
      have g4 := hf 4 _ rfl
      have g0' : DataW.trod enc Tryz.prog W 0 (fun _ => true) true k 3 [v0] = some y0 := by simpa [cells3] using g0
      have g1' : DataW.trod enc Tryz.prog W 0 (fun _ => true) true k 2 [v1] = some y1 := by simpa [cells2] using g1
      have g2' : DataW.trod enc Tryz.prog W 0 (fun _ => true) true k 3 [v2] = some y2 := by simpa [cells3] using g2
      have g3' : DataW.trod enc Tryz.prog W 0 (fun _ => true) true k 9 [v3] = some y3 := by simpa [cells9] using g3
      have g4' : DataW.trod enc Tryz.prog W 0 (fun _ => true) true k 9 [v4] = some y4 := by simpa [cells9] using g4
      obtain ⟨z0, e0, E0, _⟩ := DataW.trod_int Tryz.underlying3 g0'
      obtain ⟨z1, e1, E1, hw⟩ := DataW.trod_int Tryz.underlying2 g1'
      obtain ⟨z2, e2, E2, _⟩ := DataW.trod_int Tryz.underlying3 g2'
      obtain ⟨s, e3, E3, _⟩ := DataW.trod_string Tryz.underlying9 g3'
      obtain ⟨f, e4, E4, _⟩ := DataW.trod_string Tryz.underlying9 g4'
      have d0 := hcell 0 (by omega)
      have d1 := hcell 1 (by omega)
      have d2 := hcell 2 (by omega)
      have d3 := hcell 3 (by omega)
      have d4 := hcell 4 (by omega)
      rw [Deep.add_add] at d0 d1 d2 d3 d4
      injection e0 with e0
      injection e1 with e1
      injection e2 with e2
      injection e3 with e3
      injection e4 with e4
      subst e0 e1 e2 e3 e4
      refine ⟨⟨z0, z1, z2, s, f⟩, d0, d1, d2, d3, d4, wf_int hw, ?_⟩
      have hd := congrArg Prod.fst hxy
      simp only [List.map_cons, List.map_nil] at hd
      rw [hd, E0, E1, E2, E3, E4]
      rfl
    obtain ⟨f, hf⟩ := @Deep.choose_lt Pv ⟨⟨0, 0, 0, ⟨#[]⟩, ⟨#[]⟩⟩⟩ _ _ each
    refine ⟨(List.range len).map f, by simp, hl, ?_, ?_, .inr ⟨_, _, rfl, ?_⟩⟩
    · by_cases hl0 : len = 0
      · subst hl0
        exact ⟨some a', 0, 0, m, rfl, fun h => absurd h (Nat.lt_irrefl 0), fun i x hx => by cases hx⟩
      · obtain ⟨b, off, spot⟩ := a'
        have hspot : spot = none := by simpa [Addr.add] using World.cell?_spot (hf 0 (by omega)).1
        subst hspot
        have hbW : b < W.heap.size := World.block_lt_of_cell? W _ (by have := (hf 0 (by omega)).1; rwa [Addr.add_mid] at this)
        refine ⟨some ⟨b, off, none⟩, b, off, m, by simp, fun _ => ⟨hbW, rfl⟩, fun i y hy => ?_⟩
        have hi : i < len := by have := (List.getElem?_eq_some_iff.1 hy).1; simpa using this
        have hfy : f i = y := by simpa [hi] using hy
        obtain ⟨q0, q1, q2, q3, q4, _⟩ := hf i hi
        rw [Addr.add_mid] at q0 q1 q2 q3 q4
        rw [hfy] at q0 q1 q2 q3 q4
        exact ⟨q0, by rw [Nat.add_assoc]; exact q1, by rw [Nat.add_assoc]; exact q2, by rw [Nat.add_assoc]; exact q3, by rw [Nat.add_assoc]; exact q4⟩
    · intro y hy
      obtain ⟨i, hi, rfl⟩ := List.mem_map.1 hy
      exact (hf i (List.mem_range.1 hi)).2.2.2.2.2.1
    · rw [List.map_map]
      exact List.map_congr_left fun i hi => (hf i (List.mem_range.1 hi)).2.2.2.2.2.2
theorem weights_all {H : Type} {P : Program} {e : TypeId} : ∀ {ds : List (DataW H)} {d : DataW H}, d ∈ ds → ∀ n ∈ d.weights P e, n ∈ DataW.weightsAll P e ds
  | c :: ds, d, hd, n, hn => by
    simp only [DataW.weightsAll, List.mem_append]
    rcases List.mem_cons.1 hd with rfl | hd
    · exact .inl hn
    · exact .inr (weights_all hd n hn)
set_option maxRecDepth 100000 in
theorem okP_of {H : Type} {ts : List TypeId} {ds : List (DataW H)} {j : Nat} {l : List Pv} {el sp : List (DataW H)} (hsz : (DataW.weightsEach Tryz.prog ts ds).all (· ≤ reachBytes) = true) (ht : ts[j]? = some 23) (hd : ds[j]? = some (.slice el sp)) (he : el = l.map pvD)
    (hn : ∀ y ∈ l, -9223372036854775808 ≤ y.n ∧ y.n ≤ 9223372036854775807) : OkP l := by
  have hr : reachBytes = 140737488351232 := by decide
  have key : ∀ x ∈ l, ∀ n ∈ (pvD (H := H) x).weights Tryz.prog 38, n ≤ 140737488351232 := fun x hx n hm => by
    have h := List.all_eq_true.1 hsz _ (DataW.weights_mem_each ht hd n (by
      simp only [DataW.weights, Tryz.underlying23, List.mem_cons, List.mem_append]
      exact .inr (.inl (weights_all (by rw [he]; exact List.mem_map_of_mem hx) _ hm))))
    rw [hr] at h
    exact of_decide_eq_true h
  refine ⟨?_, fun x hx => ⟨?_, ?_, hn x hx⟩⟩
  · have h := sized_slice hsz ht hd Tryz.underlying23
    rw [bytes46, he, List.length_map, hr] at h
    omega
  · have := key x hx x.s.data.toList.length (by
      simp only [pvD, DataW.weights, Tryz.underlying38]
      refine List.mem_append_right _ (List.mem_append_right _ (List.mem_append_right _ (List.mem_append_left _ ?_)))
      simp only [DataW.weights]
      exact List.mem_singleton.2 rfl)
    rw [Array.length_toList] at this
    exact this
  · have := key x hx x.f.data.toList.length (by
      simp only [pvD, DataW.weights, Tryz.underlying38]
      refine List.mem_append_right _ (List.mem_append_right _ (List.mem_append_right _ (List.mem_append_right _ (List.mem_append_left _ ?_))))
      simp only [DataW.weights]
      exact List.mem_singleton.2 rfl)
    rw [Array.length_toList] at this
    exact this
end Go.Proofs.YtldjiieckddhkaaGreatDoor
