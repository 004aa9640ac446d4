/- The contract of the document's show: operations. | The contract of the document's show, over trees; its Tokens. -/
import Derived.Test.YtkicbmjjbnblfaaGreatDoorQsA
import Derived.Test.YtkicbmjjbnblfaaGreatDoorQcW
namespace Go.Proofs.YtkicbmjjbnblfaaGreatDoor
open Go.RowKit Go.Lib
set_option maxRecDepth 100000 in
set_option maxHeartbeats 3200000 in
theorem qs_one_in (v : Value) (x : List Pv) (w : World) (hL : PLst w v x) (hlen : x.length ≤ 500) (k : Nat) (n t : Int) (s f : ByteArray) (hy : x[k]? = some ⟨5, n, t, s, f⟩) (hn1 : 1 ≤ n) (hn2 : n ≤ 16) (htk : takes ⟨5, [], [], n, t⟩ = 1) (EB : List Tv) (hEB : EB.length ≤ 1500) (C : ∀ W, Below w.heap.size w W → Calls Tryz.prog 19 #[v, .int .i64 ((k : Int) - 1), .bool true] W (RowPost W EB))  : Calls Tryz.prog 19 #[v, .int .i64 (k : Int), .bool true] w (RowPost w ([sgT ⟨#[40]⟩] ++ [opTv n] ++ EB ++ [sgT ⟨#[41]⟩])) := by
  obtain ⟨a, b, off, cap, rfl, hA, hI⟩ := hL
  have hk : k < x.length := (List.getElem?_eq_some_iff.1 hy).1
  obtain ⟨hbw, rfl⟩ := hA (by omega)
  obtain ⟨c0, c1, c2, c3, c4⟩ := hI k _ hy
  obtain ⟨N, hN⟩ : ∃ N, N = x.length := ⟨_, rfl⟩
  have HC := hide C
  rw [← hN] at hlen hk HC ⊢
  have j1 : (k : Int) < (N : Int) := by omega
  have n5 : (N : Int) ≤ 500 := by omega
  simp only [] at c0 c1 c2 c3 c4
  have CT : ∀ W, Calls Tryz.prog 41 #[.agg #[.int .i64 5, .int .i64 n, .int .i64 t, .string s, .string f]] W fun e w' => e = .returned (.int .i64 1) ∧ Below W.heap.size W w' := fun W => by
    have h := qTakes_any 5 n t s f W
    rw [htk] at h
    exact h
  have CO := fun W => qopened_any n hn1 hn2 W
  have HCT := hide CT
  have HCO := hide CO
  have hX := heap_alloc_new w (.cells #[.int .i64 5, .int .i64 n, .int .i64 t, .string s, .string f] 39)
  have HXB := hide ((Below.refl w.heap.size w).alloc (Nat.le_refl _) (.cells #[.int .i64 5, .int .i64 n, .int .i64 t, .string s, .string f] 39))
  have hXs : (w.alloc (.cells #[.int .i64 5, .int .i64 n, .int .i64 t, .string s, .string f] 39)).heap.size = w.heap.size + 1 := World.size_alloc _ _
  have HXs := hide hXs
  have HD : Hid (∀ W, Below (w.alloc (.cells #[.int .i64 5, .int .i64 n, .int .i64 t, .string s, .string f] 39)).heap.size (w.alloc (.cells #[.int .i64 5, .int .i64 n, .int .i64 t, .string s, .string f] 39)) W → W.cell? ⟨w.heap.size, 0, none⟩ = some (.int .i64 5) ∧ W.cell? ⟨w.heap.size, 1, none⟩ = some (.int .i64 n) ∧ W.cell? ⟨w.heap.size, 2, none⟩ = some (.int .i64 t) ∧ W.cell? ⟨w.heap.size, 3, none⟩ = some (.string s) ∧ W.cell? ⟨w.heap.size, 4, none⟩ = some (.string f)) := fun W h => by
    have m := (h.block w.heap.size (by rw [World.size_alloc]; omega)).trans hX
    exact ⟨Lib.cell_of_heap m 0, Lib.cell_of_heap m 1, Lib.cell_of_heap m 2, Lib.cell_of_heap m 3, Lib.cell_of_heap m 4⟩
  have B0 := hide (Below.refl (w.alloc (.cells #[.int .i64 5, .int .i64 n, .int .i64 t, .string s, .string f] 39)).heap.size (w.alloc (.cells #[.int .i64 5, .int .i64 n, .int .i64 t, .string s, .string f] 39)))
  have O0 := hide (World.ownsRow_nil (w.alloc (.cells #[.int .i64 5, .int .i64 n, .int .i64 t, .string s, .string f] 39)) (w.alloc (.cells #[.int .i64 5, .int .i64 n, .int .i64 t, .string s, .string f] 39)).heap.size 54 5)
  clear hA hI hN hy hlen C CT CO hX hXs 
  go_enter Tryz.func19, Tryz.ntmps19
  go_wp2_with fail
  clear c0 c1 c2 c3 c4
  generalize w.alloc (.cells #[.int .i64 5, .int .i64 n, .int .i64 t, .string s, .string f] 39) = X at *
  refine (qmark_eq ⟨#[40]⟩ _).mono ?_
  rintro e q1 ⟨rfl, hq1⟩
  subst hq1
  have z1 := B0.out.size
  go_wp2_with (at_builtin; go_must (refine wpList_append_toks (by rfl) _ _ (by rfl) X.heap.size _ (.slice none 0 0) _ (by rfl) ((O0.out.alloc _).alloc _) (.slice (some ⟨X.heap.size + 1, 0, none⟩) 1 1) [sgT ⟨#[40]⟩] (by rfl) (lst_lit _ _ _ (by simp) rfl rfl (by decide)) (by first | omega | (simp; omega) | simp) (by first | (simp; omega) | simp) ?_; intro v1 w1 hown1 hgrow1; have O1 := hide hown1; have B1 := hide ((((B0.out.alloc z1 _).alloc (by first | (simp; omega) | simp) _)).grown hgrow1 (by first | (simp; omega) | simp) (fun r hr => (O0.out.lt r hr).1)); clear hown1 hgrow1; have dd := HD.out w1 B1.out; obtain ⟨d0, d1, d2, d3, d4⟩ := dd))
  refine (HCT.out _).mono ?_
  rintro e w2 ⟨rfl, hb2⟩
  have O2 := hide (own_on O1.out hb2)
  have B2 := hide (B1.out.trans (hb2.mono B1.out.size))
  clear hb2
  have dd := HD.out w2 B2.out; obtain ⟨d0, d1, d2, d3, d4⟩ := dd
  go_wp2_with fail
  refine (HCO.out _).mono ?_
  rintro e w3 ⟨rfl, hb3⟩
  have O3 := hide (own_on O2.out hb3)
  have B3 := hide (B2.out.trans (hb3.mono B2.out.size))
  clear hb3
  have z3 := B3.out.size
  unfold tvA
  go_wp2_with (at_builtin; go_must (refine wpList_append_toks (by rfl) _ _ (by rfl) X.heap.size _ v1 _ (by rfl) (O3.out.alloc _) (.slice (some ⟨w3.heap.size, 0, none⟩) 1 1) [opTv n] (by rfl) (lst_lit _ _ _ rfl rfl rfl (by decide)) (by first | omega | (simp; omega) | simp) (by first | (simp; omega) | simp) ?_; intro v4 w4 hown4 hgrow4; have O4 := hide hown4; have B4 := hide ((B3.out.alloc z3 _).grown hgrow4 (by first | (simp; omega) | simp) (fun r hr => (O3.out.lt r hr).1)); clear hown4 hgrow4))
  refine (HC.out _ (HXB.out.trans (B4.out.mono HXB.out.size))).mono ?_
  rintro e w5 ⟨u5, rfl, hu5, hb5⟩
  have O5 := hide (own_on O4.out hb5)
  have B5 := hide (B4.out.trans (hb5.mono B4.out.size))
  have LU5 := hide (Lst.of_owns hu5)
  clear hu5 hb5
  go_wp2_with (at_builtin; go_must (refine wpList_append_toks (by rfl) _ _ (by rfl) X.heap.size _ v4 _ (by rfl) O5.out u5 EB (by rfl) LU5.out (by first | omega | (simp; omega) | simp) B5.out.size ?_; intro v6 w6 hown6 hgrow6; have O6 := hide hown6; have B6 := hide (B5.out.grown hgrow6 B5.out.size (fun r hr => (O5.out.lt r hr).1)); clear hown6 hgrow6; have dd := HD.out w6 B6.out; obtain ⟨d0, d1, d2, d3, d4⟩ := dd))
  refine (qmark_eq ⟨#[41]⟩ _).mono ?_
  rintro e q7 ⟨rfl, hq7⟩
  subst hq7
  have z7 := B6.out.size
  go_wp2_with (at_builtin; go_must (refine wpList_append_toks (by rfl) _ _ (by rfl) X.heap.size _ v6 _ (by rfl) ((O6.out.alloc _).alloc _) (.slice (some ⟨w6.heap.size + 1, 0, none⟩) 1 1) [sgT ⟨#[41]⟩] (by rfl) (lst_lit _ _ _ (by simp) rfl rfl (by decide)) (by first | omega | (simp; omega) | simp) (by first | (simp; omega) | simp) ?_; intro v7 w7 hown7 hgrow7; have O7 := hide hown7; have B7 := hide ((((B6.out.alloc z7 _).alloc (by first | (simp; omega) | simp) _)).grown hgrow7 (by first | (simp; omega) | simp) (fun r hr => (O6.out.lt r hr).1)); clear hown7 hgrow7; have dd := HD.out w7 B7.out; obtain ⟨d0, d1, d2, d3, d4⟩ := dd))
  go_ret
  exact ⟨v7, rfl, own_final O7.out (by have := HXs.out; omega) (by rw [List.nil_append]; simp only [← tvsC_append]; first | done | simp), (HXB.out.trans (B7.out.mono HXB.out.size))⟩
set_option maxRecDepth 100000 in
set_option maxHeartbeats 3200000 in
theorem qs_one_out (v : Value) (x : List Pv) (w : World) (hL : PLst w v x) (hlen : x.length ≤ 500) (k : Nat) (n t : Int) (s f : ByteArray) (hy : x[k]? = some ⟨5, n, t, s, f⟩) (hn1 : 1 ≤ n) (hn2 : n ≤ 16) (htk : takes ⟨5, [], [], n, t⟩ = 1) (EB : List Tv) (hEB : EB.length ≤ 1500) (C : ∀ W, Below w.heap.size w W → Calls Tryz.prog 19 #[v, .int .i64 ((k : Int) - 1), .bool true] W (RowPost W EB))  : Calls Tryz.prog 19 #[v, .int .i64 (k : Int), .bool false] w (RowPost w ([opTv n] ++ EB)) := by
  obtain ⟨a, b, off, cap, rfl, hA, hI⟩ := hL
  have hk : k < x.length := (List.getElem?_eq_some_iff.1 hy).1
  obtain ⟨hbw, rfl⟩ := hA (by omega)
  obtain ⟨c0, c1, c2, c3, c4⟩ := hI k _ hy
  obtain ⟨N, hN⟩ : ∃ N, N = x.length := ⟨_, rfl⟩
  have HC := hide C
  rw [← hN] at hlen hk HC ⊢
  have j1 : (k : Int) < (N : Int) := by omega
  have n5 : (N : Int) ≤ 500 := by omega
  simp only [] at c0 c1 c2 c3 c4
  have CT : ∀ W, Calls Tryz.prog 41 #[.agg #[.int .i64 5, .int .i64 n, .int .i64 t, .string s, .string f]] W fun e w' => e = .returned (.int .i64 1) ∧ Below W.heap.size W w' := fun W => by
    have h := qTakes_any 5 n t s f W
    rw [htk] at h
    exact h
  have CO := fun W => qopened_any n hn1 hn2 W
  have HCT := hide CT
  have HCO := hide CO
  have hX := heap_alloc_new w (.cells #[.int .i64 5, .int .i64 n, .int .i64 t, .string s, .string f] 39)
  have HXB := hide ((Below.refl w.heap.size w).alloc (Nat.le_refl _) (.cells #[.int .i64 5, .int .i64 n, .int .i64 t, .string s, .string f] 39))
  have hXs : (w.alloc (.cells #[.int .i64 5, .int .i64 n, .int .i64 t, .string s, .string f] 39)).heap.size = w.heap.size + 1 := World.size_alloc _ _
  have HXs := hide hXs
  have HD : Hid (∀ W, Below (w.alloc (.cells #[.int .i64 5, .int .i64 n, .int .i64 t, .string s, .string f] 39)).heap.size (w.alloc (.cells #[.int .i64 5, .int .i64 n, .int .i64 t, .string s, .string f] 39)) W → W.cell? ⟨w.heap.size, 0, none⟩ = some (.int .i64 5) ∧ W.cell? ⟨w.heap.size, 1, none⟩ = some (.int .i64 n) ∧ W.cell? ⟨w.heap.size, 2, none⟩ = some (.int .i64 t) ∧ W.cell? ⟨w.heap.size, 3, none⟩ = some (.string s) ∧ W.cell? ⟨w.heap.size, 4, none⟩ = some (.string f)) := fun W h => by
    have m := (h.block w.heap.size (by rw [World.size_alloc]; omega)).trans hX
    exact ⟨Lib.cell_of_heap m 0, Lib.cell_of_heap m 1, Lib.cell_of_heap m 2, Lib.cell_of_heap m 3, Lib.cell_of_heap m 4⟩
  have B0 := hide (Below.refl (w.alloc (.cells #[.int .i64 5, .int .i64 n, .int .i64 t, .string s, .string f] 39)).heap.size (w.alloc (.cells #[.int .i64 5, .int .i64 n, .int .i64 t, .string s, .string f] 39)))
  have O0 := hide (World.ownsRow_nil (w.alloc (.cells #[.int .i64 5, .int .i64 n, .int .i64 t, .string s, .string f] 39)) (w.alloc (.cells #[.int .i64 5, .int .i64 n, .int .i64 t, .string s, .string f] 39)).heap.size 54 5)
  clear hA hI hN hy hlen C CT CO hX hXs 
  go_enter Tryz.func19, Tryz.ntmps19
  go_wp2_with fail
  clear c0 c1 c2 c3 c4
  generalize w.alloc (.cells #[.int .i64 5, .int .i64 n, .int .i64 t, .string s, .string f] 39) = X at *
  refine (HCT.out _).mono ?_
  rintro e w1 ⟨rfl, hb1⟩
  have O1 := hide (own_on O0.out hb1)
  have B1 := hide (B0.out.trans (hb1.mono B0.out.size))
  clear hb1
  have dd := HD.out w1 B1.out; obtain ⟨d0, d1, d2, d3, d4⟩ := dd
  go_wp2_with fail
  refine (HCO.out _).mono ?_
  rintro e w2 ⟨rfl, hb2⟩
  have O2 := hide (own_on O1.out hb2)
  have B2 := hide (B1.out.trans (hb2.mono B1.out.size))
  clear hb2
  have z2 := B2.out.size
  unfold tvA
  go_wp2_with (at_builtin; go_must (refine wpList_append_toks (by rfl) _ _ (by rfl) X.heap.size _ (.slice none 0 0) _ (by rfl) (O2.out.alloc _) (.slice (some ⟨w2.heap.size, 0, none⟩) 1 1) [opTv n] (by rfl) (lst_lit _ _ _ rfl rfl rfl (by decide)) (by first | omega | (simp; omega) | simp) (by first | (simp; omega) | simp) ?_; intro v3 w3 hown3 hgrow3; have O3 := hide hown3; have B3 := hide ((B2.out.alloc z2 _).grown hgrow3 (by first | (simp; omega) | simp) (fun r hr => (O2.out.lt r hr).1)); clear hown3 hgrow3))
  refine (HC.out _ (HXB.out.trans (B3.out.mono HXB.out.size))).mono ?_
  rintro e w4 ⟨u4, rfl, hu4, hb4⟩
  have O4 := hide (own_on O3.out hb4)
  have B4 := hide (B3.out.trans (hb4.mono B3.out.size))
  have LU4 := hide (Lst.of_owns hu4)
  clear hu4 hb4
  go_wp2_with (at_builtin; go_must (refine wpList_append_toks (by rfl) _ _ (by rfl) X.heap.size _ v3 _ (by rfl) O4.out u4 EB (by rfl) LU4.out (by first | omega | (simp; omega) | simp) B4.out.size ?_; intro v5 w5 hown5 hgrow5; have O5 := hide hown5; have B5 := hide (B4.out.grown hgrow5 B4.out.size (fun r hr => (O4.out.lt r hr).1)); clear hown5 hgrow5; have dd := HD.out w5 B5.out; obtain ⟨d0, d1, d2, d3, d4⟩ := dd))
  go_ret
  exact ⟨v5, rfl, own_final O5.out (by have := HXs.out; omega) (by rw [List.nil_append]; simp only [← tvsC_append]; first | done | simp), (HXB.out.trans (B5.out.mono HXB.out.size))⟩
set_option maxRecDepth 100000 in
set_option maxHeartbeats 3200000 in
theorem qs_two_in (v : Value) (x : List Pv) (w : World) (hL : PLst w v x) (hlen : x.length ≤ 500) (k : Nat) (n t : Int) (s f : ByteArray) (hy : x[k]? = some ⟨5, n, t, s, f⟩) (hn1 : 1 ≤ n) (hn2 : n ≤ 16) (htk : takes ⟨5, [], [], n, t⟩ = 2) (EB : List Tv) (hEB : EB.length ≤ 1500) (EA : List Tv) (hEA : EA.length ≤ 1500) (s0 : Nat) (hs0 : s0 ≤ 500) (CF : ∀ W, Below w.heap.size w W → Calls Tryz.prog 42 #[v, .int .i64 ((k : Int) - 1)] W fun e w' => e = .returned (.int .i64 (s0 : Int)) ∧ Below W.heap.size W w') (CA : ∀ W, Below w.heap.size w W → Calls Tryz.prog 19 #[v, .int .i64 ((s0 : Int) - 1), .bool true] W (RowPost W EA)) (C : ∀ W, Below w.heap.size w W → Calls Tryz.prog 19 #[v, .int .i64 ((k : Int) - 1), .bool true] W (RowPost W EB))  : Calls Tryz.prog 19 #[v, .int .i64 (k : Int), .bool true] w (RowPost w ([sgT ⟨#[40]⟩] ++ EA ++ [opTv n] ++ EB ++ [sgT ⟨#[41]⟩])) := by
  obtain ⟨a, b, off, cap, rfl, hA, hI⟩ := hL
  have hk : k < x.length := (List.getElem?_eq_some_iff.1 hy).1
  obtain ⟨hbw, rfl⟩ := hA (by omega)
  obtain ⟨c0, c1, c2, c3, c4⟩ := hI k _ hy
  obtain ⟨N, hN⟩ : ∃ N, N = x.length := ⟨_, rfl⟩
  have HC := hide C
  have HCA := hide CA
  have HCF := hide CF
  rw [← hN] at hlen hk HC HCA HCF ⊢
  have j1 : (k : Int) < (N : Int) := by omega
  have n5 : (N : Int) ≤ 500 := by omega
  simp only [] at c0 c1 c2 c3 c4
  have CT : ∀ W, Calls Tryz.prog 41 #[.agg #[.int .i64 5, .int .i64 n, .int .i64 t, .string s, .string f]] W fun e w' => e = .returned (.int .i64 2) ∧ Below W.heap.size W w' := fun W => by
    have h := qTakes_any 5 n t s f W
    rw [htk] at h
    exact h
  have CO := fun W => qopened_any n hn1 hn2 W
  have HCT := hide CT
  have HCO := hide CO
  have hX := heap_alloc_new w (.cells #[.int .i64 5, .int .i64 n, .int .i64 t, .string s, .string f] 39)
  have HXB := hide ((Below.refl w.heap.size w).alloc (Nat.le_refl _) (.cells #[.int .i64 5, .int .i64 n, .int .i64 t, .string s, .string f] 39))
  have hXs : (w.alloc (.cells #[.int .i64 5, .int .i64 n, .int .i64 t, .string s, .string f] 39)).heap.size = w.heap.size + 1 := World.size_alloc _ _
  have HXs := hide hXs
  have HD : Hid (∀ W, Below (w.alloc (.cells #[.int .i64 5, .int .i64 n, .int .i64 t, .string s, .string f] 39)).heap.size (w.alloc (.cells #[.int .i64 5, .int .i64 n, .int .i64 t, .string s, .string f] 39)) W → W.cell? ⟨w.heap.size, 0, none⟩ = some (.int .i64 5) ∧ W.cell? ⟨w.heap.size, 1, none⟩ = some (.int .i64 n) ∧ W.cell? ⟨w.heap.size, 2, none⟩ = some (.int .i64 t) ∧ W.cell? ⟨w.heap.size, 3, none⟩ = some (.string s) ∧ W.cell? ⟨w.heap.size, 4, none⟩ = some (.string f)) := fun W h => by
    have m := (h.block w.heap.size (by rw [World.size_alloc]; omega)).trans hX
    exact ⟨Lib.cell_of_heap m 0, Lib.cell_of_heap m 1, Lib.cell_of_heap m 2, Lib.cell_of_heap m 3, Lib.cell_of_heap m 4⟩
  have B0 := hide (Below.refl (w.alloc (.cells #[.int .i64 5, .int .i64 n, .int .i64 t, .string s, .string f] 39)).heap.size (w.alloc (.cells #[.int .i64 5, .int .i64 n, .int .i64 t, .string s, .string f] 39)))
  have O0 := hide (World.ownsRow_nil (w.alloc (.cells #[.int .i64 5, .int .i64 n, .int .i64 t, .string s, .string f] 39)) (w.alloc (.cells #[.int .i64 5, .int .i64 n, .int .i64 t, .string s, .string f] 39)).heap.size 54 5)
  clear hA hI hN hy hlen C CT CO hX hXs CA CF
  go_enter Tryz.func19, Tryz.ntmps19
  go_wp2_with fail
  clear c0 c1 c2 c3 c4
  generalize w.alloc (.cells #[.int .i64 5, .int .i64 n, .int .i64 t, .string s, .string f] 39) = X at *
  refine (qmark_eq ⟨#[40]⟩ _).mono ?_
  rintro e q1 ⟨rfl, hq1⟩
  subst hq1
  have z1 := B0.out.size
  go_wp2_with (at_builtin; go_must (refine wpList_append_toks (by rfl) _ _ (by rfl) X.heap.size _ (.slice none 0 0) _ (by rfl) ((O0.out.alloc _).alloc _) (.slice (some ⟨X.heap.size + 1, 0, none⟩) 1 1) [sgT ⟨#[40]⟩] (by rfl) (lst_lit _ _ _ (by simp) rfl rfl (by decide)) (by first | omega | (simp; omega) | simp) (by first | (simp; omega) | simp) ?_; intro v1 w1 hown1 hgrow1; have O1 := hide hown1; have B1 := hide ((((B0.out.alloc z1 _).alloc (by first | (simp; omega) | simp) _)).grown hgrow1 (by first | (simp; omega) | simp) (fun r hr => (O0.out.lt r hr).1)); clear hown1 hgrow1; have dd := HD.out w1 B1.out; obtain ⟨d0, d1, d2, d3, d4⟩ := dd))
  refine (HCT.out _).mono ?_
  rintro e w2 ⟨rfl, hb2⟩
  have O2 := hide (own_on O1.out hb2)
  have B2 := hide (B1.out.trans (hb2.mono B1.out.size))
  clear hb2
  have dd := HD.out w2 B2.out; obtain ⟨d0, d1, d2, d3, d4⟩ := dd
  go_wp2_with fail
  refine (HCF.out _ (HXB.out.trans (B2.out.mono HXB.out.size))).mono ?_
  rintro e w3 ⟨rfl, hb3⟩
  have O3 := hide (own_on O2.out hb3)
  have B3 := hide (B2.out.trans (hb3.mono B2.out.size))
  clear hb3
  have dd := HD.out w3 B3.out; obtain ⟨d0, d1, d2, d3, d4⟩ := dd
  go_wp2_with fail
  refine (HCA.out _ (HXB.out.trans (B3.out.mono HXB.out.size))).mono ?_
  rintro e w4 ⟨u4, rfl, hu4, hb4⟩
  have O4 := hide (own_on O3.out hb4)
  have B4 := hide (B3.out.trans (hb4.mono B3.out.size))
  have LU4 := hide (Lst.of_owns hu4)
  clear hu4 hb4
  go_wp2_with (at_builtin; go_must (refine wpList_append_toks (by rfl) _ _ (by rfl) X.heap.size _ v1 _ (by rfl) O4.out u4 EA (by rfl) LU4.out (by first | omega | (simp; omega) | simp) B4.out.size ?_; intro v5 w5 hown5 hgrow5; have O5 := hide hown5; have B5 := hide (B4.out.grown hgrow5 B4.out.size (fun r hr => (O4.out.lt r hr).1)); clear hown5 hgrow5; have dd := HD.out w5 B5.out; obtain ⟨d0, d1, d2, d3, d4⟩ := dd))
  refine (HCO.out _).mono ?_
  rintro e w6 ⟨rfl, hb6⟩
  have O6 := hide (own_on O5.out hb6)
  have B6 := hide (B5.out.trans (hb6.mono B5.out.size))
  clear hb6
  have z6 := B6.out.size
  unfold tvA
  go_wp2_with (at_builtin; go_must (refine wpList_append_toks (by rfl) _ _ (by rfl) X.heap.size _ v5 _ (by rfl) (O6.out.alloc _) (.slice (some ⟨w6.heap.size, 0, none⟩) 1 1) [opTv n] (by rfl) (lst_lit _ _ _ rfl rfl rfl (by decide)) (by first | omega | (simp; omega) | simp) (by first | (simp; omega) | simp) ?_; intro v7 w7 hown7 hgrow7; have O7 := hide hown7; have B7 := hide ((B6.out.alloc z6 _).grown hgrow7 (by first | (simp; omega) | simp) (fun r hr => (O6.out.lt r hr).1)); clear hown7 hgrow7))
  refine (HC.out _ (HXB.out.trans (B7.out.mono HXB.out.size))).mono ?_
  rintro e w8 ⟨u8, rfl, hu8, hb8⟩
  have O8 := hide (own_on O7.out hb8)
  have B8 := hide (B7.out.trans (hb8.mono B7.out.size))
  have LU8 := hide (Lst.of_owns hu8)
  clear hu8 hb8
  go_wp2_with (at_builtin; go_must (refine wpList_append_toks (by rfl) _ _ (by rfl) X.heap.size _ v7 _ (by rfl) O8.out u8 EB (by rfl) LU8.out (by first | omega | (simp; omega) | simp) B8.out.size ?_; intro v9 w9 hown9 hgrow9; have O9 := hide hown9; have B9 := hide (B8.out.grown hgrow9 B8.out.size (fun r hr => (O8.out.lt r hr).1)); clear hown9 hgrow9; have dd := HD.out w9 B9.out; obtain ⟨d0, d1, d2, d3, d4⟩ := dd))
  refine (qmark_eq ⟨#[41]⟩ _).mono ?_
  rintro e q10 ⟨rfl, hq10⟩
  subst hq10
  have z10 := B9.out.size
  go_wp2_with (at_builtin; go_must (refine wpList_append_toks (by rfl) _ _ (by rfl) X.heap.size _ v9 _ (by rfl) ((O9.out.alloc _).alloc _) (.slice (some ⟨w9.heap.size + 1, 0, none⟩) 1 1) [sgT ⟨#[41]⟩] (by rfl) (lst_lit _ _ _ (by simp) rfl rfl (by decide)) (by first | omega | (simp; omega) | simp) (by first | (simp; omega) | simp) ?_; intro v10 w10 hown10 hgrow10; have O10 := hide hown10; have B10 := hide ((((B9.out.alloc z10 _).alloc (by first | (simp; omega) | simp) _)).grown hgrow10 (by first | (simp; omega) | simp) (fun r hr => (O9.out.lt r hr).1)); clear hown10 hgrow10; have dd := HD.out w10 B10.out; obtain ⟨d0, d1, d2, d3, d4⟩ := dd))
  go_ret
  exact ⟨v10, rfl, own_final O10.out (by have := HXs.out; omega) (by rw [List.nil_append]; simp only [← tvsC_append]; first | done | simp), (HXB.out.trans (B10.out.mono HXB.out.size))⟩
set_option maxRecDepth 100000 in
set_option maxHeartbeats 3200000 in
theorem qs_two_out (v : Value) (x : List Pv) (w : World) (hL : PLst w v x) (hlen : x.length ≤ 500) (k : Nat) (n t : Int) (s f : ByteArray) (hy : x[k]? = some ⟨5, n, t, s, f⟩) (hn1 : 1 ≤ n) (hn2 : n ≤ 16) (htk : takes ⟨5, [], [], n, t⟩ = 2) (EB : List Tv) (hEB : EB.length ≤ 1500) (EA : List Tv) (hEA : EA.length ≤ 1500) (s0 : Nat) (hs0 : s0 ≤ 500) (CF : ∀ W, Below w.heap.size w W → Calls Tryz.prog 42 #[v, .int .i64 ((k : Int) - 1)] W fun e w' => e = .returned (.int .i64 (s0 : Int)) ∧ Below W.heap.size W w') (CA : ∀ W, Below w.heap.size w W → Calls Tryz.prog 19 #[v, .int .i64 ((s0 : Int) - 1), .bool true] W (RowPost W EA)) (C : ∀ W, Below w.heap.size w W → Calls Tryz.prog 19 #[v, .int .i64 ((k : Int) - 1), .bool true] W (RowPost W EB))  : Calls Tryz.prog 19 #[v, .int .i64 (k : Int), .bool false] w (RowPost w (EA ++ [opTv n] ++ EB)) := by
  obtain ⟨a, b, off, cap, rfl, hA, hI⟩ := hL
  have hk : k < x.length := (List.getElem?_eq_some_iff.1 hy).1
  obtain ⟨hbw, rfl⟩ := hA (by omega)
  obtain ⟨c0, c1, c2, c3, c4⟩ := hI k _ hy
  obtain ⟨N, hN⟩ : ∃ N, N = x.length := ⟨_, rfl⟩
  have HC := hide C
  have HCA := hide CA
  have HCF := hide CF
  rw [← hN] at hlen hk HC HCA HCF ⊢
  have j1 : (k : Int) < (N : Int) := by omega
  have n5 : (N : Int) ≤ 500 := by omega
  simp only [] at c0 c1 c2 c3 c4
  have CT : ∀ W, Calls Tryz.prog 41 #[.agg #[.int .i64 5, .int .i64 n, .int .i64 t, .string s, .string f]] W fun e w' => e = .returned (.int .i64 2) ∧ Below W.heap.size W w' := fun W => by
    have h := qTakes_any 5 n t s f W
    rw [htk] at h
    exact h
  have CO := fun W => qopened_any n hn1 hn2 W
  have HCT := hide CT
  have HCO := hide CO
  have hX := heap_alloc_new w (.cells #[.int .i64 5, .int .i64 n, .int .i64 t, .string s, .string f] 39)
  have HXB := hide ((Below.refl w.heap.size w).alloc (Nat.le_refl _) (.cells #[.int .i64 5, .int .i64 n, .int .i64 t, .string s, .string f] 39))
  have hXs : (w.alloc (.cells #[.int .i64 5, .int .i64 n, .int .i64 t, .string s, .string f] 39)).heap.size = w.heap.size + 1 := World.size_alloc _ _
  have HXs := hide hXs
  have HD : Hid (∀ W, Below (w.alloc (.cells #[.int .i64 5, .int .i64 n, .int .i64 t, .string s, .string f] 39)).heap.size (w.alloc (.cells #[.int .i64 5, .int .i64 n, .int .i64 t, .string s, .string f] 39)) W → W.cell? ⟨w.heap.size, 0, none⟩ = some (.int .i64 5) ∧ W.cell? ⟨w.heap.size, 1, none⟩ = some (.int .i64 n) ∧ W.cell? ⟨w.heap.size, 2, none⟩ = some (.int .i64 t) ∧ W.cell? ⟨w.heap.size, 3, none⟩ = some (.string s) ∧ W.cell? ⟨w.heap.size, 4, none⟩ = some (.string f)) := fun W h => by
    have m := (h.block w.heap.size (by rw [World.size_alloc]; omega)).trans hX
    exact ⟨Lib.cell_of_heap m 0, Lib.cell_of_heap m 1, Lib.cell_of_heap m 2, Lib.cell_of_heap m 3, Lib.cell_of_heap m 4⟩
  have B0 := hide (Below.refl (w.alloc (.cells #[.int .i64 5, .int .i64 n, .int .i64 t, .string s, .string f] 39)).heap.size (w.alloc (.cells #[.int .i64 5, .int .i64 n, .int .i64 t, .string s, .string f] 39)))
  have O0 := hide (World.ownsRow_nil (w.alloc (.cells #[.int .i64 5, .int .i64 n, .int .i64 t, .string s, .string f] 39)) (w.alloc (.cells #[.int .i64 5, .int .i64 n, .int .i64 t, .string s, .string f] 39)).heap.size 54 5)
  clear hA hI hN hy hlen C CT CO hX hXs CA CF
  go_enter Tryz.func19, Tryz.ntmps19
  go_wp2_with fail
  clear c0 c1 c2 c3 c4
  generalize w.alloc (.cells #[.int .i64 5, .int .i64 n, .int .i64 t, .string s, .string f] 39) = X at *
  refine (HCT.out _).mono ?_
  rintro e w1 ⟨rfl, hb1⟩
  have O1 := hide (own_on O0.out hb1)
  have B1 := hide (B0.out.trans (hb1.mono B0.out.size))
  clear hb1
  have dd := HD.out w1 B1.out; obtain ⟨d0, d1, d2, d3, d4⟩ := dd
  go_wp2_with fail
  refine (HCF.out _ (HXB.out.trans (B1.out.mono HXB.out.size))).mono ?_
  rintro e w2 ⟨rfl, hb2⟩
  have O2 := hide (own_on O1.out hb2)
  have B2 := hide (B1.out.trans (hb2.mono B1.out.size))
  clear hb2
  have dd := HD.out w2 B2.out; obtain ⟨d0, d1, d2, d3, d4⟩ := dd
  go_wp2_with fail
  refine (HCA.out _ (HXB.out.trans (B2.out.mono HXB.out.size))).mono ?_
  rintro e w3 ⟨u3, rfl, hu3, hb3⟩
  have O3 := hide (own_on O2.out hb3)
  have B3 := hide (B2.out.trans (hb3.mono B2.out.size))
  have LU3 := hide (Lst.of_owns hu3)
  clear hu3 hb3
  go_wp2_with (at_builtin; go_must (refine wpList_append_toks (by rfl) _ _ (by rfl) X.heap.size _ (.slice none 0 0) _ (by rfl) O3.out u3 EA (by rfl) LU3.out (by first | omega | (simp; omega) | simp) B3.out.size ?_; intro v4 w4 hown4 hgrow4; have O4 := hide hown4; have B4 := hide (B3.out.grown hgrow4 B3.out.size (fun r hr => (O3.out.lt r hr).1)); clear hown4 hgrow4; have dd := HD.out w4 B4.out; obtain ⟨d0, d1, d2, d3, d4⟩ := dd))
  refine (HCO.out _).mono ?_
  rintro e w5 ⟨rfl, hb5⟩
  have O5 := hide (own_on O4.out hb5)
  have B5 := hide (B4.out.trans (hb5.mono B4.out.size))
  clear hb5
  have z5 := B5.out.size
  unfold tvA
  go_wp2_with (at_builtin; go_must (refine wpList_append_toks (by rfl) _ _ (by rfl) X.heap.size _ v4 _ (by rfl) (O5.out.alloc _) (.slice (some ⟨w5.heap.size, 0, none⟩) 1 1) [opTv n] (by rfl) (lst_lit _ _ _ rfl rfl rfl (by decide)) (by first | omega | (simp; omega) | simp) (by first | (simp; omega) | simp) ?_; intro v6 w6 hown6 hgrow6; have O6 := hide hown6; have B6 := hide ((B5.out.alloc z5 _).grown hgrow6 (by first | (simp; omega) | simp) (fun r hr => (O5.out.lt r hr).1)); clear hown6 hgrow6))
  refine (HC.out _ (HXB.out.trans (B6.out.mono HXB.out.size))).mono ?_
  rintro e w7 ⟨u7, rfl, hu7, hb7⟩
  have O7 := hide (own_on O6.out hb7)
  have B7 := hide (B6.out.trans (hb7.mono B6.out.size))
  have LU7 := hide (Lst.of_owns hu7)
  clear hu7 hb7
  go_wp2_with (at_builtin; go_must (refine wpList_append_toks (by rfl) _ _ (by rfl) X.heap.size _ v6 _ (by rfl) O7.out u7 EB (by rfl) LU7.out (by first | omega | (simp; omega) | simp) B7.out.size ?_; intro v8 w8 hown8 hgrow8; have O8 := hide hown8; have B8 := hide (B7.out.grown hgrow8 B7.out.size (fun r hr => (O7.out.lt r hr).1)); clear hown8 hgrow8; have dd := HD.out w8 B8.out; obtain ⟨d0, d1, d2, d3, d4⟩ := dd))
  go_ret
  exact ⟨v8, rfl, own_final O8.out (by have := HXs.out; omega) (by rw [List.nil_append]; simp only [← tvsC_append]; first | done | simp), (HXB.out.trans (B8.out.mono HXB.out.size))⟩
end Go.Proofs.YtkicbmjjbnblfaaGreatDoor
namespace Go.Proofs.YtkicbmjjbnblfaaGreatDoor
open Go.RowKit Go.Lib
def tz (t : Tk) : Tv := ⟨t.kind, ⟨t.s.toArray⟩, t.n, t.ty, 0⟩
theorem tz_tkV (x : Tv) (h : x.at_ = 0) : tz (tkV x) = x := by
  obtain ⟨k, s, n, t, a⟩ := x
  obtain rfl : a = 0 := h
  show (⟨k, ⟨s.data.toList.toArray⟩, n, t, 0⟩ : Tv) = _
  rw [text_back]
theorem tz_op (n : Int) : tz (opTok n) = opTv n := by rw [← map_op, tz_tkV _ rfl]
theorem tz_word (s : ByteArray) : tz (wordT s.data.toList) = wdT s := tz_tkV (wdT s) rfl
theorem tz_list {L : List Tv} {T : List Tk} (h : L.map tkV = T) (hz : ∀ t ∈ L, t.at_ = 0) : L = T.map tz := by
  rw [← h, List.map_map]
  conv => lhs; rw [← List.map_id L]
  exact List.map_congr_left fun x hx => (tz_tkV x (hz x hx)).symm
theorem brk_len (b : Bool) (l : List Tk) : (brk b l).length ≤ l.length + 2 := by
  unfold brk
  split
  · simp
  · omega
theorem show_len : ∀ (e : Ex) (b : Bool), (showE e b).length ≤ 3 * (flat e).length
  | .leaf p, b => by
    unfold showE
    show _ ≤ 3 * 1
    split
    · split <;> simp
    · split <;> simp
  | .one p e, b => by
    have h0 := show_len e false
    have h1 := show_len e true
    unfold showE
    show _ ≤ 3 * (flat e ++ [p]).length
    rw [List.length_append]
    show _ ≤ 3 * ((flat e).length + 1)
    split
    · simp; omega
    · split
      · simp; omega
      · have := brk_len b (opTok p.n :: showE e true)
        rw [List.length_cons] at this
        omega
  | .two p a c, b => by
    have h0 := show_len a true
    have h1 := show_len c true
    unfold showE
    show _ ≤ 3 * (flat a ++ (flat c ++ [p])).length
    rw [List.length_append, List.length_append]
    show _ ≤ 3 * ((flat a).length + ((flat c).length + 1))
    have := brk_len b (showE a true ++ opTok p.n :: showE c true)
    rw [List.length_append, List.length_cons] at this
    omega
theorem at_part {x : List Pv} {l r : List Pt} {p : Pt} (h : x.map ptV = l ++ p :: r) : ∃ y, x[l.length]? = some y ∧ ptV y = p := by
  have e : (x.map ptV)[l.length]? = some p := by rw [h]; simp
  rw [List.getElem?_map] at e
  obtain ⟨y, hy, hp⟩ := Option.map_eq_some_iff.1 e
  exact ⟨y, hy, hp⟩
theorem row_eq {w : World} {L L' : List Tv} {n : Nat} {args : Array Value} (h : Calls Tryz.prog n args w (RowPost w L)) (e : L' = L) : Calls Tryz.prog n args w (RowPost w L') := by rw [e]; exact h
theorem qshow_any : ∀ (e : Ex), well e → ∀ (v : Value) (x : List Pv) (w : World), PLst w v x → x.length ≤ 500 → ∀ (l r : List Pt), x.map ptV = l ++ flat e ++ r → ∀ (inner : Bool), Calls Tryz.prog 19 #[v, .int .i64 (((l.length + (flat e).length : Nat) : Int) - 1), .bool inner] w (RowPost w ((showE e inner).map tz))
  | .leaf p, hw, v, x, w, hL, hlen, l, r, hx, inner => by
    have hx' : x.map ptV = l ++ p :: r := by rw [hx]; show l ++ [p] ++ r = _; simp
    obtain ⟨⟨k, n, t, s, f⟩, hy, hp⟩ := at_part hx'
    have hk : (((l.length + (flat (.leaf p)).length : Nat) : Int) - 1) = ((l.length : Nat) : Int) := by show ((l.length + 1 : Nat) : Int) - 1 = _; omega
    rw [hk]
    obtain ⟨ht, hm⟩ := hw
    rcases may_leaf ht hm with ⟨n', t', e, h01⟩ | ⟨s', e, _⟩ | ⟨s', f', e, _⟩
    · have hk1 : k = 1 := by rw [e] at hp; exact congrArg Pt.kind hp
      have hn1 : n = n' := by rw [e] at hp; exact congrArg Pt.n hp
      have ht1 : t = t' := by rw [e] at hp; exact congrArg Pt.t hp
      subst hk1 hn1 ht1
      subst hp
      by_cases h1 : t = 1
      · subst h1
        rcases h01 rfl with rfl | rfl
        · exact row_eq (qs_bool0 v x w hL hlen _ s f hy inner) rfl
        · exact row_eq (qs_bool1 v x w hL hlen _ s f hy inner) rfl
      · refine row_eq (qs_num v x w hL hlen _ n t s f hy h1 inner) ?_
        show ((if t = 1 then [wordT (if n = 1 then truB else falB)] else [numT n t]) : List Tk).map tz = _
        rw [if_neg h1]; rfl
    · have hk1 : k = 2 := by rw [e] at hp; exact congrArg Pt.kind hp
      subst hk1
      subst hp
      refine row_eq (qs_var v x w hL hlen _ n t s f hy inner) ?_
      show [tz (wordT s.data.toList)] = _
      rw [tz_word]
    · have hk1 : k = 4 := by rw [e] at hp; exact congrArg Pt.kind hp
      subst hk1
      subst hp
      refine row_eq (qs_fld v x w hL hlen _ n t s f hy inner) ?_
      show [tz (wordT s.data.toList), sgT ⟨#[46]⟩, tz (wordT f.data.toList)] = _
      rw [tz_word, tz_word]
  | .one p e, hw, v, x, w, hL, hlen, l, r, hx, inner => by
    have hx1 : x.map ptV = l ++ flat e ++ (p :: r) := by rw [hx]; show l ++ (flat e ++ [p]) ++ r = _; simp
    obtain ⟨⟨k, n, t, s, f⟩, hy, hp⟩ := at_part (l := l ++ flat e) hx1
    have hl : (l ++ flat e).length = l.length + (flat e).length := List.length_append
    have hk : (((l.length + (flat (.one p e)).length : Nat) : Int) - 1) = (((l ++ flat e).length : Nat) : Int) := by
      show ((l.length + (flat e ++ [p]).length : Nat) : Int) - 1 = _
      rw [hl, List.length_append]; show ((l.length + ((flat e).length + 1) : Nat) : Int) - 1 = _; omega
    rw [hk]
    have hle : (flat e).length ≤ 500 := by
      have := congrArg List.length hx1
      simp at this
      omega
    have C : ∀ (b : Bool) (W : World), Below w.heap.size w W → Calls Tryz.prog 19 #[v, .int .i64 ((((l ++ flat e).length : Nat) : Int) - 1), .bool b] W (RowPost W ((showE e b).map tz)) := fun b W hW => by
      rw [hl]
      exact qshow_any e hw.2.2 v x W (hL.below hW (Nat.le_refl _)) hlen l (p :: r) hx1 b
    have hEl : ∀ b, ((showE e b).map tz).length ≤ 1500 := fun b => by
      rw [List.length_map]; have := show_len e b; omega
    rcases takes1 hw.1 with h | h | ⟨h, h'⟩
    · have hk1 : k = 3 := by rw [← hp] at h; exact h
      subst hk1
      subst hp
      refine row_eq (qs_idx v x w hL hlen _ n t s f hy _ (hEl false) (C false) inner) ?_
      show (wordT s.data.toList :: signT [91] :: (showE e false ++ [signT [93]])).map tz = _
      rw [List.map_cons, List.map_cons, List.map_append, tz_word]
      rfl
    · have hk1 : k = 6 := by rw [← hp] at h; exact h
      subst hk1
      have ht3 : t = 2 ∨ t = 3 ∨ t = 4 := by have := (may6 h hw.2.1).2; rw [← hp] at this; exact this
      subst hp
      have key : ∀ (E : List Tv) (q : Bs), E = (showE e false).map tz → (wordT q :: signT [40] :: (showE e false ++ [signT [41]])).map tz = [wdT ⟨q.toArray⟩, sgT ⟨#[40]⟩] ++ E ++ [sgT ⟨#[41]⟩] := fun E q hE => by
        rw [List.map_cons, List.map_cons, List.map_append, ← hE]; rfl
      rcases ht3 with rfl | rfl | rfl
      · exact row_eq (qs_to2 v x w hL hlen _ n s f hy _ (hEl false) (C false) inner) (key _ [84, 79, 95, 73, 78, 84] rfl)
      · exact row_eq (qs_to3 v x w hL hlen _ n s f hy _ (hEl false) (C false) inner) (key _ [84, 79, 95, 68, 73, 78, 84] rfl)
      · exact row_eq (qs_to4 v x w hL hlen _ n s f hy _ (hEl false) (C false) inner) (key _ [84, 79, 95, 84, 73, 77, 69] rfl)
    · have hk1 : k = 5 := by rw [← hp] at h; exact h
      subst hk1
      have hn := (may5 h hw.2.1).2
      have htk := hw.1
      subst hp
      have hn1 : 1 ≤ n := hn.1
      have hn2 : n ≤ 16 := hn.2
      have htk2 : takes ⟨5, [], [], n, t⟩ = 1 := htk
      cases inner with
      | true =>
        refine row_eq (qs_one_in v x w hL hlen _ n t s f hy hn1 hn2 htk2 _ (hEl true) (C true)) ?_
        show (signT [40] :: ((opTok n :: showE e true) ++ [signT [41]])).map tz = _
        rw [List.map_cons, List.map_append, List.map_cons, tz_op]
        simp [tz, signT, sgT]
      | false =>
        refine row_eq (qs_one_out v x w hL hlen _ n t s f hy hn1 hn2 htk2 _ (hEl true) (C true)) ?_
        show (opTok n :: showE e true).map tz = _
        rw [List.map_cons, tz_op]; rfl
  | .two p a c, hw, v, x, w, hL, hlen, l, r, hx, inner => by
    have hx1 : x.map ptV = (l ++ flat a ++ flat c) ++ (p :: r) := by rw [hx]; show l ++ (flat a ++ (flat c ++ [p])) ++ r = _; simp
    have hx2 : x.map ptV = (l ++ flat a) ++ flat c ++ (p :: r) := hx1
    have hx3 : x.map ptV = l ++ flat a ++ (flat c ++ p :: r) := by rw [hx1]; simp
    obtain ⟨⟨k, n, t, s, f⟩, hy, hp⟩ := at_part (l := l ++ flat a ++ flat c) hx1
    have hl1 : (l ++ flat a).length = l.length + (flat a).length := List.length_append
    have hl : (l ++ flat a ++ flat c).length = (l ++ flat a).length + (flat c).length := List.length_append
    have hk : (((l.length + (flat (.two p a c)).length : Nat) : Int) - 1) = (((l ++ flat a ++ flat c).length : Nat) : Int) := by
      show ((l.length + (flat a ++ (flat c ++ [p])).length : Nat) : Int) - 1 = _
      rw [hl, hl1, List.length_append, List.length_append]
      show ((l.length + ((flat a).length + ((flat c).length + 1)) : Nat) : Int) - 1 = _; omega
    rw [hk]
    have hxl : x.length = (l ++ flat a ++ flat c).length + (r.length + 1) := by
      have := congrArg List.length hx1
      rw [List.length_map, List.length_append, List.length_cons] at this
      exact this
    have hcp : 1 ≤ (flat c).length := by
      cases c with
      | leaf q => exact Nat.le_refl _
      | one q e => show 1 ≤ (flat e ++ [q]).length; simp
      | two q e e' => show 1 ≤ (flat e ++ (flat e' ++ [q])).length; simp; omega
    have C : ∀ (W : World), Below w.heap.size w W → Calls Tryz.prog 19 #[v, .int .i64 ((((l ++ flat a ++ flat c).length : Nat) : Int) - 1), .bool true] W (RowPost W ((showE c true).map tz)) := fun W hW => by
      rw [hl]
      exact qshow_any c hw.2.2.2 v x W (hL.below hW (Nat.le_refl _)) hlen (l ++ flat a) (p :: r) hx2 true
    have CA : ∀ (W : World), Below w.heap.size w W → Calls Tryz.prog 19 #[v, .int .i64 ((((l ++ flat a).length : Nat) : Int) - 1), .bool true] W (RowPost W ((showE a true).map tz)) := fun W hW => by
      rw [hl1]
      exact qshow_any a hw.2.2.1 v x W (hL.below hW (Nat.le_refl _)) hlen l _ hx3 true
    have CF : ∀ W, Below w.heap.size w W → Calls Tryz.prog 42 #[v, .int .i64 ((((l ++ flat a ++ flat c).length : Nat) : Int) - 1)] W fun e w' => e = .returned (.int .i64 (((l ++ flat a).length : Nat) : Int)) ∧ Below W.heap.size W w' := fun W hW => by
      have hi : ((((l ++ flat a ++ flat c).length : Nat) : Int) - 1) = (((l ++ flat a ++ flat c).length - 1 : Nat) : Int) := by omega
      rw [hi]
      refine qfrom_any v x W (hL.below hW (Nat.le_refl _)) hlen _ _ (by omega) ?_
      rw [show (l ++ flat a ++ flat c).length - 1 + 1 = (l ++ flat a ++ flat c).length from by omega, hx1, List.take_left, List.reverse_append, back_flat c hw.2.2.2 1 _ (by omega), if_pos rfl, List.length_reverse]
    have hEA : ((showE a true).map tz).length ≤ 1500 := by
      rw [List.length_map]; have := show_len a true; omega
    have hEB : ((showE c true).map tz).length ≤ 1500 := by
      rw [List.length_map]; have := show_len c true; omega
    obtain ⟨h, h'⟩ := takes2 hw.1
    have hk1 : k = 5 := by rw [← hp] at h; exact h
    subst hk1
    have hn := (may5 h hw.2.1).2
    have htk := hw.1
    subst hp
    have hn1 : 1 ≤ n := hn.1
    have hn2 : n ≤ 16 := hn.2
    have htk2 : takes ⟨5, [], [], n, t⟩ = 2 := htk
    cases inner with
    | true =>
      refine row_eq (qs_two_in v x w hL hlen _ n t s f hy hn1 hn2 htk2 _ hEB _ hEA _ (by omega) CF CA C) ?_
      show (signT [40] :: ((showE a true ++ opTok n :: showE c true) ++ [signT [41]])).map tz = _
      rw [List.map_cons, List.map_append, List.map_append, List.map_cons, tz_op]
      simp [tz, signT, sgT]
    | false =>
      refine row_eq (qs_two_out v x w hL hlen _ n t s f hy hn1 hn2 htk2 _ hEB _ hEA _ (by omega) CF CA C) ?_
      show (showE a true ++ opTok n :: showE c true).map tz = _
      rw [List.map_append, List.map_cons, tz_op]
      simp
/-- what the document's Tokens answers -/
def DTokPost (w : World) (x : List Pv) (e : Ending) (w' : World) : Prop :=
  (∃ v ex, e = .returned (.tuple #[v, .int .i64 0]) ∧ well ex ∧ flat ex = x.map ptV ∧ Lst w' v ((showE ex false).map tz) ∧ Below w.heap.size w w')
end Go.Proofs.YtkicbmjjbnblfaaGreatDoor
