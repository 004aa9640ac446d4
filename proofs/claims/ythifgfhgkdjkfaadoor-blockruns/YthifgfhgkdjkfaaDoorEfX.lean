/- The document's Step: triggers and latches. -/
import Derived.Test.YthifgfhgkdjkfaaDoorMg23
namespace Go.Proofs.YthifgfhgkdjkfaaDoor
open Go.RowKit
set_option maxRecDepth 100000 in
set_option maxHeartbeats 3200000 in
theorem rstep_8 (cv : Value) (a b d : Bool) (now : Int) (w : World) (hL : ILst w cv [flagN a, flagN b, flagN d]) (hc : chkE 8 [flagN a, flagN b, flagN d] = 0) (hn : nowOk now = true) : Calls Tryd.prog 11 #[.int .i64 8, cv, .int .i64 now] w fun e w' => ∃ g cap, e = .returned (.tuple #[.slice (some ⟨g, 0, none⟩) 3 cap, .int .i64 0]) ∧ Rw w' g (srT ⟨a, b, d⟩).ls ∧ w.heap.size ≤ g ∧ 3 ≤ cap ∧ Below w.heap.size w w' := by
  have m1 := rcheck_any 8 _ _ w hL
  rw [hc] at m1
  have hnn : ¬ now < 0 := by unfold nowOk at hn; simp at hn; omega
  have mF := fun W => fitsR_any 4 now W
  rw [now_fit hn] at mF
  have HN := hide hn
  have HL := hide hL
  obtain ⟨ca, cb, coff, ccap, hcv, -, -⟩ := hL
  change cv = .slice ca 3 ccap at hcv
  subst hcv
  have mf := flag12
  clear hn hc
  cases a <;> cases b <;> cases d
  · have LEN : ([0, 0, 0] : List Int).length = 3 := rfl
    go_enter Tryd.func11, Tryd.ntmps11
    go_wp2_with (first | (go_at_call 23; refine m1.mono ?_; rintro e w1 ⟨rfl, b1⟩; have B1 := hide b1; clear b1) | (go_at_call 24; refine (mF _).mono ?_; rintro e w2_ ⟨rfl, rfl⟩) | (at_builtin; refine wpList_append_nums (by rfl) _ _ (by rfl) w.heap.size 0 _ _ (by rfl) (own_none2 _ _ B1.out.size) _ [0, 0, 0] (by rfl) (HL.out.on (blw_alloc B1.out _)) (by rw [LEN]; omega) (Nat.le_trans B1.out.size (by simp)) ?_; intro v' w2 hown hgr; have HB2 := hide (below_app2 (blw_alloc B1.out (.cells #[] 2)) (Nat.le_trans B1.out.size (by simp)) (own_none2 _ _ B1.out.size) hgr); have hw2 : ∃ g cap, v' = .slice (some ⟨g, 0, none⟩) 3 cap ∧ w.heap.size ≤ g ∧ 3 ≤ cap ∧ Rw w2 g [0, 0, 0] := (Rw.of_owns (n := 3) (l := [0, 0, 0]) (by rw [LEN] at hown; exact hown) (by decide) LEN.symm); obtain ⟨g, cap, rfl, hg2, hc2, hrw⟩ := hw2; have HG2 := hide hg2; have HR := hide hrw; have HC2 := hide hc2; clear hown hgr hg2 hrw hc2; have c0 := HR.out.cell 0 (x := 0) rfl; have c1 := HR.out.cell 1 (x := 0) rfl; have c2 := HR.out.cell 2 (x := 0) rfl; have f1 := HR.out.fr 1; have f2 := HR.out.fr 2) | (go_at_call 27; refine (mf _ _).mono ?_; rintro e w3_ ⟨rfl, rfl⟩))
    go_ret2
    refine ⟨g, cap, rfl, ?_, HG2.out, HC2.out, ?_⟩
    · (repeat (first | exact HR.out | apply Rw.set)) <;> rfl
    · repeat (first | exact HB2.out | refine Below.setCell ?_ HG2.out _)
  · have LEN : ([0, 0, 1] : List Int).length = 3 := rfl
    go_enter Tryd.func11, Tryd.ntmps11
    go_wp2_with (first | (go_at_call 23; refine m1.mono ?_; rintro e w1 ⟨rfl, b1⟩; have B1 := hide b1; clear b1) | (go_at_call 24; refine (mF _).mono ?_; rintro e w2_ ⟨rfl, rfl⟩) | (at_builtin; refine wpList_append_nums (by rfl) _ _ (by rfl) w.heap.size 0 _ _ (by rfl) (own_none2 _ _ B1.out.size) _ [0, 0, 1] (by rfl) (HL.out.on (blw_alloc B1.out _)) (by rw [LEN]; omega) (Nat.le_trans B1.out.size (by simp)) ?_; intro v' w2 hown hgr; have HB2 := hide (below_app2 (blw_alloc B1.out (.cells #[] 2)) (Nat.le_trans B1.out.size (by simp)) (own_none2 _ _ B1.out.size) hgr); have hw2 : ∃ g cap, v' = .slice (some ⟨g, 0, none⟩) 3 cap ∧ w.heap.size ≤ g ∧ 3 ≤ cap ∧ Rw w2 g [0, 0, 1] := (Rw.of_owns (n := 3) (l := [0, 0, 1]) (by rw [LEN] at hown; exact hown) (by decide) LEN.symm); obtain ⟨g, cap, rfl, hg2, hc2, hrw⟩ := hw2; have HG2 := hide hg2; have HR := hide hrw; have HC2 := hide hc2; clear hown hgr hg2 hrw hc2; have c0 := HR.out.cell 0 (x := 0) rfl; have c1 := HR.out.cell 1 (x := 0) rfl; have c2 := HR.out.cell 2 (x := 1) rfl; have f1 := HR.out.fr 1; have f2 := HR.out.fr 2) | (go_at_call 27; refine (mf _ _).mono ?_; rintro e w3_ ⟨rfl, rfl⟩))
    go_ret2
    refine ⟨g, cap, rfl, ?_, HG2.out, HC2.out, ?_⟩
    · (repeat (first | exact HR.out | apply Rw.set)) <;> rfl
    · repeat (first | exact HB2.out | refine Below.setCell ?_ HG2.out _)
  · have LEN : ([0, 1, 0] : List Int).length = 3 := rfl
    go_enter Tryd.func11, Tryd.ntmps11
    go_wp2_with (first | (go_at_call 23; refine m1.mono ?_; rintro e w1 ⟨rfl, b1⟩; have B1 := hide b1; clear b1) | (go_at_call 24; refine (mF _).mono ?_; rintro e w2_ ⟨rfl, rfl⟩) | (at_builtin; refine wpList_append_nums (by rfl) _ _ (by rfl) w.heap.size 0 _ _ (by rfl) (own_none2 _ _ B1.out.size) _ [0, 1, 0] (by rfl) (HL.out.on (blw_alloc B1.out _)) (by rw [LEN]; omega) (Nat.le_trans B1.out.size (by simp)) ?_; intro v' w2 hown hgr; have HB2 := hide (below_app2 (blw_alloc B1.out (.cells #[] 2)) (Nat.le_trans B1.out.size (by simp)) (own_none2 _ _ B1.out.size) hgr); have hw2 : ∃ g cap, v' = .slice (some ⟨g, 0, none⟩) 3 cap ∧ w.heap.size ≤ g ∧ 3 ≤ cap ∧ Rw w2 g [0, 1, 0] := (Rw.of_owns (n := 3) (l := [0, 1, 0]) (by rw [LEN] at hown; exact hown) (by decide) LEN.symm); obtain ⟨g, cap, rfl, hg2, hc2, hrw⟩ := hw2; have HG2 := hide hg2; have HR := hide hrw; have HC2 := hide hc2; clear hown hgr hg2 hrw hc2; have c0 := HR.out.cell 0 (x := 0) rfl; have c1 := HR.out.cell 1 (x := 1) rfl; have c2 := HR.out.cell 2 (x := 0) rfl; have f1 := HR.out.fr 1; have f2 := HR.out.fr 2) | (go_at_call 27; refine (mf _ _).mono ?_; rintro e w3_ ⟨rfl, rfl⟩))
    go_ret2
    refine ⟨g, cap, rfl, ?_, HG2.out, HC2.out, ?_⟩
    · (repeat (first | exact HR.out | apply Rw.set)) <;> rfl
    · repeat (first | exact HB2.out | refine Below.setCell ?_ HG2.out _)
  · have LEN : ([0, 1, 1] : List Int).length = 3 := rfl
    go_enter Tryd.func11, Tryd.ntmps11
    go_wp2_with (first | (go_at_call 23; refine m1.mono ?_; rintro e w1 ⟨rfl, b1⟩; have B1 := hide b1; clear b1) | (go_at_call 24; refine (mF _).mono ?_; rintro e w2_ ⟨rfl, rfl⟩) | (at_builtin; refine wpList_append_nums (by rfl) _ _ (by rfl) w.heap.size 0 _ _ (by rfl) (own_none2 _ _ B1.out.size) _ [0, 1, 1] (by rfl) (HL.out.on (blw_alloc B1.out _)) (by rw [LEN]; omega) (Nat.le_trans B1.out.size (by simp)) ?_; intro v' w2 hown hgr; have HB2 := hide (below_app2 (blw_alloc B1.out (.cells #[] 2)) (Nat.le_trans B1.out.size (by simp)) (own_none2 _ _ B1.out.size) hgr); have hw2 : ∃ g cap, v' = .slice (some ⟨g, 0, none⟩) 3 cap ∧ w.heap.size ≤ g ∧ 3 ≤ cap ∧ Rw w2 g [0, 1, 1] := (Rw.of_owns (n := 3) (l := [0, 1, 1]) (by rw [LEN] at hown; exact hown) (by decide) LEN.symm); obtain ⟨g, cap, rfl, hg2, hc2, hrw⟩ := hw2; have HG2 := hide hg2; have HR := hide hrw; have HC2 := hide hc2; clear hown hgr hg2 hrw hc2; have c0 := HR.out.cell 0 (x := 0) rfl; have c1 := HR.out.cell 1 (x := 1) rfl; have c2 := HR.out.cell 2 (x := 1) rfl; have f1 := HR.out.fr 1; have f2 := HR.out.fr 2) | (go_at_call 27; refine (mf _ _).mono ?_; rintro e w3_ ⟨rfl, rfl⟩))
    go_ret2
    refine ⟨g, cap, rfl, ?_, HG2.out, HC2.out, ?_⟩
    · (repeat (first | exact HR.out | apply Rw.set)) <;> rfl
    · repeat (first | exact HB2.out | refine Below.setCell ?_ HG2.out _)
  · have LEN : ([1, 0, 0] : List Int).length = 3 := rfl
    go_enter Tryd.func11, Tryd.ntmps11
    go_wp2_with (first | (go_at_call 23; refine m1.mono ?_; rintro e w1 ⟨rfl, b1⟩; have B1 := hide b1; clear b1) | (go_at_call 24; refine (mF _).mono ?_; rintro e w2_ ⟨rfl, rfl⟩) | (at_builtin; refine wpList_append_nums (by rfl) _ _ (by rfl) w.heap.size 0 _ _ (by rfl) (own_none2 _ _ B1.out.size) _ [1, 0, 0] (by rfl) (HL.out.on (blw_alloc B1.out _)) (by rw [LEN]; omega) (Nat.le_trans B1.out.size (by simp)) ?_; intro v' w2 hown hgr; have HB2 := hide (below_app2 (blw_alloc B1.out (.cells #[] 2)) (Nat.le_trans B1.out.size (by simp)) (own_none2 _ _ B1.out.size) hgr); have hw2 : ∃ g cap, v' = .slice (some ⟨g, 0, none⟩) 3 cap ∧ w.heap.size ≤ g ∧ 3 ≤ cap ∧ Rw w2 g [1, 0, 0] := (Rw.of_owns (n := 3) (l := [1, 0, 0]) (by rw [LEN] at hown; exact hown) (by decide) LEN.symm); obtain ⟨g, cap, rfl, hg2, hc2, hrw⟩ := hw2; have HG2 := hide hg2; have HR := hide hrw; have HC2 := hide hc2; clear hown hgr hg2 hrw hc2; have c0 := HR.out.cell 0 (x := 1) rfl; have c1 := HR.out.cell 1 (x := 0) rfl; have c2 := HR.out.cell 2 (x := 0) rfl; have f1 := HR.out.fr 1; have f2 := HR.out.fr 2) | (go_at_call 27; refine (mf _ _).mono ?_; rintro e w3_ ⟨rfl, rfl⟩))
    go_ret2
    refine ⟨g, cap, rfl, ?_, HG2.out, HC2.out, ?_⟩
    · (repeat (first | exact HR.out | apply Rw.set)) <;> rfl
    · repeat (first | exact HB2.out | refine Below.setCell ?_ HG2.out _)
  · have LEN : ([1, 0, 1] : List Int).length = 3 := rfl
    go_enter Tryd.func11, Tryd.ntmps11
    go_wp2_with (first | (go_at_call 23; refine m1.mono ?_; rintro e w1 ⟨rfl, b1⟩; have B1 := hide b1; clear b1) | (go_at_call 24; refine (mF _).mono ?_; rintro e w2_ ⟨rfl, rfl⟩) | (at_builtin; refine wpList_append_nums (by rfl) _ _ (by rfl) w.heap.size 0 _ _ (by rfl) (own_none2 _ _ B1.out.size) _ [1, 0, 1] (by rfl) (HL.out.on (blw_alloc B1.out _)) (by rw [LEN]; omega) (Nat.le_trans B1.out.size (by simp)) ?_; intro v' w2 hown hgr; have HB2 := hide (below_app2 (blw_alloc B1.out (.cells #[] 2)) (Nat.le_trans B1.out.size (by simp)) (own_none2 _ _ B1.out.size) hgr); have hw2 : ∃ g cap, v' = .slice (some ⟨g, 0, none⟩) 3 cap ∧ w.heap.size ≤ g ∧ 3 ≤ cap ∧ Rw w2 g [1, 0, 1] := (Rw.of_owns (n := 3) (l := [1, 0, 1]) (by rw [LEN] at hown; exact hown) (by decide) LEN.symm); obtain ⟨g, cap, rfl, hg2, hc2, hrw⟩ := hw2; have HG2 := hide hg2; have HR := hide hrw; have HC2 := hide hc2; clear hown hgr hg2 hrw hc2; have c0 := HR.out.cell 0 (x := 1) rfl; have c1 := HR.out.cell 1 (x := 0) rfl; have c2 := HR.out.cell 2 (x := 1) rfl; have f1 := HR.out.fr 1; have f2 := HR.out.fr 2) | (go_at_call 27; refine (mf _ _).mono ?_; rintro e w3_ ⟨rfl, rfl⟩))
    go_ret2
    refine ⟨g, cap, rfl, ?_, HG2.out, HC2.out, ?_⟩
    · (repeat (first | exact HR.out | apply Rw.set)) <;> rfl
    · repeat (first | exact HB2.out | refine Below.setCell ?_ HG2.out _)
  · have LEN : ([1, 1, 0] : List Int).length = 3 := rfl
    go_enter Tryd.func11, Tryd.ntmps11
    go_wp2_with (first | (go_at_call 23; refine m1.mono ?_; rintro e w1 ⟨rfl, b1⟩; have B1 := hide b1; clear b1) | (go_at_call 24; refine (mF _).mono ?_; rintro e w2_ ⟨rfl, rfl⟩) | (at_builtin; refine wpList_append_nums (by rfl) _ _ (by rfl) w.heap.size 0 _ _ (by rfl) (own_none2 _ _ B1.out.size) _ [1, 1, 0] (by rfl) (HL.out.on (blw_alloc B1.out _)) (by rw [LEN]; omega) (Nat.le_trans B1.out.size (by simp)) ?_; intro v' w2 hown hgr; have HB2 := hide (below_app2 (blw_alloc B1.out (.cells #[] 2)) (Nat.le_trans B1.out.size (by simp)) (own_none2 _ _ B1.out.size) hgr); have hw2 : ∃ g cap, v' = .slice (some ⟨g, 0, none⟩) 3 cap ∧ w.heap.size ≤ g ∧ 3 ≤ cap ∧ Rw w2 g [1, 1, 0] := (Rw.of_owns (n := 3) (l := [1, 1, 0]) (by rw [LEN] at hown; exact hown) (by decide) LEN.symm); obtain ⟨g, cap, rfl, hg2, hc2, hrw⟩ := hw2; have HG2 := hide hg2; have HR := hide hrw; have HC2 := hide hc2; clear hown hgr hg2 hrw hc2; have c0 := HR.out.cell 0 (x := 1) rfl; have c1 := HR.out.cell 1 (x := 1) rfl; have c2 := HR.out.cell 2 (x := 0) rfl; have f1 := HR.out.fr 1; have f2 := HR.out.fr 2) | (go_at_call 27; refine (mf _ _).mono ?_; rintro e w3_ ⟨rfl, rfl⟩))
    go_ret2
    refine ⟨g, cap, rfl, ?_, HG2.out, HC2.out, ?_⟩
    · (repeat (first | exact HR.out | apply Rw.set)) <;> rfl
    · repeat (first | exact HB2.out | refine Below.setCell ?_ HG2.out _)
  · have LEN : ([1, 1, 1] : List Int).length = 3 := rfl
    go_enter Tryd.func11, Tryd.ntmps11
    go_wp2_with (first | (go_at_call 23; refine m1.mono ?_; rintro e w1 ⟨rfl, b1⟩; have B1 := hide b1; clear b1) | (go_at_call 24; refine (mF _).mono ?_; rintro e w2_ ⟨rfl, rfl⟩) | (at_builtin; refine wpList_append_nums (by rfl) _ _ (by rfl) w.heap.size 0 _ _ (by rfl) (own_none2 _ _ B1.out.size) _ [1, 1, 1] (by rfl) (HL.out.on (blw_alloc B1.out _)) (by rw [LEN]; omega) (Nat.le_trans B1.out.size (by simp)) ?_; intro v' w2 hown hgr; have HB2 := hide (below_app2 (blw_alloc B1.out (.cells #[] 2)) (Nat.le_trans B1.out.size (by simp)) (own_none2 _ _ B1.out.size) hgr); have hw2 : ∃ g cap, v' = .slice (some ⟨g, 0, none⟩) 3 cap ∧ w.heap.size ≤ g ∧ 3 ≤ cap ∧ Rw w2 g [1, 1, 1] := (Rw.of_owns (n := 3) (l := [1, 1, 1]) (by rw [LEN] at hown; exact hown) (by decide) LEN.symm); obtain ⟨g, cap, rfl, hg2, hc2, hrw⟩ := hw2; have HG2 := hide hg2; have HR := hide hrw; have HC2 := hide hc2; clear hown hgr hg2 hrw hc2; have c0 := HR.out.cell 0 (x := 1) rfl; have c1 := HR.out.cell 1 (x := 1) rfl; have c2 := HR.out.cell 2 (x := 1) rfl; have f1 := HR.out.fr 1; have f2 := HR.out.fr 2) | (go_at_call 27; refine (mf _ _).mono ?_; rintro e w3_ ⟨rfl, rfl⟩))
    go_ret2
    refine ⟨g, cap, rfl, ?_, HG2.out, HC2.out, ?_⟩
    · (repeat (first | exact HR.out | apply Rw.set)) <;> rfl
    · repeat (first | exact HB2.out | refine Below.setCell ?_ HG2.out _)
set_option maxRecDepth 100000 in
set_option maxHeartbeats 3200000 in
theorem rstep_9 (cv : Value) (a b d : Bool) (now : Int) (w : World) (hL : ILst w cv [flagN a, flagN b, flagN d]) (hc : chkE 9 [flagN a, flagN b, flagN d] = 0) (hn : nowOk now = true) : Calls Tryd.prog 11 #[.int .i64 9, cv, .int .i64 now] w fun e w' => ∃ g cap, e = .returned (.tuple #[.slice (some ⟨g, 0, none⟩) 3 cap, .int .i64 0]) ∧ Rw w' g (rsT ⟨a, b, d⟩).ls ∧ w.heap.size ≤ g ∧ 3 ≤ cap ∧ Below w.heap.size w w' := by
  have m1 := rcheck_any 9 _ _ w hL
  rw [hc] at m1
  have hnn : ¬ now < 0 := by unfold nowOk at hn; simp at hn; omega
  have mF := fun W => fitsR_any 4 now W
  rw [now_fit hn] at mF
  have HN := hide hn
  have HL := hide hL
  obtain ⟨ca, cb, coff, ccap, hcv, -, -⟩ := hL
  change cv = .slice ca 3 ccap at hcv
  subst hcv
  have mf := flag12
  clear hn hc
  cases a <;> cases b <;> cases d
  · have LEN : ([0, 0, 0] : List Int).length = 3 := rfl
    go_enter Tryd.func11, Tryd.ntmps11
    go_wp2_with (first | (go_at_call 23; refine m1.mono ?_; rintro e w1 ⟨rfl, b1⟩; have B1 := hide b1; clear b1) | (go_at_call 24; refine (mF _).mono ?_; rintro e w2_ ⟨rfl, rfl⟩) | (at_builtin; refine wpList_append_nums (by rfl) _ _ (by rfl) w.heap.size 0 _ _ (by rfl) (own_none2 _ _ B1.out.size) _ [0, 0, 0] (by rfl) (HL.out.on (blw_alloc B1.out _)) (by rw [LEN]; omega) (Nat.le_trans B1.out.size (by simp)) ?_; intro v' w2 hown hgr; have HB2 := hide (below_app2 (blw_alloc B1.out (.cells #[] 2)) (Nat.le_trans B1.out.size (by simp)) (own_none2 _ _ B1.out.size) hgr); have hw2 : ∃ g cap, v' = .slice (some ⟨g, 0, none⟩) 3 cap ∧ w.heap.size ≤ g ∧ 3 ≤ cap ∧ Rw w2 g [0, 0, 0] := (Rw.of_owns (n := 3) (l := [0, 0, 0]) (by rw [LEN] at hown; exact hown) (by decide) LEN.symm); obtain ⟨g, cap, rfl, hg2, hc2, hrw⟩ := hw2; have HG2 := hide hg2; have HR := hide hrw; have HC2 := hide hc2; clear hown hgr hg2 hrw hc2; have c0 := HR.out.cell 0 (x := 0) rfl; have c1 := HR.out.cell 1 (x := 0) rfl; have c2 := HR.out.cell 2 (x := 0) rfl; have f1 := HR.out.fr 1; have f2 := HR.out.fr 2) | (go_at_call 27; refine (mf _ _).mono ?_; rintro e w3_ ⟨rfl, rfl⟩))
    go_ret2
    refine ⟨g, cap, rfl, ?_, HG2.out, HC2.out, ?_⟩
    · (repeat (first | exact HR.out | apply Rw.set)) <;> rfl
    · repeat (first | exact HB2.out | refine Below.setCell ?_ HG2.out _)
  · have LEN : ([0, 0, 1] : List Int).length = 3 := rfl
    go_enter Tryd.func11, Tryd.ntmps11
    go_wp2_with (first | (go_at_call 23; refine m1.mono ?_; rintro e w1 ⟨rfl, b1⟩; have B1 := hide b1; clear b1) | (go_at_call 24; refine (mF _).mono ?_; rintro e w2_ ⟨rfl, rfl⟩) | (at_builtin; refine wpList_append_nums (by rfl) _ _ (by rfl) w.heap.size 0 _ _ (by rfl) (own_none2 _ _ B1.out.size) _ [0, 0, 1] (by rfl) (HL.out.on (blw_alloc B1.out _)) (by rw [LEN]; omega) (Nat.le_trans B1.out.size (by simp)) ?_; intro v' w2 hown hgr; have HB2 := hide (below_app2 (blw_alloc B1.out (.cells #[] 2)) (Nat.le_trans B1.out.size (by simp)) (own_none2 _ _ B1.out.size) hgr); have hw2 : ∃ g cap, v' = .slice (some ⟨g, 0, none⟩) 3 cap ∧ w.heap.size ≤ g ∧ 3 ≤ cap ∧ Rw w2 g [0, 0, 1] := (Rw.of_owns (n := 3) (l := [0, 0, 1]) (by rw [LEN] at hown; exact hown) (by decide) LEN.symm); obtain ⟨g, cap, rfl, hg2, hc2, hrw⟩ := hw2; have HG2 := hide hg2; have HR := hide hrw; have HC2 := hide hc2; clear hown hgr hg2 hrw hc2; have c0 := HR.out.cell 0 (x := 0) rfl; have c1 := HR.out.cell 1 (x := 0) rfl; have c2 := HR.out.cell 2 (x := 1) rfl; have f1 := HR.out.fr 1; have f2 := HR.out.fr 2) | (go_at_call 27; refine (mf _ _).mono ?_; rintro e w3_ ⟨rfl, rfl⟩))
    go_ret2
    refine ⟨g, cap, rfl, ?_, HG2.out, HC2.out, ?_⟩
    · (repeat (first | exact HR.out | apply Rw.set)) <;> rfl
    · repeat (first | exact HB2.out | refine Below.setCell ?_ HG2.out _)
  · have LEN : ([0, 1, 0] : List Int).length = 3 := rfl
    go_enter Tryd.func11, Tryd.ntmps11
    go_wp2_with (first | (go_at_call 23; refine m1.mono ?_; rintro e w1 ⟨rfl, b1⟩; have B1 := hide b1; clear b1) | (go_at_call 24; refine (mF _).mono ?_; rintro e w2_ ⟨rfl, rfl⟩) | (at_builtin; refine wpList_append_nums (by rfl) _ _ (by rfl) w.heap.size 0 _ _ (by rfl) (own_none2 _ _ B1.out.size) _ [0, 1, 0] (by rfl) (HL.out.on (blw_alloc B1.out _)) (by rw [LEN]; omega) (Nat.le_trans B1.out.size (by simp)) ?_; intro v' w2 hown hgr; have HB2 := hide (below_app2 (blw_alloc B1.out (.cells #[] 2)) (Nat.le_trans B1.out.size (by simp)) (own_none2 _ _ B1.out.size) hgr); have hw2 : ∃ g cap, v' = .slice (some ⟨g, 0, none⟩) 3 cap ∧ w.heap.size ≤ g ∧ 3 ≤ cap ∧ Rw w2 g [0, 1, 0] := (Rw.of_owns (n := 3) (l := [0, 1, 0]) (by rw [LEN] at hown; exact hown) (by decide) LEN.symm); obtain ⟨g, cap, rfl, hg2, hc2, hrw⟩ := hw2; have HG2 := hide hg2; have HR := hide hrw; have HC2 := hide hc2; clear hown hgr hg2 hrw hc2; have c0 := HR.out.cell 0 (x := 0) rfl; have c1 := HR.out.cell 1 (x := 1) rfl; have c2 := HR.out.cell 2 (x := 0) rfl; have f1 := HR.out.fr 1; have f2 := HR.out.fr 2) | (go_at_call 27; refine (mf _ _).mono ?_; rintro e w3_ ⟨rfl, rfl⟩))
    go_ret2
    refine ⟨g, cap, rfl, ?_, HG2.out, HC2.out, ?_⟩
    · (repeat (first | exact HR.out | apply Rw.set)) <;> rfl
    · repeat (first | exact HB2.out | refine Below.setCell ?_ HG2.out _)
  · have LEN : ([0, 1, 1] : List Int).length = 3 := rfl
    go_enter Tryd.func11, Tryd.ntmps11
    go_wp2_with (first | (go_at_call 23; refine m1.mono ?_; rintro e w1 ⟨rfl, b1⟩; have B1 := hide b1; clear b1) | (go_at_call 24; refine (mF _).mono ?_; rintro e w2_ ⟨rfl, rfl⟩) | (at_builtin; refine wpList_append_nums (by rfl) _ _ (by rfl) w.heap.size 0 _ _ (by rfl) (own_none2 _ _ B1.out.size) _ [0, 1, 1] (by rfl) (HL.out.on (blw_alloc B1.out _)) (by rw [LEN]; omega) (Nat.le_trans B1.out.size (by simp)) ?_; intro v' w2 hown hgr; have HB2 := hide (below_app2 (blw_alloc B1.out (.cells #[] 2)) (Nat.le_trans B1.out.size (by simp)) (own_none2 _ _ B1.out.size) hgr); have hw2 : ∃ g cap, v' = .slice (some ⟨g, 0, none⟩) 3 cap ∧ w.heap.size ≤ g ∧ 3 ≤ cap ∧ Rw w2 g [0, 1, 1] := (Rw.of_owns (n := 3) (l := [0, 1, 1]) (by rw [LEN] at hown; exact hown) (by decide) LEN.symm); obtain ⟨g, cap, rfl, hg2, hc2, hrw⟩ := hw2; have HG2 := hide hg2; have HR := hide hrw; have HC2 := hide hc2; clear hown hgr hg2 hrw hc2; have c0 := HR.out.cell 0 (x := 0) rfl; have c1 := HR.out.cell 1 (x := 1) rfl; have c2 := HR.out.cell 2 (x := 1) rfl; have f1 := HR.out.fr 1; have f2 := HR.out.fr 2) | (go_at_call 27; refine (mf _ _).mono ?_; rintro e w3_ ⟨rfl, rfl⟩))
    go_ret2
    refine ⟨g, cap, rfl, ?_, HG2.out, HC2.out, ?_⟩
    · (repeat (first | exact HR.out | apply Rw.set)) <;> rfl
    · repeat (first | exact HB2.out | refine Below.setCell ?_ HG2.out _)
  · have LEN : ([1, 0, 0] : List Int).length = 3 := rfl
    go_enter Tryd.func11, Tryd.ntmps11
    go_wp2_with (first | (go_at_call 23; refine m1.mono ?_; rintro e w1 ⟨rfl, b1⟩; have B1 := hide b1; clear b1) | (go_at_call 24; refine (mF _).mono ?_; rintro e w2_ ⟨rfl, rfl⟩) | (at_builtin; refine wpList_append_nums (by rfl) _ _ (by rfl) w.heap.size 0 _ _ (by rfl) (own_none2 _ _ B1.out.size) _ [1, 0, 0] (by rfl) (HL.out.on (blw_alloc B1.out _)) (by rw [LEN]; omega) (Nat.le_trans B1.out.size (by simp)) ?_; intro v' w2 hown hgr; have HB2 := hide (below_app2 (blw_alloc B1.out (.cells #[] 2)) (Nat.le_trans B1.out.size (by simp)) (own_none2 _ _ B1.out.size) hgr); have hw2 : ∃ g cap, v' = .slice (some ⟨g, 0, none⟩) 3 cap ∧ w.heap.size ≤ g ∧ 3 ≤ cap ∧ Rw w2 g [1, 0, 0] := (Rw.of_owns (n := 3) (l := [1, 0, 0]) (by rw [LEN] at hown; exact hown) (by decide) LEN.symm); obtain ⟨g, cap, rfl, hg2, hc2, hrw⟩ := hw2; have HG2 := hide hg2; have HR := hide hrw; have HC2 := hide hc2; clear hown hgr hg2 hrw hc2; have c0 := HR.out.cell 0 (x := 1) rfl; have c1 := HR.out.cell 1 (x := 0) rfl; have c2 := HR.out.cell 2 (x := 0) rfl; have f1 := HR.out.fr 1; have f2 := HR.out.fr 2) | (go_at_call 27; refine (mf _ _).mono ?_; rintro e w3_ ⟨rfl, rfl⟩))
    go_ret2
    refine ⟨g, cap, rfl, ?_, HG2.out, HC2.out, ?_⟩
    · (repeat (first | exact HR.out | apply Rw.set)) <;> rfl
    · repeat (first | exact HB2.out | refine Below.setCell ?_ HG2.out _)
  · have LEN : ([1, 0, 1] : List Int).length = 3 := rfl
    go_enter Tryd.func11, Tryd.ntmps11
    go_wp2_with (first | (go_at_call 23; refine m1.mono ?_; rintro e w1 ⟨rfl, b1⟩; have B1 := hide b1; clear b1) | (go_at_call 24; refine (mF _).mono ?_; rintro e w2_ ⟨rfl, rfl⟩) | (at_builtin; refine wpList_append_nums (by rfl) _ _ (by rfl) w.heap.size 0 _ _ (by rfl) (own_none2 _ _ B1.out.size) _ [1, 0, 1] (by rfl) (HL.out.on (blw_alloc B1.out _)) (by rw [LEN]; omega) (Nat.le_trans B1.out.size (by simp)) ?_; intro v' w2 hown hgr; have HB2 := hide (below_app2 (blw_alloc B1.out (.cells #[] 2)) (Nat.le_trans B1.out.size (by simp)) (own_none2 _ _ B1.out.size) hgr); have hw2 : ∃ g cap, v' = .slice (some ⟨g, 0, none⟩) 3 cap ∧ w.heap.size ≤ g ∧ 3 ≤ cap ∧ Rw w2 g [1, 0, 1] := (Rw.of_owns (n := 3) (l := [1, 0, 1]) (by rw [LEN] at hown; exact hown) (by decide) LEN.symm); obtain ⟨g, cap, rfl, hg2, hc2, hrw⟩ := hw2; have HG2 := hide hg2; have HR := hide hrw; have HC2 := hide hc2; clear hown hgr hg2 hrw hc2; have c0 := HR.out.cell 0 (x := 1) rfl; have c1 := HR.out.cell 1 (x := 0) rfl; have c2 := HR.out.cell 2 (x := 1) rfl; have f1 := HR.out.fr 1; have f2 := HR.out.fr 2) | (go_at_call 27; refine (mf _ _).mono ?_; rintro e w3_ ⟨rfl, rfl⟩))
    go_ret2
    refine ⟨g, cap, rfl, ?_, HG2.out, HC2.out, ?_⟩
    · (repeat (first | exact HR.out | apply Rw.set)) <;> rfl
    · repeat (first | exact HB2.out | refine Below.setCell ?_ HG2.out _)
  · have LEN : ([1, 1, 0] : List Int).length = 3 := rfl
    go_enter Tryd.func11, Tryd.ntmps11
    go_wp2_with (first | (go_at_call 23; refine m1.mono ?_; rintro e w1 ⟨rfl, b1⟩; have B1 := hide b1; clear b1) | (go_at_call 24; refine (mF _).mono ?_; rintro e w2_ ⟨rfl, rfl⟩) | (at_builtin; refine wpList_append_nums (by rfl) _ _ (by rfl) w.heap.size 0 _ _ (by rfl) (own_none2 _ _ B1.out.size) _ [1, 1, 0] (by rfl) (HL.out.on (blw_alloc B1.out _)) (by rw [LEN]; omega) (Nat.le_trans B1.out.size (by simp)) ?_; intro v' w2 hown hgr; have HB2 := hide (below_app2 (blw_alloc B1.out (.cells #[] 2)) (Nat.le_trans B1.out.size (by simp)) (own_none2 _ _ B1.out.size) hgr); have hw2 : ∃ g cap, v' = .slice (some ⟨g, 0, none⟩) 3 cap ∧ w.heap.size ≤ g ∧ 3 ≤ cap ∧ Rw w2 g [1, 1, 0] := (Rw.of_owns (n := 3) (l := [1, 1, 0]) (by rw [LEN] at hown; exact hown) (by decide) LEN.symm); obtain ⟨g, cap, rfl, hg2, hc2, hrw⟩ := hw2; have HG2 := hide hg2; have HR := hide hrw; have HC2 := hide hc2; clear hown hgr hg2 hrw hc2; have c0 := HR.out.cell 0 (x := 1) rfl; have c1 := HR.out.cell 1 (x := 1) rfl; have c2 := HR.out.cell 2 (x := 0) rfl; have f1 := HR.out.fr 1; have f2 := HR.out.fr 2) | (go_at_call 27; refine (mf _ _).mono ?_; rintro e w3_ ⟨rfl, rfl⟩))
    go_ret2
    refine ⟨g, cap, rfl, ?_, HG2.out, HC2.out, ?_⟩
    · (repeat (first | exact HR.out | apply Rw.set)) <;> rfl
    · repeat (first | exact HB2.out | refine Below.setCell ?_ HG2.out _)
  · have LEN : ([1, 1, 1] : List Int).length = 3 := rfl
    go_enter Tryd.func11, Tryd.ntmps11
    go_wp2_with (first | (go_at_call 23; refine m1.mono ?_; rintro e w1 ⟨rfl, b1⟩; have B1 := hide b1; clear b1) | (go_at_call 24; refine (mF _).mono ?_; rintro e w2_ ⟨rfl, rfl⟩) | (at_builtin; refine wpList_append_nums (by rfl) _ _ (by rfl) w.heap.size 0 _ _ (by rfl) (own_none2 _ _ B1.out.size) _ [1, 1, 1] (by rfl) (HL.out.on (blw_alloc B1.out _)) (by rw [LEN]; omega) (Nat.le_trans B1.out.size (by simp)) ?_; intro v' w2 hown hgr; have HB2 := hide (below_app2 (blw_alloc B1.out (.cells #[] 2)) (Nat.le_trans B1.out.size (by simp)) (own_none2 _ _ B1.out.size) hgr); have hw2 : ∃ g cap, v' = .slice (some ⟨g, 0, none⟩) 3 cap ∧ w.heap.size ≤ g ∧ 3 ≤ cap ∧ Rw w2 g [1, 1, 1] := (Rw.of_owns (n := 3) (l := [1, 1, 1]) (by rw [LEN] at hown; exact hown) (by decide) LEN.symm); obtain ⟨g, cap, rfl, hg2, hc2, hrw⟩ := hw2; have HG2 := hide hg2; have HR := hide hrw; have HC2 := hide hc2; clear hown hgr hg2 hrw hc2; have c0 := HR.out.cell 0 (x := 1) rfl; have c1 := HR.out.cell 1 (x := 1) rfl; have c2 := HR.out.cell 2 (x := 1) rfl; have f1 := HR.out.fr 1; have f2 := HR.out.fr 2) | (go_at_call 27; refine (mf _ _).mono ?_; rintro e w3_ ⟨rfl, rfl⟩))
    go_ret2
    refine ⟨g, cap, rfl, ?_, HG2.out, HC2.out, ?_⟩
    · (repeat (first | exact HR.out | apply Rw.set)) <;> rfl
    · repeat (first | exact HB2.out | refine Below.setCell ?_ HG2.out _)
end Go.Proofs.YthifgfhgkdjkfaaDoor
